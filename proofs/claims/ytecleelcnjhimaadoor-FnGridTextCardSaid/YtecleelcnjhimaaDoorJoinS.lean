/- strings.Join over words of the call's own: the contract at one separating byte, and the same text made one word at a time. Condition: lengths up to 1048576. -/
import Derived.Test.YtecleelcnjhimaaDoorTexts
import Derived.Test.YtecleelcnjhimaaDoorStrLay
import Derived.Shelf.Strings.OnBuilder
namespace Go.Proofs
open Go.Shelf
theorem Tryd.joinX : Builder.Extra Tryd.prog Tryd.layJoin_ren where
  sizeBuilder := by kernel_rfl
  liesBuilder := by kernel_rfl
  t5 := Tryd.underlying5
  a5 := Tryd.isAgg5
  z5 := Tryd.sizeOf5
  v5 := Tryd.zeroValue5
  infoByte := by kernel_rfl
  cellsByte := by kernel_rfl
  sizeByte := by kernel_rfl
  neB5 := by decide
end Go.Proofs
namespace Go.Proofs.YtecleelcnjhimaaDoor
open Go.RowKit Go.Shelf

theorem OwnT.form2 {w : World} {base : Nat} {v : Value} {zs : List ByteArray} (h : OwnT w base v zs) :
    ∃ A c, v = .slice A zs.length c ∧ RdT w w.heap.size A zs.length zs ∧ zs.length ≤ c := by
  obtain ⟨A, c, e, hr⟩ := h.form
  refine ⟨A, c, e, hr, ?_⟩
  rcases h.2 with ⟨hv, hx⟩ | ⟨g, cap, cur, hv, hbase, hh, hnc, hm, hsz, hcells⟩
  · have h0 : zs = [] := by simpa using hx
    subst h0
    exact Nat.zero_le _
  · rw [hv] at e
    injection e with _ _ e3
    omega
theorem inter_snoc (sep x : List UInt8) : ∀ ys : List (List UInt8), sep.intercalate (ys ++ [x]) = if ys = [] then x else sep.intercalate ys ++ sep ++ x
  | [] => by simp [List.intercalate]
  | [y] => by simp [List.intercalate]
  | y :: z :: zs => by
    have ih := inter_snoc sep x (z :: zs)
    rw [if_neg (by simp)] at ih ⊢
    have e : ∀ l : List (List UInt8), l ≠ [] → sep.intercalate (y :: l) = y ++ sep ++ sep.intercalate l := fun l hl => by
      cases l with
      | nil => exact absurd rfl hl
      | cons a b => simp [List.intercalate]
    rw [List.cons_append, e _ (by simp), ih, e _ (by simp)]
    simp [List.append_assoc]
/-- The first k words with sep between them. -/
def jnTo (sep : UInt8) (xs : List ByteArray) : Nat → ByteArray
  | 0 => ⟨#[]⟩
  | k + 1 => (if 0 < k then jnTo sep xs k ++ ⟨#[sep]⟩ else jnTo sep xs k) ++ xs[k]?.getD ByteArray.empty
theorem jnTo_step (sep : UInt8) (xs : List ByteArray) (k : Nat) : jnTo sep xs (k + 1) = (if 0 < k then jnTo sep xs k ++ ⟨#[sep]⟩ else jnTo sep xs k) ++ xs[k]?.getD ByteArray.empty := rfl
theorem jnTo_list {sep : UInt8} {xs : List ByteArray} : ∀ k, k ≤ xs.length → (jnTo sep xs k).data.toList = [sep].intercalate ((xs.take k).map (·.data.toList))
  | 0, _ => rfl
  | k + 1, hk => by
    have ih := jnTo_list (sep := sep) (xs := xs) k (by omega)
    rw [List.take_succ_eq_append_getElem (by omega), List.map_append, List.map_cons, List.map_nil, inter_snoc, jnTo, ByteArray.data_append, Array.toList_append, List.getElem?_eq_getElem (by omega : k < xs.length), Option.getD_some]
    by_cases h0 : 0 < k
    · rw [if_pos h0, if_neg (fun e => by
        have := congrArg List.length e
        simp only [List.length_map, List.length_take, List.length_nil] at this
        omega), ByteArray.data_append, Array.toList_append, ih]
    · have : k = 0 := by omega
      subst this
      rfl
theorem jnTo_size {sep : UInt8} {xs : List ByteArray} {m : Nat} (h : ∀ k, k < xs.length → (xs[k]?.getD ByteArray.empty).size ≤ m) : ∀ k, k ≤ xs.length → (jnTo sep xs k).size ≤ (m + 1) * k
  | 0, _ => Nat.le_refl _
  | k + 1, hk => by
    have ih := jnTo_size (sep := sep) h k (by omega)
    have h1 := h k (by omega)
    have e : (m + 1) * (k + 1) = (m + 1) * k + (m + 1) := Nat.mul_succ _ _
    rw [jnTo, ByteArray.size_append]
    split
    · rw [ByteArray.size_append]
      have : (ByteArray.mk #[sep]).size = 1 := rfl
      omega
    · omega
theorem joinS_any (A : Option Addr) (n c B : Nat) (xs : List ByteArray) (sep : UInt8) (w : World) (h : RdT w B A n xs) (hB : B ≤ w.heap.size) (hcap : n ≤ c) (hn : n ≤ 1048576) (h1 : 1 ≤ n) (hs : (Lib.join (xs.map (·.data.toList)) [sep]).length ≤ 1048576) :
    Calls Tryd.prog 34 #[.slice A n c, .string ⟨#[sep]⟩] w fun e w' => e = .returned (.string ⟨(Lib.join (xs.map (·.data.toList)) [sep]).toArray⟩) ∧ Below w.heap.size w w' := by
  obtain ⟨b, off, rfl, hlb, hc⟩ := h.2 (by omega)
  have := Any.strings_Join Tryd.layJoin Tryd.joinX b off c xs ⟨#[sep]⟩ w (fun j x hj => by
    have hj' := (List.getElem?_eq_some_iff.1 hj).1
    rw [hc j (by have := h.1; omega), hj]
    rfl) (by omega) (by have := h.1; omega) (by have := h.1; omega) (by exact Nat.le_trans hs (by omega))
  rw [h.1] at this
  exact this

/-- The same, its answer in the words of jnTo. -/
theorem joinTo_any (A : Option Addr) (n c B : Nat) (xs : List ByteArray) (sep : UInt8) (w : World) (h : RdT w B A n xs) (hB : B ≤ w.heap.size) (hcap : n ≤ c) (hn : n ≤ 1048576) (h1 : 1 ≤ n) (hs : (jnTo sep xs n).size ≤ 1048576) :
    Calls Tryd.prog 34 #[.slice A n c, .string ⟨#[sep]⟩] w fun e w' => e = .returned (.string (jnTo sep xs n)) ∧ Below w.heap.size w w' := by
  have he := jnTo_list (sep := sep) (xs := xs) n (by have := h.1; omega)
  rw [List.take_of_length_le (by have := h.1; omega)] at he
  have hj : Lib.join (xs.map (·.data.toList)) [sep] = (jnTo sep xs n).data.toList := he.symm
  have J := joinS_any A n c B xs sep w h hB hcap hn h1 (by rw [hj]; simpa using hs)
  rw [hj] at J
  have e0 : (ByteArray.mk (jnTo sep xs n).data.toList.toArray) = jnTo sep xs n := by cases jnTo sep xs n; simp
  rw [e0] at J
  exact J
end Go.Proofs.YtecleelcnjhimaaDoor
