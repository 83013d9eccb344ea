/- Since when two items of a log are together: the answer as a plain function, and what is true of it. Condition: none. -/
import Derived.Test.YtdbkoicbhddpfaaBackTo
namespace Go.Proofs.Ytdbkoicbhddpfaa
open Go.RowKit Go.Shelf

/-- The first k from a on, of f numbers, for which tg holds. -/
def firstT (tg : Nat → Bool) : Nat → Nat → Option Nat
  | _, 0 => none
  | k, f + 1 => if tg k = true then some k else firstT tg (k + 1) f
theorem firstT_some (tg : Nat → Bool) {x : Nat} (hx : tg x = true) : ∀ (f k : Nat), (∀ j, k ≤ j → j < x → tg j = false) → k ≤ x → x < k + f → firstT tg k f = some x
  | 0, k, _, h1, h2 => by omega
  | f + 1, k, h, h1, h2 => by
    unfold firstT
    by_cases e : k = x
    · subst e
      rw [if_pos hx]
    · rw [if_neg (by rw [h k (Nat.le_refl _) (by omega)]; decide)]
      exact firstT_some tg hx f (k + 1) (fun j h3 h4 => h j (by omega) h4) (by omega) (by omega)
theorem firstT_none (tg : Nat → Bool) : ∀ (f k : Nat), (∀ j, k ≤ j → j < k + f → tg j = false) → firstT tg k f = none
  | 0, _, _ => rfl
  | f + 1, k, h => by
    unfold firstT
    rw [if_neg (by rw [h k (Nat.le_refl _) (by omega)]; decide)]
    exact firstT_none tg f (k + 1) (fun j h1 h2 => h j (by omega) (by omega))
/-- The forest behind k steps. -/
def upAt (xs : List Int) (ss : List (Int × Int)) (k : Nat) : List Int := (builtL (roots xs.length) (ss.take k)).getD []
/-- Whether two items are together behind k steps. -/
def tgN (xs : List Int) (ss : List (Int × Int)) (a b k : Nat) : Bool := decide (rootI (upAt xs ss k) a = rootI (upAt xs ss k) b)
def optI : Option Nat → Int
  | some k => (k : Int)
  | none => -1
/-- JoinedAt's answer. -/
def jatN (xs : List Int) (ss : List (Int × Int)) (a b : Int) : Int := if logV xs ss && itemB xs a && itemB xs b then optI (firstT (tgN xs ss a.toNat b.toNat) 0 (ss.length + 1)) else -1
theorem upAt_built {xs : List Int} {ss : List (Int × Int)} (hv : logV xs ss = true) {k : Nat} (hk : k ≤ ss.length) : builtL (roots xs.length) (ss.take k) = some (upAt xs ss k) ∧ (upAt xs ss k).length = xs.length ∧ fvB (upAt xs ss k) = true ∧ logV (upAt xs ss k) (ss.take k) = true := by
  obtain ⟨u, hu, h1, h2, h3⟩ := bk_take hv hk
  have e : upAt xs ss k = u := by unfold upAt; rw [hu]; rfl
  rw [e]
  exact ⟨hu, h1, h2, h3⟩
theorem upAt_all {xs : List Int} {ss : List (Int × Int)} (hv : logV xs ss = true) : upAt xs ss ss.length = xs := by
  unfold upAt
  rw [List.take_of_length_le (Nat.le_refl _), (logV_parts hv).2.1]
  rfl
/-- The step behind k steps. -/
theorem upAt_step {xs : List Int} {ss : List (Int × Int)} (hv : logV xs ss = true) {k : Nat} (hk : k < ss.length) : okStep (upAt xs ss k) (ss[k]?.getD (0, 0)) = true ∧ upAt xs ss (k + 1) = hang (upAt xs ss k) (ss[k]?.getD (0, 0)).1.toNat (ss[k]?.getD (0, 0)).2.toNat ∧ Two (upAt xs ss k) (ss[k]?.getD (0, 0)).1.toNat (ss[k]?.getD (0, 0)).2.toNat := by
  obtain ⟨h1, _, h3, _⟩ := upAt_built hv (Nat.le_of_lt hk)
  obtain ⟨h5, _, _, _⟩ := upAt_built hv (show k + 1 ≤ ss.length by omega)
  have h6 := h5
  rw [take_snoc hk (0, 0), builtL_snoc _ h1] at h6
  split at h6
  · rename_i hok
    injection h6 with h6
    obtain ⟨T, e⟩ := okStep_two h3 hok
    exact ⟨hok, by rw [← h6, e], T⟩
  · cases h6
/-- Who is together stays so. -/
theorem tgN_next {xs : List Int} {ss : List (Int × Int)} (hv : logV xs ss = true) {a b : Nat} (ha : a < xs.length) (hb : b < xs.length) {k : Nat} (hk : k < ss.length) (h : tgN xs ss a b k = true) : tgN xs ss a b (k + 1) = true := by
  obtain ⟨_, e, T⟩ := upAt_step hv hk
  obtain ⟨_, hl, _, _⟩ := upAt_built hv (Nat.le_of_lt hk)
  unfold tgN at h ⊢
  have h := of_decide_eq_true h
  refine decide_eq_true ?_
  rw [e, hang_root T (by omega), hang_root T (by omega), h]
theorem tgN_from {xs : List Int} {ss : List (Int × Int)} (hv : logV xs ss = true) {a b : Nat} (ha : a < xs.length) (hb : b < xs.length) {k : Nat} (h : tgN xs ss a b k = true) : ∀ d, k + d ≤ ss.length → tgN xs ss a b (k + d) = true
  | 0, _ => h
  | d + 1, hd => tgN_next hv ha hb (k := k + d) (by omega) (tgN_from hv ha hb h d (by omega))
theorem jat_yes {xs : List Int} {ss : List (Int × Int)} (hv : logV xs ss = true) {a b : Nat} (ha : a < xs.length) (hb : b < xs.length) : jatN xs ss (a : Int) (b : Int) = optI (firstT (tgN xs ss a b) 0 (ss.length + 1)) := by
  obtain ⟨_, _, hf⟩ := logV_parts hv
  unfold jatN
  rw [hv, item_of hf (by omega) (by omega), item_of hf (by omega) (by omega)]
  simp
/-- Together behind x steps and not ahead of it. -/
theorem jat_at {xs : List Int} {ss : List (Int × Int)} (hv : logV xs ss = true) {a b : Nat} (ha : a < xs.length) (hb : b < xs.length) {x : Nat} (hx : x ≤ ss.length) (h1 : tgN xs ss a b x = true) (h2 : ∀ j, j < x → tgN xs ss a b j = false) : jatN xs ss (a : Int) (b : Int) = (x : Int) := by
  rw [jat_yes hv ha hb, firstT_some _ h1 _ _ (fun j _ h => h2 j h) (Nat.zero_le _) (by omega)]
  rfl
/-- Not together at all. -/
theorem jat_never {xs : List Int} {ss : List (Int × Int)} (hv : logV xs ss = true) {a b : Nat} (ha : a < xs.length) (hb : b < xs.length) (h : tgN xs ss a b ss.length = false) : jatN xs ss (a : Int) (b : Int) = -1 := by
  rw [jat_yes hv ha hb, firstT_none]
  · rfl
  · intro j _ hj
    cases e : tgN xs ss a b j with
    | false => rfl
    | true =>
      have := tgN_from hv ha hb e (ss.length - j) (by omega)
      rw [show j + (ss.length - j) = ss.length by omega, h] at this
      cases this
/-- Apart behind x steps, together behind one more. -/
theorem jat_next {xs : List Int} {ss : List (Int × Int)} (hv : logV xs ss = true) {a b : Nat} (ha : a < xs.length) (hb : b < xs.length) {x : Nat} (hx : x < ss.length) (h1 : tgN xs ss a b (x + 1) = true) (h2 : tgN xs ss a b x = false) : jatN xs ss (a : Int) (b : Int) = ((x + 1 : Nat) : Int) := by
  refine jat_at hv ha hb (by omega) h1 fun j hj => ?_
  cases e : tgN xs ss a b j with
  | false => rfl
  | true =>
    have := tgN_from hv ha hb e (x - j) (by omega)
    rw [show j + (x - j) = x by omega, h2] at this
    cases this
theorem jat_no {xs : List Int} {ss : List (Int × Int)} {a b : Int} (h : ¬ (logV xs ss = true ∧ itemB xs a = true ∧ itemB xs b = true)) : jatN xs ss a b = -1 := by
  unfold jatN
  rw [if_neg (by simpa [and_assoc] using h)]
theorem jat_type : (Try.prog.info? 26).isSome = (Try.prog.info? 26).isSome := rfl
end Go.Proofs.Ytdbkoicbhddpfaa
