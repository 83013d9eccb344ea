/- Cutting a string at a slash: the model's l13Cut and strings.SplitN; ParseGrid, of the program and of the model. Condition: strings up to 1048576 bytes. -/
import Derived.Test.YtecleelcnjhimaaDoorGridV
import Derived.Test.YtecleelcnjhimaaDoorStrLay
import Derived.Shelf.Strings.SplitShaped
namespace Go.Proofs.YtecleelcnjhimaaDoor
open Go.RowKit Go.Shelf

def baT (l : List UInt8) : ByteArray := ⟨l.toArray⟩
theorem baT_data (s : ByteArray) : baT s.data.toList = s := ByteArray.ext (by simp [baT])
theorem dlen (s : ByteArray) : s.data.toList.length = s.size := Array.length_toList
theorem baT_size (l : List UInt8) : (baT l).size = l.length := by simp [baT, ByteArray.size]
def limL (k : Nat) (l : List UInt8) : List (List UInt8) := Lib.splitK [47] 0 k l
def fullL (l : List UInt8) : List (List UInt8) := limL (l.count 47) l
theorem idx_none : ∀ {l : List UInt8}, (47 : UInt8) ∉ l → Lib.index l [47] = -1
  | [], _ => rfl
  | b :: l, h => by
    have h1 : b ≠ 47 := fun e => h (by simp [e])
    have h2 := idx_none (l := l) (fun e => h (by simp [e]))
    have hp : ([47] : List UInt8).isPrefixOf (b :: l) = false := by simp [List.isPrefixOf, Ne.symm h1]
    rw [Lib.index, hp, h2]
    rfl
theorem idx_first {b : List UInt8} : ∀ {a : List UInt8}, (47 : UInt8) ∉ a → Lib.index (a ++ 47 :: b) [47] = (a.length : Int)
  | [], _ => by rw [List.nil_append, Lib.index]; simp [List.isPrefixOf]
  | x :: a, h => by
    have h1 : x ≠ 47 := fun e => h (by simp [e])
    have h2 := idx_first (b := b) (a := a) (fun e => h (by simp [e]))
    have hp : ([47] : List UInt8).isPrefixOf (x :: (a ++ 47 :: b)) = false := by simp [List.isPrefixOf, Ne.symm h1]
    rw [List.cons_append, Lib.index, hp, h2]
    have : ((a.length : Int) == -1) = false := by simp
    rw [this]
    simp
theorem lim_none {k : Nat} {l : List UInt8} (h : (47 : UInt8) ∉ l) : limL k l = [l] := by
  cases k with
  | zero => rfl
  | succ k => show Lib.splitK _ _ _ _ = _; rw [Lib.splitK, idx_none h]; rfl
theorem lim_step {k : Nat} {a b : List UInt8} (h : (47 : UInt8) ∉ a) : limL (k + 1) (a ++ 47 :: b) = a :: limL k b := by
  show Lib.splitK _ _ _ _ = _
  rw [Lib.splitK, idx_first h]
  have : ((a.length : Int) == -1) = false := by simp
  rw [this]
  simp [limL]
theorem full_none {l : List UInt8} (h : (47 : UInt8) ∉ l) : fullL l = [l] := lim_none h
theorem count_step {a b : List UInt8} (h : (47 : UInt8) ∉ a) : (a ++ 47 :: b).count 47 = b.count 47 + 1 := by
  rw [List.count_append, List.count_eq_zero.2 h, List.count_cons_self, Nat.zero_add]
theorem full_step {a b : List UInt8} (h : (47 : UInt8) ∉ a) : fullL (a ++ 47 :: b) = a :: fullL b := by
  unfold fullL
  rw [count_step h, lim_step h]
theorem lim_full : ∀ (k : Nat) (l : List UInt8), l.count 47 ≤ k → limL k l = fullL l
  | 0, l, h => by
    have h0 : (47 : UInt8) ∉ l := List.count_eq_zero.1 (by omega)
    rw [full_none h0, lim_none h0]
  | k + 1, l, h => by
    by_cases hm : (47 : UInt8) ∈ l
    · obtain ⟨a, b, rfl, ha⟩ := List.eq_append_cons_of_mem hm
      rw [count_step ha] at h
      rw [lim_step ha, full_step ha, lim_full k b (by omega)]
    · rw [full_none hm, lim_none hm]
theorem lim_len : ∀ (k : Nat) (l : List UInt8), k ≤ l.count 47 → (limL k l).length = k + 1
  | 0, _, _ => rfl
  | k + 1, l, h => by
    have hm : (47 : UInt8) ∈ l := List.count_pos_iff.1 (by omega)
    obtain ⟨a, b, rfl, ha⟩ := List.eq_append_cons_of_mem hm
    rw [count_step ha] at h
    rw [lim_step ha, List.length_cons, lim_len k b (by omega)]
theorem full_len (l : List UInt8) : (fullL l).length = l.count 47 + 1 := lim_len _ _ (Nat.le_refl _)
theorem lim_size : ∀ (k : Nat) (l x : List UInt8), x ∈ limL k l → x.length ≤ l.length
  | 0, l, x, h => by
    have : x = l := by simpa [limL, Lib.splitK] using h
    rw [this]; exact Nat.le_refl _
  | k + 1, l, x, h => by
    by_cases hm : (47 : UInt8) ∈ l
    · obtain ⟨a, b, rfl, ha⟩ := List.eq_append_cons_of_mem hm
      rw [lim_step ha] at h
      rcases List.mem_cons.1 h with rfl | h
      · simp
      · have := lim_size k b x h
        simp
        omega
    · rw [lim_none hm] at h
      have : x = l := by simpa using h
      rw [this]; exact Nat.le_refl _
/-- A string cut at all slashes. -/
def cutT (s : ByteArray) : List ByteArray := (fullL s.data.toList).map baT
theorem cutT_len (s : ByteArray) : (cutT s).length ≤ s.size + 1 := by
  have := full_len s.data.toList
  have h2 : s.data.toList.count 47 ≤ s.data.toList.length := List.count_le_length
  have h3 : s.data.toList.length = s.size := dlen s
  simp only [cutT, List.length_map]
  omega
theorem cutT_size {s x : ByteArray} (h : x ∈ cutT s) : x.size ≤ s.size := by
  obtain ⟨l, hl, rfl⟩ := List.mem_map.1 h
  have := lim_size _ _ _ hl
  rw [baT_size]
  rwa [dlen] at this
/-- A string cut at the first slashes only, as many as SplitN with 7 cuts. -/
def limT (s : ByteArray) : List ByteArray := Lib.splitB ⟨#[47]⟩ 0 (min 7 (s.size + 1) - 1) s
theorem limT_eq (s : ByteArray) : limT s = (limL (min 7 (s.size + 1) - 1) s.data.toList).map baT := by
  have h := Lib.splitB_data ⟨#[47]⟩ 0 (min 7 (s.size + 1) - 1) s
  show _ = (Lib.splitK [47] 0 _ _).map baT
  rw [show ([47] : List UInt8) = (ByteArray.mk #[47]).data.toList from rfl, ← h, List.map_map]
  unfold limT
  refine (List.map_id'' (fun x => ?_) _).symm
  exact baT_data x
theorem limT_len (s : ByteArray) : (limT s).length ≤ 7 := by
  have := Lib.splitB_length_le ⟨#[47]⟩ 0 (min 7 (s.size + 1) - 1) s
  unfold limT
  omega
theorem limT_cap (s : ByteArray) : (limT s).length ≤ min 7 (s.size + 1) := by
  have := Lib.splitB_length_le ⟨#[47]⟩ 0 (min 7 (s.size + 1) - 1) s
  unfold limT
  omega
theorem limT_size {s x : ByteArray} (h : x ∈ limT s) : x.size ≤ s.size := by
  rw [limT_eq] at h
  obtain ⟨l, hl, rfl⟩ := List.mem_map.1 h
  have := lim_size _ _ _ hl
  rw [baT_size]
  rwa [dlen] at this
/-- Cut so or so, it is the same grid, or none. -/
theorem limT_gv (s : ByteArray) : gvB (limT s) = gvB (cutT s) ∧ (gvB (cutT s) = true → limT s = cutT s) := by
  by_cases h : s.data.toList.count 47 ≤ min 7 (s.size + 1) - 1
  · have : limT s = cutT s := by rw [limT_eq, lim_full _ _ h]; rfl
    rw [this]
    exact ⟨rfl, fun _ => rfl⟩
  · have h2 : s.data.toList.count 47 ≤ s.data.toList.length := List.count_le_length
    have h3 : s.data.toList.length = s.size := dlen s
    have h4 : (limT s).length = 7 := by
      rw [limT_eq, List.length_map, lim_len _ _ (by omega)]
      omega
    have h5 : 8 ≤ (cutT s).length := by
      simp only [cutT, List.length_map]
      rw [full_len]
      omega
    have e1 := gv_len (xs := limT s) (by omega)
    have e2 := gv_len (xs := cutT s) (by omega)
    rw [e1, e2]
    exact ⟨rfl, fun h => by cases h⟩
/-- What ParseGrid answers. -/
def pgN (s : ByteArray) : List ByteArray := if gvB (cutT s) = true then cutT s else []
theorem pgN_yes {s : ByteArray} (h : gvB (cutT s) = true) : pgN s = cutT s := by unfold pgN; rw [if_pos h]
theorem pgN_no {s : ByteArray} (h : gvB (cutT s) = false) : pgN s = [] := by unfold pgN; rw [h]; simp
theorem pgN_len (s : ByteArray) : (pgN s).length ≤ 6 := by
  cases h : gvB (cutT s) with
  | false => rw [pgN_no h]; simp
  | true => rw [pgN_yes h]; exact (gv_parts h).1.2

/-- Where the model's loop stands: what is cut off, and what is still to be looked at. -/
def CutAt (s : ByteArray) (i f : Nat) (A : List ByteArray) : Prop :=
  (i ≤ s.size ∧ f ≤ i ∧ A ++ (fullL (s.data.toList.drop f)).map baT = cutT s ∧ (47 : UInt8) ∉ (s.data.toList.drop f).take (i - f)) ∨ (i = s.size + 1 ∧ A = cutT s)
theorem CutAt.start (s : ByteArray) : CutAt s 0 0 [] := .inl ⟨Nat.zero_le _, Nat.le_refl _, rfl, by simp⟩
theorem baT_extract (s : ByteArray) {f i : Nat} : baT ((s.data.toList.drop f).take (i - f)) = s.extract f i := by
  rw [← baT_data (s.extract f i)]
  congr 1
  rw [Lib.extract_data]
theorem CutAt.room {s : ByteArray} {i f : Nat} {A : List ByteArray} (h : CutAt s i f A) (hi : i ≤ s.size) : A.length ≤ s.size := by
  rcases h with ⟨_, _, h, _⟩ | ⟨h, _⟩
  · have h1 := congrArg List.length h
    have h2 := cutT_len s
    have h3 := full_len (s.data.toList.drop f)
    rw [List.length_append, List.length_map] at h1
    omega
  · omega
theorem CutAt.last {s : ByteArray} {f : Nat} {A : List ByteArray} (h : CutAt s s.size f A) : f ≤ s.size ∧ CutAt s (s.size + 1) (s.size + 1) (A ++ [s.extract f s.size]) := by
  rcases h with ⟨_, hf, h, hn⟩ | ⟨h, _⟩
  · refine ⟨hf, .inr ⟨rfl, ?_⟩⟩
    have h3 : s.data.toList.length = s.size := dlen s
    have e : (s.data.toList.drop f).take (s.size - f) = s.data.toList.drop f := List.take_of_length_le (by rw [List.length_drop, h3]; exact Nat.le_refl _)
    have e2 := baT_extract s (f := f) (i := s.size)
    rw [e] at hn e2
    rw [full_none hn] at h
    rw [← h, ← e2]
    rfl
  · omega
theorem CutAt.hit {s : ByteArray} {i f : Nat} {A : List ByteArray} (h : CutAt s i f A) (hi : i < s.size) (hb : s[i] = 47) : f ≤ i ∧ CutAt s (i + 1) (i + 1) (A ++ [s.extract f i]) := by
  rcases h with ⟨_, hf, h, hn⟩ | ⟨h, _⟩
  · have h3 : s.data.toList.length = s.size := dlen s
    refine ⟨hf, .inl ⟨by omega, Nat.le_refl _, ?_, by simp⟩⟩
    have hg : s.data.toList[i]'(by omega) = 47 := hb
    have e : s.data.toList.drop f = (s.data.toList.drop f).take (i - f) ++ 47 :: s.data.toList.drop (i + 1) := by
      have e1 : (s.data.toList.drop f).drop (i - f) = 47 :: s.data.toList.drop (i + 1) := by
        rw [List.drop_drop, show f + (i - f) = i by omega, List.drop_eq_getElem_cons (by omega : i < s.data.toList.length), hg]
      rw [← e1, List.take_append_drop]
    rw [e, full_step hn, List.map_cons, baT_extract s] at h
    rw [List.append_assoc]
    exact h
  · omega
theorem CutAt.miss {s : ByteArray} {i f : Nat} {A : List ByteArray} (h : CutAt s i f A) (hi : i < s.size) (hb : s[i] ≠ 47) : CutAt s (i + 1) f A := by
  rcases h with ⟨_, hf, h, hn⟩ | ⟨h, _⟩
  · have h3 : s.data.toList.length = s.size := dlen s
    refine .inl ⟨by omega, by omega, h, ?_⟩
    have hl : i - f < (s.data.toList.drop f).length := by rw [List.length_drop]; omega
    have hg : (s.data.toList.drop f)[i - f] = s[i] := by
      rw [List.getElem_drop]
      show s.data.toList[f + (i - f)] = s.data.toList[i]
      congr 1
      omega
    rw [show i + 1 - f = (i - f) + 1 by omega, List.take_succ_eq_append_getElem hl, hg]
    intro hm
    rcases List.mem_append.1 hm with hm | hm
    · exact hn hm
    · exact hb (List.mem_singleton.1 hm).symm
  · omega
theorem CutAt.done {s : ByteArray} {i f : Nat} {A : List ByteArray} (h : CutAt s i f A) (hi : ¬ i ≤ s.size) : A = cutT s := by
  rcases h with ⟨h, _⟩ | ⟨_, h⟩
  · exact absurd h hi
  · exact h
theorem CutAt.le {s : ByteArray} {i f : Nat} {A : List ByteArray} (h : CutAt s i f A) : i ≤ s.size + 1 := by
  rcases h with ⟨h, _⟩ | ⟨h, _⟩ <;> omega
theorem cut_fi {s : ByteArray} {f i : Nat} (hf : f ≤ i) (hi : i ≤ s.size) (w : World) : (Instr.slice 9 (.string s) (some (.int .i64 (f : Int))) (some (.int .i64 (i : Int))) none).run Tryd.prog w = .ok (.string (s.extract f i)) w := by
  have := run_slice_string (P := Tryd.prog) (w := w) 9 s .i64 .i64 (f : Int) (i : Int) Tryd.underlying9 (by omega) (by omega) (by omega)
  rw [this]
  have e1 : ((f : Int)).toNat = f := by omega
  have e2 : ((i : Int)).toNat = i := by omega
  rw [e1, e2]
end Go.Proofs.YtecleelcnjhimaaDoor
