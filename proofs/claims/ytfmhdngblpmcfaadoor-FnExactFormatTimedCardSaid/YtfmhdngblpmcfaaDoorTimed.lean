/- Timed forests: plain lists; the exact laws' helpers for them, and TimedValid of the specification. Condition: lengths up to 1048576. -/
import Derived.Test.YtfmhdngblpmcfaaDoorOffs
import Derived.Test.YtfmhdngblpmcfaaDoorHang
namespace Go.Proofs.YtfmhdngblpmcfaaDoor
open Go.RowKit

/-- Whether an item's time is valid. -/
def okTm (us ts : List Int) (i : Nat) : Bool :=
  if us[i]?.getD 0 = (i : Int) then decide (ts[i]?.getD 0 = 0)
  else decide (1 ≤ ts[i]?.getD 0 ∧ ts[i]?.getD 0 ≤ 24) && (decide (us[(us[i]?.getD 0).toNat]?.getD 0 = us[i]?.getD 0) || decide (ts[i]?.getD 0 < ts[(us[i]?.getD 0).toNat]?.getD 0))
theorem okTm_root {us ts : List Int} {k : Nat} (h : us[k]?.getD 0 = (k : Int)) : okTm us ts k = decide (ts[k]?.getD 0 = 0) := by unfold okTm; rw [if_pos h]
theorem okTm_link {us ts : List Int} {k y : Nat} (h : us[k]?.getD 0 = (y : Int)) (hy : y ≠ k) : okTm us ts k = (decide (1 ≤ ts[k]?.getD 0 ∧ ts[k]?.getD 0 ≤ 24) && (decide (us[y]?.getD 0 = (y : Int)) || decide (ts[k]?.getD 0 < ts[y]?.getD 0))) := by
  unfold okTm
  rw [h, if_neg (by omega), Int.toNat_natCast]
def tmB (us ts : List Int) : Bool := fvB us && decide (ts.length = us.length) && (List.range us.length).all (okTm us ts)
theorem tmB_v {us ts : List Int} (h : fvB us = false) : tmB us ts = false := by unfold tmB; rw [h]; rfl
theorem tmB_l {us ts : List Int} (h : ts.length ≠ us.length) : tmB us ts = false := by unfold tmB; rw [decide_eq_false h]; simp
theorem tmB_bad {us ts : List Int} {k : Nat} (hk : k < us.length) (h : okTm us ts k = false) : tmB us ts = false := by
  cases e : tmB us ts with
  | false => rfl
  | true =>
    unfold tmB at e
    simp only [Bool.and_eq_true, List.all_eq_true, List.mem_range] at e
    rw [e.2 k hk] at h
    cases h
theorem tmB_of {us ts : List Int} (h1 : fvB us = true) (h2 : ts.length = us.length) (h3 : ∀ k, k < us.length → okTm us ts k = true) : tmB us ts = true := by
  unfold tmB
  simp only [Bool.and_eq_true, decide_eq_true_eq, List.all_eq_true, List.mem_range]
  exact ⟨⟨h1, h2⟩, h3⟩
theorem tmB_parts {us ts : List Int} (h : tmB us ts = true) : fvB us = true ∧ ts.length = us.length ∧ ∀ k, k < us.length → okTm us ts k = true := by
  unfold tmB at h
  simp only [Bool.and_eq_true, decide_eq_true_eq, List.all_eq_true, List.mem_range] at h
  exact ⟨h.1.1, h.1.2, h.2⟩

/-- The forest of a time. -/
def atL (us ts : List Int) (m : Int) : List Int := (List.range us.length).map fun i : Nat => if m < ts[i]?.getD 0 then (i : Int) else us[i]?.getD 0
theorem atL_len (us ts : List Int) (m : Int) : (atL us ts m).length = us.length := by simp [atL]
theorem atL_get {us ts : List Int} {m : Int} {i : Nat} (h : i < us.length) : (atL us ts m)[i]?.getD 0 = if m < ts[i]?.getD 0 then (i : Int) else us[i]?.getD 0 := by simp [atL, h]
theorem atL_out {us ts : List Int} {m : Int} {i : Nat} (h : us.length ≤ i) : (atL us ts m)[i]?.getD 0 = us[i]?.getD 0 := by
  rw [List.getElem?_eq_none h, List.getElem?_eq_none (by rw [atL_len]; exact h)]
/-- A forest from which links have been cut. -/
def Sub (v u : List Int) : Prop := v.length = u.length ∧ ∀ i, step v i = none ∨ step v i = step u i
theorem step_atL {us ts : List Int} {m : Int} {i : Nat} (h : i < us.length) : step (atL us ts m) i = if m < ts[i]?.getD 0 then none else step us i := by
  unfold step nx
  rw [atL_get h]
  by_cases e : m < ts[i]?.getD 0
  · rw [if_pos e, if_pos e, if_pos rfl]
  · rw [if_neg e, if_neg e]
theorem step_atL_out {us ts : List Int} {m : Int} {i : Nat} (h : us.length ≤ i) : step (atL us ts m) i = step us i := by
  unfold step nx
  rw [atL_out h]
theorem atL_sub (us ts : List Int) {m m' : Int} (h : m ≤ m') : Sub (atL us ts m) (atL us ts m') := by
  refine ⟨by rw [atL_len, atL_len], fun i => ?_⟩
  rcases Nat.lt_or_ge i us.length with hi | hi
  · rw [step_atL hi, step_atL hi]
    by_cases e : m < ts[i]?.getD 0
    · exact .inl (if_pos e)
    · rw [if_neg e, if_neg (by omega)]
      exact .inr rfl
  · rw [step_atL_out hi, step_atL_out hi]
    exact .inr rfl
theorem atL_sub_all (us ts : List Int) (m : Int) : Sub (atL us ts m) us := by
  refine ⟨atL_len us ts m, fun i => ?_⟩
  rcases Nat.lt_or_ge i us.length with hi | hi
  · rw [step_atL hi]
    by_cases e : m < ts[i]?.getD 0
    · exact .inl (if_pos e)
    · exact .inr (if_neg e)
  · exact .inr (step_atL_out hi)
theorem sub_path {v u : List Int} (S : Sub v u) : ∀ {xs : List Nat} {o : Option Nat}, Path u o xs none → ∃ ys, ys.length ≤ xs.length ∧ Path v o ys none
  | [], _, h => ⟨[], Nat.le_refl _, h⟩
  | x :: xs, _, h => by
    rcases S.2 x with e | e
    · exact ⟨[x], by simp, h.1, e⟩
    · obtain ⟨ys, hl, hp⟩ := sub_path S (xs := xs) (o := step v x) (by rw [e]; exact h.2)
      exact ⟨x :: ys, by simpa using hl, h.1, hp⟩
theorem sub_fv {v u : List Int} (S : Sub v u) (hin : InB v) (h : fvB u = true) : fvB v = true := by
  obtain ⟨h1, h2, h3, h4⟩ := fv_parts h
  have hl := S.1
  refine fv_of (by omega) (by omega) hin fun i hi => ?_
  obtain ⟨ys, hy, hp⟩ := sub_path S (fv_path h (i := i) (by omega))
  have := h4 i (by omega)
  rw [way_done hp (by omega)]
  omega
theorem atL_in {us ts : List Int} {m : Int} (h : InB us) : InB (atL us ts m) := fun i hi => by
  rw [atL_len] at hi ⊢
  rw [atL_get hi]
  by_cases e : m < ts[i]?.getD 0
  · rw [if_pos e]; omega
  · rw [if_neg e]; exact h i hi
theorem atL_fv {us ts : List Int} (h : fvB us = true) (m : Int) : fvB (atL us ts m) = true := sub_fv (atL_sub_all us ts m) (atL_in (fv_in h)) h
theorem path_sub {v u : List Int} (S : Sub v u) : ∀ {xs : List Nat} {o : Option Nat} {r : Nat}, Path v o xs (some r) → Path u o xs (some r)
  | [], _, _, h => h
  | x :: xs, _, r, h => by
    rcases S.2 x with e | e
    · have h2 := h.2
      rw [e] at h2
      have := path_none h2
      subst this
      cases h2
    · exact ⟨h.1, path_sub S (by rw [← e]; exact h.2)⟩
/-- An item's root is that of its root in a forest from which links have been cut. -/
theorem sub_root {v u : List Int} (S : Sub v u) (hv : fvB v = true) (hu : fvB u = true) {i : Nat} (hi : i < u.length) : rootI u i = rootI u (rootI v i) := by
  have hl := S.1
  have hi2 : i < v.length := by omega
  obtain ⟨pre, h1, h2, _⟩ := last_path (i := i) (fv_path hv hi2) (by intro e; have := way_self v i; rw [e] at this; cases this)
  have hr : lastOf i (way v v.length i) = rootI v i := rfl
  rw [hr] at h2
  have hrl := (root_is hv hi2).1
  have hp := path_join (path_sub S h2) (fv_path hu (i := rootI v i) (by omega))
  have hw := path_uniq (fv_path hu hi) hp
  have hne : way u u.length (rootI v i) ≠ [] := by intro e; have := way_self u (rootI v i); rw [e] at this; cases this
  unfold rootI wayOf
  rw [hw]
  show lastOf i (pre ++ way u u.length (rootI v i)) = lastOf (rootI v i) (way u u.length (rootI v i))
  unfold lastOf
  rw [List.getLast?_append]
  cases hg : (way u u.length (rootI v i)).getLast? with
  | none => exact absurd (List.getLast?_eq_none_iff.1 hg) hne
  | some z => rfl
/-- Who is together once stays together. -/
theorem at_tog_on {us ts : List Int} (h : fvB us = true) {m m' : Int} (hm : m ≤ m') {a b : Nat} (ha : a < us.length) (hb : b < us.length) (ht : rootI (atL us ts m) a = rootI (atL us ts m) b) : rootI (atL us ts m') a = rootI (atL us ts m') b := by
  have S := atL_sub us ts hm
  have e1 := sub_root S (atL_fv h m) (atL_fv h m') (i := a) (by rw [atL_len]; exact ha)
  have e2 := sub_root S (atL_fv h m) (atL_fv h m') (i := b) (by rw [atL_len]; exact hb)
  exact e1.trans ((congrArg _ ht).trans e2.symm)
/-- Both slices are short enough, or not. -/
theorem szTimed_any (A1 A2 : Option Addr) (n1 c1 n2 c2 : Nat) (w : World) (hn1 : n1 ≤ maxLen) (hn2 : n2 ≤ maxLen) :
    Calls Tryd.prog 33 #[.agg #[.slice A1 n1 c1, .slice A2 n2 c2], .int .i64 1048576] w fun e w' => e = .returned (.int .i64 (if 1048576 < n1 + n2 then -1 else 1048576 - (n1 : Int) - (n2 : Int))) ∧ Below w.heap.size w w' := by
  obtain ⟨W, hW⟩ : ∃ W, W = w.alloc (.cells #[.slice A1 n1 c1, .slice A2 n2 c2] 61) := ⟨_, rfl⟩
  have hb : Below w.heap.size w W := by rw [hW]; exact (Below.refl _ _).alloc (Nat.le_refl _) _
  have HB := Lib.hid hb
  have HW := Lib.hid hW
  clear hb hW
  by_cases h1 : 1048576 < n1
  · have S1 : Hid (∀ w2, Calls Tryd.prog 49 #[.slice A1 n1 c1, .int .i64 1048576] w2 fun e w' => e = .returned (.int .i64 (-1)) ∧ w2 = w') := fun w2 => by
      have := szIntS_any A1 n1 c1 1048576 w2 hn1 (by decide) (by decide)
      rw [if_pos (by omega)] at this
      exact this
    rw [if_pos (by omega)]
    go_enter Tryd.func33, Tryd.ntmps33
    go_wp2_with fail
    rw [← HW.out]
    refine (S1.out _).mono ?_
    rintro e w1 ⟨rfl, rfl⟩
    go_wp2_with fail
    go_ret
    exact ⟨rfl, HB.out⟩
  · have S1 : Hid (∀ w2, Calls Tryd.prog 49 #[.slice A1 n1 c1, .int .i64 1048576] w2 fun e w' => e = .returned (.int .i64 (1048576 - (n1 : Int))) ∧ w2 = w') := fun w2 => by
      have := szIntS_any A1 n1 c1 1048576 w2 hn1 (by decide) (by decide)
      rw [if_neg (by omega)] at this
      exact this
    have t1 : ¬ (1048576 - (n1 : Int) < 0) := by omega
    by_cases h2 : 1048576 < n1 + n2
    · have S2 : Hid (∀ w2, Calls Tryd.prog 49 #[.slice A2 n2 c2, .int .i64 (1048576 - (n1 : Int))] w2 fun e w' => e = .returned (.int .i64 (-1)) ∧ w2 = w') := fun w2 => by
        have := szIntS_any A2 n2 c2 (1048576 - (n1 : Int)) w2 hn2 (by omega) (by omega)
        rw [if_pos (by omega)] at this
        exact this
      rw [if_pos h2]
      clear h2
      go_enter Tryd.func33, Tryd.ntmps33
      go_wp2_with fail
      refine (S1.out _).mono ?_
      rintro e w1 ⟨rfl, rfl⟩
      go_wp2_with fail
      rw [← HW.out]
      refine (S2.out _).mono ?_
      rintro e w1 ⟨rfl, rfl⟩
      go_wp2_with fail
      go_ret
      exact ⟨rfl, HB.out⟩
    · have S2 : Hid (∀ w2, Calls Tryd.prog 49 #[.slice A2 n2 c2, .int .i64 (1048576 - (n1 : Int))] w2 fun e w' => e = .returned (.int .i64 (1048576 - (n1 : Int) - (n2 : Int))) ∧ w2 = w') := fun w2 => by
        have := szIntS_any A2 n2 c2 (1048576 - (n1 : Int)) w2 hn2 (by omega) (by omega)
        rw [if_neg (by omega)] at this
        exact this
      have t2 : ¬ (1048576 - (n1 : Int) - (n2 : Int) < 0) := by omega
      rw [if_neg h2]
      clear h2
      go_enter Tryd.func33, Tryd.ntmps33
      go_wp2_with fail
      refine (S1.out _).mono ?_
      rintro e w1 ⟨rfl, rfl⟩
      go_wp2_with fail
      rw [← HW.out]
      refine (S2.out _).mono ?_
      rintro e w1 ⟨rfl, rfl⟩
      go_wp2_with fail
      go_ret
      exact ⟨rfl, HB.out⟩
set_option maxRecDepth 100000 in
set_option maxHeartbeats 4000000 in
theorem toTimed_any (A1 A2 : Option Addr) (n1 c1 n2 c2 : Nat) (xs ys : List Int) (w : World) (h1 : Rd w w.heap.size A1 n1 xs) (h2 : Rd w w.heap.size A2 n2 ys) (hb1 : n1 ≤ 1048576) (hb2 : n2 ≤ 1048576) :
    Calls Tryd.prog 35 #[.agg #[.slice A1 n1 c1, .slice A2 n2 c2]] w fun e w' => ∃ v v2, e = .returned (.agg #[v, v2]) ∧ Own w' w.heap.size v xs ∧ Own w' w.heap.size v2 ys ∧ (∀ x, v.ownBlock = some x → ∀ y, v2.ownBlock = some y → x ≠ y) ∧ Below w.heap.size w w' := by
  obtain ⟨W, hW⟩ : ∃ W, W = ((w.alloc (.cells #[.slice A1 n1 c1, .slice A2 n2 c2] 61)).alloc (.cells #[.slice none 0 0, .slice none 0 0] 64)).alloc (.cells #[.slice none 0 0, .slice none 0 0] 64) := ⟨_, rfl⟩
  have hbW : Below w.heap.size w W := by rw [hW]; exact (((Below.refl _ _).alloc (Nat.le_refl _) _).alloc (by simp) _).alloc (by simp; omega) _
  have hsW : W.heap.size = w.heap.size + 3 := by rw [hW]; simp
  obtain ⟨W1, hW1⟩ : ∃ W1, W1 = w.alloc (.cells #[.slice A1 n1 c1, .slice A2 n2 c2] 61) := ⟨_, rfl⟩
  obtain ⟨W2, hW2⟩ : ∃ W2, W2 = W1.alloc (.cells #[.slice none 0 0, .slice none 0 0] 64) := ⟨_, rfl⟩
  have e1 : W1.heap.size = w.heap.size + 1 := by rw [hW1]; simp
  have e2 : W2.heap.size = w.heap.size + 2 := by rw [hW2]; simp [e1]
  have eW : W = W2.alloc (.cells #[.slice none 0 0, .slice none 0 0] 64) := by rw [hW, hW2, hW1]
  have hT : W.heap[w.heap.size + 2]? = some (.cells #[.slice none 0 0, .slice none 0 0] 64 (0, 0)) := by rw [eW, ← e2]; exact World.alloc_heap_new W2 _
  have hR : W.heap[w.heap.size + 1]? = some (.cells #[.slice none 0 0, .slice none 0 0] 64 (0, 0)) := by
    rw [eW]
    refine (Below.heap_alloc _ _ _ (by omega)).trans ?_
    rw [hW2, ← e1]
    exact World.alloc_heap_new W1 _
  have hA : W.heap[w.heap.size]? = some (.cells #[.slice A1 n1 c1, .slice A2 n2 c2] 61 (0, 0)) := by
    rw [eW]
    refine (Below.heap_alloc _ _ _ (by omega)).trans ?_
    rw [hW2]
    refine (Below.heap_alloc _ _ _ (by omega)).trans ?_
    rw [hW1]
    exact World.alloc_heap_new w _
  have T1 := Lib.hid (toIntS_any A1 n1 c1 xs W (h1.to hbW) hb1)
  have T2 := Lib.hid (fun (w2 : World) (hb : Below w.heap.size w w2) => toIntS_any A2 n2 c2 ys w2 (h2.to hb) hb2)
  obtain ⟨P, hP⟩ : ∃ P, P = w.heap.size := ⟨_, rfl⟩
  rw [← hP] at hT hR hA hsW
  have HW := Lib.hid (And.intro hbW (And.intro hsW (And.intro hT (And.intro hR (And.intro hA hP)))))
  have HE := Lib.hid hW
  have HP := Lib.hid hP
  clear h1 h2 hW hbW hsW hW1 hW2 e1 e2 eW hT hR hA hP
  go_enter Tryd.func35, Tryd.ntmps35
  go_wp2_with fail
  rw [← HE.out, ← HP.out]
  refine T1.out.mono ?_
  rintro e w1 ⟨v, rfl, ho1, hb1⟩
  obtain ⟨B1, d1, rfl, _⟩ := ho1.form
  obtain ⟨V, hV⟩ : ∃ V, V = w1.setCell ⟨P + 2, 0, none⟩ (.slice B1 xs.length d1) := ⟨_, rfl⟩
  have hT1 := (hb1.block (P + 2) (by have := HW.out.2.1; omega)).trans HW.out.2.2.1
  have hA1 := (hb1.block P (by have := HW.out.2.1; omega)).trans HW.out.2.2.2.2.1
  have hR1 := (hb1.block (P + 1) (by have := HW.out.2.1; omega)).trans HW.out.2.2.2.1
  obtain ⟨⟨t1, t2⟩, f1, f2⟩ := boxTwo_cells hT1
  have hAV : V.heap[P]? = some (.cells #[.slice A1 n1 c1, .slice A2 n2 c2] 61 (0, 0)) := by rw [hV]; exact (Below.heap_setCell w1 ⟨P + 2, 0, none⟩ _ P (by show P ≠ P + 2; omega)).trans hA1
  have hRV : V.heap[P + 1]? = some (.cells #[.slice none 0 0, .slice none 0 0] 64 (0, 0)) := by rw [hV]; exact (Below.heap_setCell w1 ⟨P + 2, 0, none⟩ _ (P + 1) (by show P + 1 ≠ P + 2; omega)).trans hR1
  have hTV : V.heap[P + 2]? = some (.cells #[.slice B1 xs.length d1, .slice none 0 0] 64 (0, 0)) := by rw [hV]; exact boxTwo_put0 hT1 _
  have hbV : Below w.heap.size w V := by rw [hV]; exact (Below.on HW.out.1 hb1).setCell (p := ⟨P + 2, 0, none⟩) (by show w.heap.size ≤ P + 2; have := HP.out; omega) _
  have hx1 := ho1.blockOf
  have hoV : Own V W.heap.size (.slice B1 xs.length d1) xs := by
    rw [hV]
    exact ho1.kept (put_grown w1 _ _ _) (.inr (fun e => by have := (hx1 _ e).1; have := HW.out.2.1; omega))
  obtain ⟨⟨_, a2⟩, _⟩ := boxTwo_cells hAV
  have HV := Lib.hid (And.intro hbV (And.intro hRV (And.intro hTV hoV)))
  have HVE := Lib.hid hV
  have hsV : P + 3 ≤ V.heap.size := by
    have := hbV.size
    have := (Array.getElem?_eq_some_iff.1 hTV).1
    omega
  have T2 := Lib.hid (T2.out V hbV)
  have HS := Lib.hid hsV
  rw [hV] at a2
  clear ho1 hb1 hV hT1 hA1 hR1 hAV hRV hTV hbV hx1 hoV hsV
  go_wp2_with fail
  rw [← HVE.out]
  refine T2.out.mono ?_
  rintro e w2 ⟨v2, rfl, ho2, hb2⟩
  obtain ⟨B2, d2, rfl, _⟩ := ho2.form
  clear a2
  have hT2 := (hb2.block (P + 2) (by have := HS.out; omega)).trans HV.out.2.2.1
  have hR2 := (hb2.block (P + 1) (by have := HS.out; omega)).trans HV.out.2.1
  obtain ⟨⟨t1, t2⟩, f1, f2⟩ := boxTwo_cells hT2
  obtain ⟨U, hU⟩ : ∃ U, U = w2.setCell ⟨P + 2, 1, none⟩ (.slice B2 ys.length d2) := ⟨_, rfl⟩
  have hTU : U.heap[P + 2]? = some (.cells #[.slice B1 xs.length d1, .slice B2 ys.length d2] 64 (0, 0)) := by rw [hU]; exact boxTwo_put1 hT2 _
  have hRU : U.heap[P + 1]? = some (.cells #[.slice none 0 0, .slice none 0 0] 64 (0, 0)) := by rw [hU]; exact (Below.heap_setCell w2 ⟨P + 2, 1, none⟩ _ (P + 1) (by show P + 1 ≠ P + 2; omega)).trans hR2
  have hbU : Below w.heap.size w U := by rw [hU]; exact (Below.on HV.out.1 hb2).setCell (p := ⟨P + 2, 1, none⟩) (by show w.heap.size ≤ P + 2; have := HP.out; omega) _
  have hne := blocks_ne HV.out.2.2.2 ho2 (Nat.le_refl _)
  have hx1 := HV.out.2.2.2.blockOf
  have hx2 := ho2.blockOf
  have ho1U : Own U w.heap.size (.slice B1 xs.length d1) xs := by
    rw [hU]
    exact ((HV.out.2.2.2.keep hb2 (Nat.le_refl _)).kept (put_grown w2 _ _ _) (.inr (fun e => by have := (hx1 _ e).1; have := HW.out.2.1; omega))).less (by have := HW.out.1.size; omega)
  have ho2U : Own U w.heap.size (.slice B2 ys.length d2) ys := by
    rw [hU]
    exact (ho2.kept (put_grown w2 _ _ _) (.inr (fun e => by have := (hx2 _ e).1; have := HS.out; omega))).less (by have := HV.out.1.size; omega)
  have g1 := (boxTwo_cells hTU).1.1
  have g2 := (boxTwo_cells hTU).1.2
  obtain ⟨⟨r1, r2⟩, r3, r4⟩ := boxTwo_cells hRU
  have HU := Lib.hid (And.intro hbU (And.intro hRU (And.intro ho1U (And.intro ho2U (And.intro hne (And.intro hx1 hx2))))))
  have HUE := Lib.hid hU
  rw [hU] at g1 g2 r1 r2 r3 r4
  clear ho2 hb2 hT2 hR2 hTU hRU hbU hne hx1 hx2 ho1U ho2U hU
  go_wp2_with fail
  rw [← HUE.out]
  obtain ⟨hbU, hRU, ho1U, ho2U, hne, hx1, hx2⟩ := HU.out
  obtain ⟨⟨k1, k2⟩, _⟩ := boxTwo_cells (boxTwo_set hRU (.slice B1 xs.length d1) (.slice B2 ys.length d2))
  have hg := boxTwo_grown U (P + 1) (.slice B1 xs.length d1) (.slice B2 ys.length d2)
  refine bodyPost_ret (v := .agg #[.slice B1 xs.length d1, .slice B2 ys.length d2]) (by simp [results, Tryd.results35, go_sem, k1, k2]) rfl ?_
  exact ⟨_, _, rfl, ho1U.kept hg (.inr (fun e => by have := (hx1 _ e).1; have := HW.out.2.1; omega)), ho2U.kept hg (.inr (fun e => by have := (hx2 _ e).1; have := HS.out; omega)), hne, boxTwo_below hbU (by have := HP.out; omega) _ _⟩
set_option maxHeartbeats 2000000 in
theorem eqTimed_any (A1 A2 A3 A4 : Option Addr) (n1 c1 n2 c2 n3 c3 n4 c4 : Nat) (xs ys zs bs : List Int) (w : World) (h1 : Rd w w.heap.size A1 n1 xs) (h2 : Rd w w.heap.size A2 n2 zs) (h3 : Rd w w.heap.size A3 n3 ys) (h4 : Rd w w.heap.size A4 n4 bs) (hb1 : n1 ≤ 1048576) (hb2 : n2 ≤ 1048576) (hb3 : n3 ≤ 1048576) (hb4 : n4 ≤ 1048576) :
    Calls Tryd.prog 37 #[.agg #[.slice A1 n1 c1, .slice A2 n2 c2], .agg #[.slice A3 n3 c3, .slice A4 n4 c4]] w fun e w' => e = .returned (.bool (decide ((xs, zs) = (ys, bs)))) ∧ Below w.heap.size w w' := by
  rw [offs_eq]
  obtain ⟨W, hW⟩ : ∃ W, W = (w.alloc (.cells #[.slice A1 n1 c1, .slice A2 n2 c2] 64)).alloc (.cells #[.slice A3 n3 c3, .slice A4 n4 c4] 64) := ⟨_, rfl⟩
  have hb : Below w.heap.size w W := by rw [hW]; exact ((Below.refl _ _).alloc (Nat.le_refl _) _).alloc (by simp) _
  have E1 := Lib.hid (eqIntS_any A1 A3 n1 c1 n3 c3 _ _ xs ys W (h1.to hb) (h3.to hb) hb1 hb3)
  have E2 := Lib.hid (fun (k : Nat) => eqIntS_any A2 A4 n2 c2 n4 c4 _ _ zs bs (W.drewN k) ((h2.to hb).drewN k) ((h4.to hb).drewN k) hb2 hb4)
  obtain ⟨a, ha⟩ : ∃ a, a = decide (xs = ys) := ⟨_, rfl⟩
  obtain ⟨b, hb'⟩ : ∃ b, b = decide (zs = bs) := ⟨_, rfl⟩
  rw [← ha] at E1 ⊢
  rw [← hb'] at E2 ⊢
  have HB := Lib.hid hb
  have HW := Lib.hid hW
  clear h1 h2 h3 h4 ha hb' hb hW
  go_enter Tryd.func37, Tryd.ntmps37
  go_wp2_with fail
  rw [← HW.out]
  refine E1.out.mono ?_
  rintro e w1 ⟨rfl, k1, rfl⟩
  rw [HW.out]
  cases a with
  | false =>
    go_wp2_with fail
    rw [← HW.out]
    go_ret
    exact ⟨rfl, below_drewN HB.out _⟩
  | true =>
    have E2 := Lib.hid (E2.out k1)
    go_wp2_with fail
    rw [← HW.out]
    refine E2.out.mono ?_
    rintro e w2 ⟨rfl, k2, rfl⟩
    have HB2 := Lib.hid (below_drewN HB.out (k1 + k2))
    cases b
    all_goals
      go_wp2_with fail
      go_ret
      exact ⟨rfl, HB2.out⟩
set_option maxRecDepth 100000 in
set_option maxHeartbeats 8000000 in
theorem specTimed_any (A1 A2 : Option Addr) (n1 c1 n2 c2 B0 : Nat) (us ts : List Int) (w : World) (h1 : Rd w B0 A1 n1 us) (h2 : Rd w B0 A2 n2 ts) (hB0 : B0 ≤ w.heap.size) (hb1 : n1 ≤ 1048576) (hb2 : n2 ≤ 1048576) :
    Calls Tryd.prog 66 #[.agg #[.slice A1 n1 c1, .slice A2 n2 c2]] w fun e w' => e = .returned (.bool (tmB us ts)) ∧ Below w.heap.size w w' := by
  obtain ⟨W, hW⟩ : ∃ W, W = w.alloc (.cells #[.slice A1 n1 c1, .slice A2 n2 c2] 64) := ⟨_, rfl⟩
  have hbW : Below w.heap.size w W := by rw [hW]; exact (Below.refl _ _).alloc (Nat.le_refl _) _
  have hsW : w.heap.size < W.heap.size := by rw [hW]; simp
  have hA : W.heap[w.heap.size]? = some (.cells #[.slice A1 n1 c1, .slice A2 n2 c2] 64 (0, 0)) := by rw [hW]; exact World.alloc_heap_new w _
  have SV := Lib.hid (specValid_any A1 n1 c1 B0 us W (h1.below hbW hB0) (Nat.le_trans hB0 hbW.size) hb1)
  obtain ⟨r, hr⟩ : ∃ r, r = tmB us ts := ⟨_, rfl⟩
  rw [← hr]
  have hl1 := h1.1
  have hl2 := h2.1
  have HV : Hid (fvB us = false → r = false) := fun e => hr.trans (tmB_v e)
  have HL : Hid (n2 ≠ n1 → r = false) := fun e => hr.trans (tmB_l (by omega))
  have HBAD : Hid (∀ k, k < n1 → okTm us ts k = false → r = false) := fun k hk e => hr.trans (tmB_bad (by omega) e)
  have HGOOD : Hid (fvB us = true → n2 = n1 → (∀ k, k < n1 → okTm us ts k = true) → r = true) := fun e1 e2 e3 => hr.trans (tmB_of e1 (by omega) (fun k hk => e3 k (by omega)))
  have HLE := Lib.hid hl1
  obtain ⟨P, hP⟩ : ∃ P, P = w.heap.size := ⟨_, rfl⟩
  rw [← hP] at hA hsW
  have HW := Lib.hid (And.intro hbW (And.intro hsW (And.intro hA (And.intro (h1.below hbW hB0) (And.intro (h2.below hbW hB0) (Nat.le_trans hB0 hbW.size))))))
  have HE := Lib.hid hW
  have HP := Lib.hid hP
  cases hf : fvB us with
  | false =>
    rw [hf] at SV HV HGOOD
    have HF := Lib.hid (HV.out rfl)
    clear h1 h2 hl1 hl2 hr hW hbW hsW hA hP hf
    go_enter Tryd.func66, Tryd.ntmps66
    go_wp2_with fail
    rw [← HE.out, ← HP.out]
    refine SV.out.mono ?_
    rintro e w1 ⟨rfl, hb⟩
    have HB := Lib.hid (Below.on HW.out.1 hb)
    clear hb
    go_wp2_with fail
    go_ret
    exact ⟨ret_bool HF.out.symm, HB.out⟩
  | true =>
    have HIN := Lib.hid (fv_in hf)
    rw [hf] at SV HV HGOOD
    clear h1 h2 hl1 hl2 hr hW hbW hsW hA hP hf
    go_enter Tryd.func66, Tryd.ntmps66
    go_wp2_with fail
    rw [← HE.out, ← HP.out]
    refine SV.out.mono ?_
    rintro e w1 ⟨rfl, hb⟩
    have hX := (hb.block P HW.out.2.1).trans HW.out.2.2.1
    obtain ⟨⟨a1, a2⟩, _⟩ := boxTwo_cells hX
    have HX := Lib.hid (And.intro hX (Array.getElem?_eq_some_iff.1 hX).1)
    have HB := Lib.hid (And.intro (Below.on HW.out.1 hb) (And.intro (HW.out.2.2.2.1.below hb HW.out.2.2.2.2.2) (HW.out.2.2.2.2.1.below hb HW.out.2.2.2.2.2)))
    have HB1 := Lib.hid (Nat.le_trans HW.out.2.2.2.2.2 hb.size)
    clear hb hX
    by_cases hn : n2 = n1
    · have t1 : ((n2 : Int) != (n1 : Int)) = false := by simp [hn]
      have HN := Lib.hid hn
      have HBB := Lib.hid (Below.refl w1.heap.size w1)
      clear hn
      go_wp2_with fail
      clear a1 a2
      go_loopw [21] (fun i wr => ∃ k : Nat, k ≤ n1 ∧ i = .int .i64 k ∧ Hid (∀ j, j < k → okTm us ts j = true) ∧ Hid (Below w1.heap.size w1 wr)) (fun i _ => n1 - (intOf i).toNat)
      case atStart => exact ⟨0, Nat.zero_le _, rfl, fun j hj => absurd hj (by omega), HBB⟩
      case round =>
        obtain ⟨k, hk, rfl, HT, HR⟩ := hrel
        clear HBB
        by_cases hlt : k < n1
        · have hkk : (k : Int) < (n1 : Int) := by omega
          have hkn : k < n2 := by have := HN.out; omega
          have hkk2 : (k : Int) < (n2 : Int) := by omega
          obtain ⟨⟨a1, a2⟩, _⟩ := boxTwo_cells ((HR.out.block P HX.out.2).trans HX.out.1)
          obtain ⟨b1, o1, rfl, _, q1⟩ := (HB.out.2.1.below HR.out HB1.out).2 (by omega)
          obtain ⟨b2, o2, rfl, _, q2⟩ := (HB.out.2.2.below HR.out HB1.out).2 (by omega)
          have g1 := q1 k hlt
          have g2 := q2 k hkn
          have HBK := Lib.hid (HBAD.out k hlt)
          have HN2 : Hid (okTm us ts k = true → ∀ j, j < k + 1 → okTm us ts j = true) := fun e j hj => by
            by_cases h : j = k
            · subst h; exact e
            · exact HT.out j (by omega)
          have hz := HIN.out k (by have := HLE.out; omega)
          obtain ⟨y, hy⟩ : ∃ y : Nat, us[k]?.getD 0 = (y : Int) := ⟨(us[k]?.getD 0).toNat, by omega⟩
          have hyn : y < n1 := by have := HLE.out; omega
          have hyn2 : y < n2 := by have := HN.out; omega
          have hyy : (y : Int) < (n1 : Int) := by omega
          have hyy2 : (y : Int) < (n2 : Int) := by omega
          have g3 := q1 y hyn
          have g4 := q2 y hyn2
          have HOK := Lib.hid (fun (e : y = k) => okTm_root (ts := ts) (hy.trans (by rw [e])))
          have HOL := Lib.hid (fun (e : y ≠ k) => okTm_link (ts := ts) hy e)
          rw [hy] at g1
          obtain ⟨t, ht⟩ : ∃ t, t = ts[k]?.getD 0 := ⟨_, rfl⟩
          obtain ⟨z, hzz⟩ : ∃ z, z = us[y]?.getD 0 := ⟨_, rfl⟩
          obtain ⟨s, hs⟩ : ∃ s, s = ts[y]?.getD 0 := ⟨_, rfl⟩
          rw [← ht] at g2 HOK HOL
          rw [← hzz] at g3 HOL
          rw [← hs] at g4 HOL
          have HBF := Lib.hid (fun (q : Nat) => below_drewN (Below.on HB.out.1 HR.out) q)
          have HRF := Lib.hid (fun (q : Nat) => below_drewN HR.out q)
          have LQ := Lib.hid (fun (b : Bool) (hz : Hid (b = decide (1 ≤ t ∧ t ≤ 24))) (q : Nat) => Calls.quiet_of_same (P := Tryd.prog) (n := q) ((l1In_any t 1 24 (wr.drewN q)).mono fun _ _ ⟨h1, h2⟩ => ⟨(show _ = Ending.returned (.bool b) by rw [hz.out]; exact h1), h2.symm⟩))
          clear q1 q2 hy hz ht hzz hs HT HBAD HGOOD HV HL HR
          by_cases e1 : y = k
          · have t2 : ((y : Int) == (k : Int)) = true := by simp [e1]
            have HK := Lib.hid (HOK.out e1)
            clear g3 g4 HOL HOK LQ
            by_cases e2 : t = 0
            · have t3 : (t != 0) = false := by simp [e2]
              have HF := Lib.hid (HN2.out (by rw [HK.out, decide_eq_true e2]))
              have HR2 : Hid (Below w1.heap.size w1 wr) := HRF.out 0
              clear e1 e2 HK HN2 HBK
              go_wp2_with fail
              go_roundw
              case rel => exact ⟨k + 1, by omega, by go_num, HF, HR2⟩
              case measure => simp [intOf]; omega
            · have t3 : (t != 0) = true := by simp [e2]
              have HF := Lib.hid (HBK.out (by rw [HK.out, decide_eq_false e2]))
              clear e1 e2 HK HN2 HBK
              go_wp2_with fail
              go_ret
              exact ⟨ret_bool HF.out.symm, HBF.out 0⟩
          · have t2 : ((y : Int) == (k : Int)) = false := by simp; omega
            have HK := Lib.hid (HOL.out e1)
            clear e1 HOK HOL
            by_cases e2 : 1 ≤ t ∧ t ≤ 24
            · have HX2 : Hid (true = decide (1 ≤ t ∧ t ≤ 24)) := (decide_eq_true e2).symm
              by_cases e3 : z = (y : Int)
              · have t3 : (z != (y : Int)) = false := by simp [e3]
                have HF := Lib.hid (HN2.out (by rw [HK.out, decide_eq_true e2, decide_eq_true e3]; rfl))
                clear e2 e3 HK HN2 HBK
                go_wp2_with fail
                go_quiet ((go_at_call 69; exact LQ.out _ HX2 _))
                have HR2 : Hid (Below w1.heap.size w1 (wr.drewN nq)) := HRF.out nq
                clear LQ
                go_wp2_with fail
                go_roundw
                case rel => exact ⟨k + 1, by omega, by go_num, HF, HR2⟩
                case measure => simp [intOf]; omega
              · have t3 : (z != (y : Int)) = true := by simp [e3]
                by_cases e4 : s ≤ t
                · have HF := Lib.hid (HBK.out (by rw [HK.out, decide_eq_false e3, decide_eq_false (show ¬ t < s by omega)]; simp))
                  clear e2 e3 HK HN2 HBK
                  go_wp2_with fail
                  go_quiet ((go_at_call 69; exact LQ.out _ HX2 _))
                  clear LQ
                  go_wp2_with fail
                  go_ret
                  exact ⟨ret_bool HF.out.symm, HBF.out nq⟩
                · have HF := Lib.hid (HN2.out (by rw [HK.out, decide_eq_true e2, decide_eq_true (show t < s by omega)]; simp))
                  clear e2 e3 HK HN2 HBK
                  go_wp2_with fail
                  go_quiet ((go_at_call 69; exact LQ.out _ HX2 _))
                  have HR2 : Hid (Below w1.heap.size w1 (wr.drewN nq)) := HRF.out nq
                  clear LQ
                  go_wp2_with fail
                  go_roundw
                  case rel => exact ⟨k + 1, by omega, by go_num, HF, HR2⟩
                  case measure => simp [intOf]; omega
            · have HX2 : Hid (false = decide (1 ≤ t ∧ t ≤ 24)) := (decide_eq_false e2).symm
              have HF := Lib.hid (HBK.out (by rw [HK.out, decide_eq_false e2]; rfl))
              clear e2 HK HN2 HBK g3 g4
              go_wp2_with fail
              go_quiet ((go_at_call 69; exact LQ.out _ HX2 _))
              clear LQ
              go_wp2_with fail
              go_ret
              exact ⟨ret_bool HF.out.symm, HBF.out nq⟩
        · obtain rfl : k = n1 := by omega
          have HF := Lib.hid (HGOOD.out (by trivial) HN.out HT.out)
          have HBF := Lib.hid (Below.on HB.out.1 HR.out)
          clear HBAD HGOOD HV HL HT
          go_wp2
          go_ret
          exact ⟨ret_bool HF.out.symm, HBF.out⟩
    · have t1 : ((n2 : Int) != (n1 : Int)) = true := by simp; omega
      have HF := Lib.hid (HL.out hn)
      clear hn
      go_wp2_with fail
      go_ret
      exact ⟨ret_bool HF.out.symm, HB.out.1⟩
end Go.Proofs.YtfmhdngblpmcfaaDoor
