/- ClassesAt: of the program, by its classes, and of the model, by counting roots. Condition: lengths up to 1048576. -/
import Derived.Test.YtmkdiifjecnokaaGreatForestAt
import Derived.Test.YtmkdiifjecnokaaGreatClasses
import Derived.Test.YtmkdiifjecnokaaGreatRowsAll
namespace Go.Proofs.YtmkdiifjecnokaaGreat
open Go.RowKit Go.Shelf

/-- How many classes there were. -/
def caN (us ts : List Int) (m : Int) : Int := if askB us ts m = true then (rowsC (atL us ts m) : Int) else -1
theorem caN_yes {us ts : List Int} {m : Int} (h : askB us ts m = true) : caN us ts m = (rowsC (atL us ts m) : Int) := by unfold caN; rw [if_pos h]
theorem caN_no {us ts : List Int} {m : Int} (h : askB us ts m = false) : caN us ts m = -1 := by unfold caN; rw [h]; simp
theorem rootsTo_succ (up : List Int) (k : Nat) : rootsTo up (k + 1) = rootsTo up k + if up[k]?.getD 0 = (k : Int) then 1 else 0 := by
  unfold rootsTo
  rw [List.range_succ, List.filter_append, List.length_append]
  by_cases h : up[k]?.getD 0 = (k : Int)
  · rw [if_pos h]; simp [h]
  · rw [if_neg h]; simp [h]
theorem rowsC_roots {v : List Int} (h : fvB v = true) : rowsC v = rootsTo v v.length := rows_roots h
set_option maxRecDepth 100000 in
set_option maxHeartbeats 4000000 in
theorem implClassesAt_any (A1 A2 : Option Addr) (n1 c1 n2 c2 B0 : Nat) (m : Int) (us ts : List Int) (w : World) (h1 : Rd w B0 A1 n1 us) (h2 : Rd w B0 A2 n2 ts) (hB0 : B0 ≤ w.heap.size) (hb1 : n1 ≤ 1048576) (hb2 : n2 ≤ 1048576) :
    Calls Tryz.prog 12 #[.agg #[.slice A1 n1 c1, .slice A2 n2 c2], .int .i64 m] w fun e w' => e = .returned (.int .i64 (caN us ts m)) ∧ Below w.heap.size w w' := by
  obtain ⟨W, hW⟩ : ∃ W, W = w.alloc (.cells #[.slice A1 n1 c1, .slice A2 n2 c2] 28) := ⟨_, rfl⟩
  have hbW : Below w.heap.size w W := by rw [hW]; exact (Below.refl _ _).alloc (Nat.le_refl _) _
  have FA := Lib.hid (implForestAt_any A1 A2 n1 c1 n2 c2 B0 m us ts W (h1.below hbW hB0) (h2.below hbW hB0) (Nat.le_trans hB0 hbW.size) hb1 hb2)
  have hfl := faL_len us ts m
  have hl1 := h1.1
  have hca : caN us ts m = if fvB (faL us ts m) = true then ((rowsN (faL us ts m)).length : Int) else -1 := by
    cases hf : askB us ts m with
    | false => rw [caN_no hf, faL_no hf]; rfl
    | true =>
      have hav := atL_fv (tmB_parts (askB_parts hf).1).1 (ts := ts) m
      rw [caN_yes hf, faL_yes hf, if_pos hav, rowsN_C hav]
  rw [hca]
  obtain ⟨zs, hzs⟩ : ∃ zs, zs = faL us ts m := ⟨_, rfl⟩
  rw [← hzs] at FA hfl ⊢
  have CL := fun (A : Option Addr) (c : Nat) (w8 : World) (h : Rd w8 w8.heap.size A zs.length zs) => implClasses_any A zs.length c _ zs w8 h (Nat.le_refl _) (by omega)
  have HB := Lib.hid hbW
  have HW := Lib.hid hW
  cases hv : fvB zs with
  | false =>
    rw [hv] at CL
    have CL := Lib.hid CL
    clear h1 h2 hB0 hb1 hb2 hW hbW hfl hl1 hzs hca hv
    go_enter Tryz.func12, Tryz.ntmps12
    go_wp2_with fail
    rw [← HW.out]
    refine FA.out.mono ?_
    rintro e w1 ⟨v, rfl, ho, hb⟩
    obtain ⟨A, c, rfl, hr⟩ := ho.form
    have HB2 := Lib.hid (Below.on HB.out hb)
    have RZ := Lib.hid (CL.out A c w1 hr)
    clear ho hb hr
    go_wp2_with fail
    refine RZ.out.mono ?_
    rintro e w2 ⟨v2, vs, rfl, _, hb2⟩
    have HB3 := Lib.hid (Below.on HB2.out hb2)
    clear hb2
    go_wp2_with fail
    go_ret
    exact ⟨rfl, HB3.out⟩
  | true =>
    rw [hv] at CL
    have CL := Lib.hid CL
    have hrl := (rowsN_big zs).1
    have hrb := (rowsN_big zs).2
    have HRB := Lib.hid hrb
    clear h1 h2 hB0 hb1 hb2 hW hbW hfl hl1 hzs hca hv hrb
    go_enter Tryz.func12, Tryz.ntmps12
    go_wp2_with fail
    rw [← HW.out]
    refine FA.out.mono ?_
    rintro e w1 ⟨v, rfl, ho, hb⟩
    obtain ⟨A, c, rfl, hr⟩ := ho.form
    have HB2 := Lib.hid (Below.on HB.out hb)
    have RZ := Lib.hid (CL.out A c w1 hr)
    clear ho hb hr
    go_wp2_with fail
    refine RZ.out.mono ?_
    rintro e w2 ⟨v2, vs, rfl, hor, hb2⟩
    obtain ⟨A2, c2, rfl, _⟩ := hor.form HRB.out
    have HB3 := Lib.hid (Below.on HB2.out hb2)
    clear hb2 hor
    go_wp2_with fail
    go_ret
    exact ⟨rfl, HB3.out⟩
end Go.Proofs.YtmkdiifjecnokaaGreat
