/- TimedOf of the program: the steps of a log, told by the useful pairs. Condition: lengths up to 1048576. -/
import Derived.Test.YtmkdiifjecnokaaGreatTimesOf
import Derived.Test.YtmkdiifjecnokaaGreatLogOf
import Derived.Test.YtmkdiifjecnokaaGreatJoinAll
import Derived.BigRegion
import Derived.Deep.DeepCutAuto
import Derived.Deep.RegionLaw
import Derived.Deep.AppendLies
namespace Go.Proofs.YtmkdiifjecnokaaGreat
open Go.RowKit Go.Shelf

theorem steps_in {n : Nat} {ps : List (Nat × Nat)} (h1 : 1 ≤ n) (h2 : n ≤ 16) (hp : inP n ps) : ∀ k, k ≤ ps.length → ∀ s, s ∈ stepsTo (roots n) (ps.take k) [] → 0 ≤ s.1 ∧ s.1 < (n : Int)
  | 0, _ => by
    intro s hs
    rw [List.take_zero] at hs
    cases hs
  | k + 1, hk => by
    intro s hs
    rw [take_snoc (by omega) (0, 0), stepsTo_snoc] at hs
    have ih := steps_in h1 h2 hp k (by omega)
    cases hu : useB (roots n) 1 ps k with
    | false =>
      unfold useB at hu
      unfold joinSt at hs
      rw [if_pos (by simpa using hu)] at hs
      exact ih s hs
    | true =>
      have T := (upk_yes h1 h2 hp (by omega) hu).1
      have hl := upk_len n ps k
      unfold useB at hu
      unfold joinSt at hs
      rw [if_neg (by simpa using hu), List.mem_append, List.mem_singleton] at hs
      rcases hs with hs | hs
      · exact ih s hs
      · rw [hs]
        have := T.hp
        show 0 ≤ ((rk n ps k : Nat) : Int) ∧ ((rk n ps k : Nat) : Int) < n
        omega
theorem use_in (u : List Int) (r : Int) (ps : List (Nat × Nat)) (k : Nat) : ∀ x, x ∈ useTo u r ps k → 0 ≤ x ∧ x < (k : Int) := by
  intro x hx
  unfold useTo ints at hx
  obtain ⟨i, hi, rfl⟩ := List.mem_map.1 hx
  have := List.mem_range.1 (List.mem_filter.1 hi).1
  omega
theorem markS_next {zs : List Int} {ss : List (Int × Int)} {us : List Int} (hl : ss.length = us.length) {k : Nat} (hk : k < ss.length) : markS zs (ss.take (k + 1)) (us.take (k + 1)) = (markS zs (ss.take k) (us.take k)).set (ss[k]?.getD (0, 0)).1.toNat (us[k]?.getD 0 + 1) := by
  rw [take_snoc hk (0, 0), take_snoc (show k < us.length by omega) 0, markS_snoc _ _ _ _ _ (by rw [List.length_take, List.length_take]; omega)]
/-- Making a slice of zeros, as a function of the world. -/
theorem make_fun (n : Nat) (hn : n ≤ 16) : ∃ mk : World → World, (∀ w, (Instr.makeSlice 26 (.int .i64 (n : Int)) (.int .i64 (n : Int))).run Tryz.prog w = .ok (.slice (some ⟨w.heap.size, 0, none⟩) n n) (mk w)) ∧
    (∀ w, Own (mk w) w.heap.size (.slice (some ⟨w.heap.size, 0, none⟩) n n) (List.replicate n 0)) ∧ (∀ w : World, w.grownBy (mk w) none) := by
  obtain ⟨i0, hi, hz0, hz1, hz2⟩ := info_parts Tryz.info_int
  have H := fun (w : World) => run_make_full (P := Tryz.prog) w w.heap.size 26 3 i0 (.int .i64 0) 1 Tryz.underlying26 hi hz0 hz1 .i64 .i64 n (by rw [hz2]; omega) (by unfold maxLen; omega) (Nat.le_refl _)
  refine ⟨fun w => Classical.choose (H w), fun w => (Classical.choose_spec (H w)).1, fun w => Own.made (Classical.choose_spec (H w)).2.1, fun w => (Classical.choose_spec (H w)).2.2⟩
set_option maxRecDepth 100000 in
set_option maxHeartbeats 8000000 in
theorem implTimedOf_any (n : Int) (A : Option Addr) (m c B0 : Nat) (qs : List (Int × Int)) (w : World) (h : RdQ w B0 A m qs) (hB0 : B0 ≤ w.heap.size) (hb : m ≤ 1048576) :
    Calls Tryz.prog 5 #[.int .i64 n, .slice A m c] w fun e w' => ∃ v v2, e = .returned (.tuple #[.agg #[v, v2], .bool (logB n qs)]) ∧ Own w' w.heap.size v (logUp n qs) ∧ Own w' w.heap.size v2 (tmAt n qs) ∧ (∀ x, v.ownBlock = some x → ∀ y, v2.ownBlock = some y → x ≠ y) ∧ Below w.heap.size w w' := by
  obtain ⟨W0, hW0⟩ : ∃ W0, W0 = w.alloc (.cells #[.slice none 0 0, .slice none 0 0] 28) := ⟨_, rfl⟩
  have hb0 : Below w.heap.size w W0 := by rw [hW0]; exact (Below.refl _ _).alloc (Nat.le_refl _) _
  have hR : W0.heap[w.heap.size]? = some (.cells #[.slice none 0 0, .slice none 0 0] 28 (0, 0)) := by rw [hW0]; exact World.alloc_heap_new w _
  have h0s : W0.heap.size = w.heap.size + 1 := by rw [hW0]; simp
  have LO := Lib.hid (implLogOf_any n A m c B0 qs W0 (h.below hb0 hB0) (Nat.le_trans hB0 hb0.size) hb)
  have US := Lib.hid (fun (w8 : World) (h8 : Below W0.heap.size W0 w8) => implUseful_any n A m c B0 qs w8 ((h.below hb0 hB0).below h8 (Nat.le_trans hB0 hb0.size)) (Nat.le_trans (Nat.le_trans hB0 hb0.size) h8.size) hb)
  obtain ⟨X4, hX4⟩ : ∃ X4, X4 = w.heap.size := ⟨_, rfl⟩
  have hql := h.1
  rw [← hX4] at hR h0s
  have HH := Lib.hid (And.intro hb0 (And.intro hR h0s))
  have HW0 := Lib.hid (And.intro hW0 hX4)
  cases hlg : logB n qs with
  | false =>
    rw [tmUp_no hlg, tmAt_no hlg]
    rw [hlg] at LO
    clear h hB0 hb hW0 hb0 hR h0s hX4 US hql hlg
    go_enter Tryz.func5, Tryz.ntmps5
    go_wp2_with fail
    rw [← HW0.out.1, ← HW0.out.2]
    refine LO.out.mono ?_
    rintro e w1 ⟨v, v2, rfl, hov, hov2, _, hb1⟩
    obtain ⟨U, cu, rfl, _⟩ := hov.form
    obtain ⟨S, cs, rfl, _⟩ := hov2.form
    obtain ⟨V1, hV1⟩ : ∃ V1, V1 = w1.alloc (.cells #[.slice U (logUp n qs).length cu, .slice S (logSteps n qs).length cs] 47) := ⟨_, rfl⟩
    have hbV : Below w1.heap.size w1 V1 := by rw [hV1]; exact (Below.refl _ _).alloc (Nat.le_refl _) _
    have hR1 := ((Below.on hb1 hbV).block X4 (by have := HH.out.2.2; omega)).trans HH.out.2.1
    obtain ⟨⟨r1, r2⟩, f1, f2⟩ := boxTwo_cells hR1
    have HX := Lib.hid (And.intro (Below.on HH.out.1 (Below.on hb1 hbV)) hR1)
    have HV1 := Lib.hid hV1
    rw [hV1] at r1 r2 f1 f2
    clear hov hov2 hb1 hbV hR1 hV1
    go_wp2_with fail
    rw [← HV1.out]
    obtain ⟨z1, hR3⟩ := HX.out
    obtain ⟨⟨k1, k2⟩, _⟩ := boxTwo_cells (boxTwo_set hR3 (.slice none 0 0) (.slice none 0 0))
    refine bodyPost_ret (v := .tuple #[.agg #[.slice none 0 0, .slice none 0 0], .bool false]) (by simp [results, Tryz.results5, go_sem, k1, k2]) rfl ?_
    exact ⟨_, _, rfl, World.ownsRow_nil _ _ _ _, World.ownsRow_nil _ _ _ _, (fun x e => by cases e), boxTwo_below z1 (by have := HW0.out.2; omega) _ _⟩
  | true =>
    obtain ⟨⟨p1, p16⟩, hin, h24, hpl⟩ := tmOf_parts hlg
    have hn1 : 1 ≤ n ∧ n ≤ 16 := (usB_parts hlg).1
    obtain ⟨p, rfl⟩ := Int.eq_ofNat_of_zero_le (show 0 ≤ n by omega)
    rw [Int.toNat_natCast] at p1 p16 hin
    have hps : (natP qs).take qs.length = natP qs := List.take_of_length_le (by omega)
    obtain ⟨m1, m2⟩ := marks_to p (natP qs) qs.length (by omega)
    have hsi := steps_in p1 p16 hin qs.length (by omega)
    have hui := use_in (roots p) 1 (natP qs) qs.length
    rw [hps] at m1 m2 hsi
    have eU : logUp (p : Int) qs = upk p (natP qs) qs.length := tmUp_yes hlg
    have eS : logSteps (p : Int) qs = stepsTo (roots p) (natP qs) [] := by unfold logSteps; rw [if_pos hlg]; rfl
    have eN : usN (p : Int) qs = useTo (roots p) 1 (natP qs) qs.length := usN_yes hlg
    have eA : tmAt (p : Int) qs = tmTo p (natP qs) qs.length := tmAt_yes hlg
    have hul := upk_len p (natP qs) qs.length
    rw [hlg, eU, eS] at LO
    rw [show usB (p : Int) qs = true from hlg, eN] at US
    rw [eU, eA]
    have hxl := useTo_len (roots p) 1 (natP qs) qs.length
    obtain ⟨up, hup⟩ : ∃ up, up = upk p (natP qs) qs.length := ⟨_, rfl⟩
    obtain ⟨ss, hss⟩ : ∃ ss, ss = stepsTo (roots p) (natP qs) [] := ⟨_, rfl⟩
    obtain ⟨us, hus⟩ : ∃ us, us = useTo (roots p) 1 (natP qs) qs.length := ⟨_, rfl⟩
    obtain ⟨tm, htm⟩ : ∃ tm, tm = tmTo p (natP qs) qs.length := ⟨_, rfl⟩
    rw [← hup, ← hss] at LO
    rw [← hus] at US
    rw [← hus] at m1 m2 hui hxl
    rw [← hss] at m1 m2 hsi
    rw [← htm] at m2
    rw [← hup] at hul
    rw [← hup, ← htm]
    have HM := Lib.hid (And.intro m1 (And.intro m2 (And.intro hsi (And.intro hui hul))))
    have hq24 : ss.length ≤ 24 := by omega
    have hq0 : qs.length ≤ 24 := by omega
    have HQ := Lib.hid hq0
    clear h hB0 hb hW0 hb0 hR h0s hX4 hql hlg p1 hin h24 hpl hn1 hps m1 m2 hsi hui eU eS eN eA hul hup hss hus htm hxl hq0
    go_enter Tryz.func5, Tryz.ntmps5
    go_wp2_with fail
    rw [← HW0.out.1, ← HW0.out.2]
    refine LO.out.mono ?_
    rintro e w1 ⟨v, v2, rfl, hov, hov2, hne, hb1⟩
    obtain ⟨U, cu, rfl, _⟩ := hov.form
    obtain ⟨S, cs, rfl, hrs⟩ := hov2.form
    obtain ⟨V1, hV1⟩ : ∃ V1, V1 = w1.alloc (.cells #[.slice U up.length cu, .slice S ss.length cs] 47) := ⟨_, rfl⟩
    obtain ⟨X6, hX6⟩ : ∃ X6, X6 = w1.heap.size := ⟨_, rfl⟩
    have hbV : Below w1.heap.size w1 V1 := by rw [hV1]; exact (Below.refl _ _).alloc (Nat.le_refl _) _
    have hL1 : V1.heap[X6]? = some (.cells #[.slice U up.length cu, .slice S ss.length cs] 47 (0, 0)) := by rw [hV1, hX6]; exact World.alloc_heap_new w1 _
    have hxb := hov.blockOf
    have h1 := Lib.hid (And.intro (Below.on hb1 hbV) (And.intro hL1 (And.intro (hov.keep hbV (Nat.le_refl _)) (And.intro (hrs.to hbV) (And.intro hxb (And.intro hX6 hb1.size))))))
    have HV1 := Lib.hid (And.intro hV1 hX6)
    clear hov hov2 hne hb1 hbV hL1 hrs hV1 hX6 hxb
    go_wp2_with fail
    rw [← HV1.out.1, ← HV1.out.2]
    refine (US.out V1 h1.out.1).mono ?_
    rintro e w2 ⟨v8, rfl, ho8, hb2⟩
    obtain ⟨A8, c8, rfl, hr8⟩ := ho8.form
    have hL2 := (hb2.block X6 (Array.getElem?_eq_some_iff.1 h1.out.2.1).1).trans h1.out.2.1
    obtain ⟨⟨l1, l2⟩, _⟩ := boxTwo_cells hL2
    have H2 := Lib.hid (And.intro hb2 (And.intro hL2 hr8))
    have HMK := HM
    clear ho8 hr8 hL2 hb2
    go_upto_region 5 with fail
    go_cut [10] (fun s10 V => ∃ X G : Nat, s10 = .pointer (some ⟨X, 0, none⟩) ∧ V.heap[X]? = some (.cells #[.slice U up.length cu, .slice (some ⟨G, 0, none⟩) p p] 28 (0, 0)) ∧ Own V w2.heap.size (.slice (some ⟨G, 0, none⟩) p p) (List.replicate p 0) ∧ w2.heap.size ≤ X ∧ w2.heap.size ≤ G ∧ G ≠ X ∧ Below w2.heap.size w2 V)
    case first =>
      have hX6 : X6 < w2.heap.size := (Array.getElem?_eq_some_iff.1 H2.out.2.1).1
      obtain ⟨mk, mk1, mk2, mk3⟩ := make_fun p p16
      have fA : (mk w2.drew).cell? ⟨X6, 0, none⟩ = some (.slice U up.length cu) := ((mk3 w2.drew).cell_far ⟨X6, 0, none⟩ hX6 (fun e => by cases e)).trans l1
      have fB := fun (o : Obj) => cell_past o fA
      have fC := fun (o : Obj) => cell_past o l1
      have fD : ∀ o : Obj, (mk (w2.alloc o).drew).cell? ⟨X6, 0, none⟩ = some (.slice U up.length cu) := fun o => ((mk3 (w2.alloc o).drew).cell_far ⟨X6, 0, none⟩ (by show X6 < (w2.alloc o).heap.size; simp; omega) (fun e => by cases e)).trans (fC o)
      have hzz : (mk (w2.alloc (.cells #[.slice none 0 0, .slice none 0 0] 28)).drew).heap[w2.heap.size]? = some (.cells #[.slice none 0 0, .slice none 0 0] 28 (0, 0)) := ((mk3 _).block w2.heap.size (by show w2.heap.size < (w2.alloc _).heap.size; simp) (fun e => by cases e)).trans (World.alloc_heap_new w2 _)
      obtain ⟨⟨z1, z2⟩, z3, z4⟩ := boxTwo_cells hzz
      have hrA : ((mk w2.drew).alloc (.cells #[.slice U up.length cu, .slice (some ⟨w2.heap.size, 0, none⟩) p p] 28)).heap[(mk w2.drew).heap.size]? = some (.cells #[.slice U up.length cu, .slice (some ⟨w2.heap.size, 0, none⟩) p p] 28 (0, 0)) ∧ Own ((mk w2.drew).alloc (.cells #[.slice U up.length cu, .slice (some ⟨w2.heap.size, 0, none⟩) p p] 28)) w2.heap.size (.slice (some ⟨w2.heap.size, 0, none⟩) p p) (List.replicate p 0) ∧ w2.heap.size ≤ (mk w2.drew).heap.size ∧ w2.heap.size ≤ w2.heap.size ∧ w2.heap.size ≠ (mk w2.drew).heap.size ∧ Below w2.heap.size w2 ((mk w2.drew).alloc (.cells #[.slice U up.length cu, .slice (some ⟨w2.heap.size, 0, none⟩) p p] 28)) := by
        have ho := mk2 w2.drew
        have hl := (ho.at_base).2
        have hl2 : w2.heap.size < (mk w2.drew).heap.size := hl
        refine ⟨World.alloc_heap_new _ _, World.ownsRow.alloc ho _, Nat.le_of_lt hl2, Nat.le_refl _, by omega, ?_⟩
        have h1 := (mk3 w2.drew)
        exact (⟨h1.os, h1.tape, h1.output, h1.size, fun k hk => h1.block k hk (fun e => by cases e)⟩ : Below w2.heap.size w2 (mk w2.drew)).alloc (Nat.le_of_lt hl2) _
      obtain ⟨Wm, hWm⟩ : ∃ Wm, Wm = mk (w2.alloc (.cells #[.slice none 0 0, .slice none 0 0] 28)).drew := ⟨_, rfl⟩
      have hrB : ((Wm.setCell ⟨w2.heap.size, 0, none⟩ (.slice U up.length cu)).setCell ⟨w2.heap.size, 1, none⟩ (.slice (some ⟨w2.heap.size + 1, 0, none⟩) p p)).heap[w2.heap.size]? = some (.cells #[.slice U up.length cu, .slice (some ⟨w2.heap.size + 1, 0, none⟩) p p] 28 (0, 0)) ∧ Own ((Wm.setCell ⟨w2.heap.size, 0, none⟩ (.slice U up.length cu)).setCell ⟨w2.heap.size, 1, none⟩ (.slice (some ⟨w2.heap.size + 1, 0, none⟩) p p)) w2.heap.size (.slice (some ⟨w2.heap.size + 1, 0, none⟩) p p) (List.replicate p 0) ∧ w2.heap.size ≤ w2.heap.size ∧ w2.heap.size ≤ w2.heap.size + 1 ∧ w2.heap.size + 1 ≠ w2.heap.size ∧ Below w2.heap.size w2 ((Wm.setCell ⟨w2.heap.size, 0, none⟩ (.slice U up.length cu)).setCell ⟨w2.heap.size, 1, none⟩ (.slice (some ⟨w2.heap.size + 1, 0, none⟩) p p)) := by
        have ho := mk2 (w2.alloc (.cells #[.slice none 0 0, .slice none 0 0] 28)).drew
        have h1 := mk3 (w2.alloc (.cells #[.slice none 0 0, .slice none 0 0] 28)).drew
        rw [← hWm] at ho h1 hzz
        have es : (w2.alloc (.cells #[.slice none 0 0, .slice none 0 0] 28)).drew.heap.size = w2.heap.size + 1 := by show (w2.alloc _).heap.size = _; simp
        rw [es] at ho
        have hbm : Below w2.heap.size w2 Wm := ⟨h1.os, h1.tape, h1.output, by have := h1.size; omega, fun k hk => (h1.block k (by omega) (fun e => by cases e)).trans (Below.heap_alloc w2 _ k hk)⟩
        exact ⟨boxTwo_set hzz _ _, (ho.kept (boxTwo_grown Wm w2.heap.size _ _) (.inr fun e => by injection e with e; have e : w2.heap.size + 1 = w2.heap.size := e; omega)).less (by omega), Nat.le_refl _, by omega, by omega, boxTwo_below hbm (Nat.le_refl _) _ _⟩
      have HRA := Lib.hid hrA
      have HRB := Lib.hid hrB
      have HWm := Lib.hid hWm
      clear l2 mk2 mk3 hzz hrA hrB hWm
      go_region
      all_goals
        clear fA fB fC fD z1 z2 z3 z4 mk1
        go_wp2_with fail
        go_meet
        first
        | exact ⟨_, _, rfl, HRA.out⟩
        | (rw [← HWm.out]; exact ⟨_, _, rfl, HRB.out⟩)
    case rest =>
      obtain ⟨X, G, rfl, hX, hG, hXl, hGl, hGX, hbV⟩ := hcut
      obtain ⟨V, rfl⟩ : ∃ V, V = wc := ⟨_, rfl⟩
      have hX6 := (Array.getElem?_eq_some_iff.1 H2.out.2.1).1
      have hL := (hbV.block X6 hX6).trans H2.out.2.1
      obtain ⟨⟨_, g2⟩, _⟩ := boxTwo_cells hL
      have hCV := Chg.refl (fun i => i = G) V
      have hxlt := (Array.getElem?_eq_some_iff.1 hX).1
      have HV := Lib.hid (And.intro hX (And.intro hXl (And.intro hGl (And.intro hGX (And.intro hbV (And.intro hX6 hxlt))))))
      have HI : Hid (Own V w2.heap.size (.slice (some ⟨G, 0, none⟩) p p) (markS (List.replicate p 0) (ss.take 0) (us.take 0)) ∧ Chg (fun i => i = G) V V) := ⟨hG, hCV⟩
      clear l1 l2 hX hG hXl hGl hGX hbV hX6 hL hCV hxlt
      go_wp2_with fail
      clear g2
      go_loopw [36] (fun i wr => ∃ k : Nat, k ≤ ss.length ∧ i = .int .i64 k ∧ Hid (Own wr w2.heap.size (.slice (some ⟨G, 0, none⟩) p p) (markS (List.replicate p 0) (ss.take k) (us.take k)) ∧ Chg (fun i => i = G) V wr)) (fun i _ => ss.length - (intOf i).toNat)
      case atStart => exact ⟨0, Nat.zero_le _, rfl, HI⟩
      case round =>
        obtain ⟨k, hk, rfl, HK⟩ := hrel
        clear HI
        obtain ⟨ho, hc⟩ := HK.out
        obtain ⟨hX, hXl, hGl, hGX, hbV, hX6, hxlt⟩ := HV.out
        have hVs := hbV.size
        have hbr : Below w2.heap.size V wr := hc.below hVs (fun i hi => by omega)
        have hXr := (hc.block X hxlt (fun e => hGX e.symm)).trans hX
        obtain ⟨⟨x1, x2⟩, _⟩ := boxTwo_cells hXr
        by_cases hlt : k < ss.length
        · have hkk : (k : Int) < (ss.length : Int) := by omega
          have hku : k < us.length := by have := HM.out.1; omega
          have hkk2 : (k : Int) < (us.length : Int) := by omega
          have hb2r : Below w2.heap.size w2 wr := hbV.trans hbr
          have hbs := (h1.out.2.2.2.1.to H2.out.1)
          obtain ⟨b1, o1, rfl, _, q1⟩ := (hbs.below hb2r (Nat.le_refl _)).2 (by omega)
          obtain ⟨b8, o8, rfl, _, q8⟩ := (H2.out.2.2.below hb2r (Nat.le_refl _)).2 (by omega)
          obtain ⟨s1, s2⟩ := q1 k hlt
          have g8 := q8 k hku
          have hin := HM.out.2.2.1 (ss[k]?.getD (0, 0)) (by rw [List.getElem?_eq_getElem hlt]; exact List.getElem_mem hlt)
          have hun := HM.out.2.2.2.1 (us[k]?.getD 0) (by rw [List.getElem?_eq_getElem hku]; exact List.getElem_mem hku)
          have hnx := markS_next (zs := List.replicate p 0) HM.out.1 hlt
          obtain ⟨y, hy⟩ : ∃ y, y = (ss[k]?.getD (0, 0)).2 := ⟨_, rfl⟩
          rw [← hy] at s2
          obtain ⟨r, hr⟩ : ∃ r : Nat, (ss[k]?.getD (0, 0)).1 = (r : Int) := ⟨(ss[k]?.getD (0, 0)).1.toNat, by omega⟩
          rw [hr] at s1 hin hnx
          rw [Int.toNat_natCast] at hnx
          obtain ⟨u, hu⟩ : ∃ u, u = us[k]?.getD 0 := ⟨_, rfl⟩
          rw [← hu] at g8 hun hnx
          have hrp : r < p := by omega
          have hrpi : (r : Int) < (p : Int) := by omega
          have hq0 := HQ.out
          have hwr : IntKind.i64.wrap (u + 1) = u + 1 := IntWalk.i64_in _ (by omega)
          obtain ⟨W9, hW9⟩ : ∃ W9, W9 = wr.alloc (.cells #[.int .i64 (r : Int), .int .i64 y] 52) := ⟨_, rfl⟩
          have hb9 : Below wr.heap.size wr W9 := by rw [hW9]; exact (Below.refl _ _).alloc (Nat.le_refl _) _
          have hR9 : W9.heap[wr.heap.size]? = some (.cells #[.int .i64 (r : Int), .int .i64 y] 52 (0, 0)) := by rw [hW9]; exact World.alloc_heap_new wr _
          obtain ⟨R, hRe⟩ : ∃ R, R = wr.heap.size := ⟨_, rfl⟩
          rw [← hRe] at hR9
          obtain ⟨⟨r1, r2⟩, _⟩ := boxTwo_cells hR9
          obtain ⟨⟨_, x29⟩, _⟩ := boxTwo_cells ((hb9.block X (Array.getElem?_eq_some_iff.1 hXr).1).trans hXr)
          have g89 := (hb9.cell (p := ⟨b8, o8 + k, none⟩) (World.block_lt_of_cell? _ _ g8)).trans g8
          have ho9 := ho.keep hb9 (Nat.le_refl _)
          have ga := ho9.slot hrp
          have gf := ho9.free r
          have hset := ho9.set_ r (u + 1)
          rw [← hnx] at hset
          have hc9 : Chg (fun i => i = G) V ((W9.setCell ⟨G, r, none⟩ (.int .i64 (u + 1))).drew) := ((hc.trans (Chg.of_below hb9)).set (B := G) (.inl rfl) _ _).drew
          have HI2 : Hid (Own ((W9.setCell ⟨G, r, none⟩ (.int .i64 (u + 1))).drew) w2.heap.size (.slice (some ⟨G, 0, none⟩) p p) (markS (List.replicate p 0) (ss.take (k + 1)) (us.take (k + 1))) ∧ Chg (fun i => i = G) V ((W9.setCell ⟨G, r, none⟩ (.int .i64 (u + 1))).drew)) := ⟨hset, hc9⟩
          have HW9 := Lib.hid (And.intro hW9 hRe)
          obtain ⟨u1, u2⟩ := hun
          clear q1 q8 hy hr hu hnx hin hrp hW9 hb9 hR9 hRe ho9 hset hc9 ho hc hX hXl hGl hGX hbV hX6 hxlt hVs hbr hXr hb2r hbs HK x1 x2
          go_wp2_with fail
          rw [← HW9.out.1, ← HW9.out.2]
          go_region
          clear r1 r2 x29 g89 ga gf s1 s2 g8
          go_wp2_with fail
          go_roundw
          case rel => exact ⟨k + 1, by omega, by go_num, HI2⟩
          case measure => simp [intOf]; omega
        · obtain rfl : k = ss.length := by omega
          have h0s := HH.out.2.2
          have hs1 := h1.out.1.size
          have hs2 := H2.out.1.size
          have hX4r := (hbr.block X4 (by omega)).trans ((hbV.block X4 (by omega)).trans ((H2.out.1.block X4 (by omega)).trans ((h1.out.1.block X4 (by omega)).trans HH.out.2.1)))
          obtain ⟨⟨y1, y2⟩, y3, y4⟩ := boxTwo_cells hX4r
          rw [List.take_of_length_le (Nat.le_refl _), List.take_of_length_le (by have := HM.out.1; omega), HM.out.2.1] at ho
          have hbU := h1.out.2.2.2.2.1
          have hgc : V.grownBy wr (some G) := ⟨hc.os, hc.tape, hc.output, hc.size, fun i hi hne => hc.block i hi (fun e => hne (by rw [e]))⟩
          have hUG : ∀ z, (Value.slice U up.length cu).ownBlock = some z → z < G ∧ X4 < z := fun z hz => by
            have := hbU z hz
            have := h1.out.2.2.2.2.2
            omega
          have hUr : Own wr W0.heap.size (.slice U up.length cu) up := ((h1.out.2.2.1.keep H2.out.1 (Nat.le_refl _)).keep hbV (Nat.le_refl _)).kept hgc (by
            cases e : (Value.slice U up.length cu).ownBlock with
            | none => exact .inl rfl
            | some z => exact .inr fun e2 => by have := (hUG z e).1; injection e2 with e2; omega)
          have hbw : Below w.heap.size w wr := Below.on (Below.on (Below.on HH.out.1 h1.out.1) H2.out.1) (hbV.trans hbr)
          have hg4 := boxTwo_grown wr X4 (.slice U up.length cu) (.slice (some ⟨G, 0, none⟩) p p)
          have hX4e := HW0.out.2
          have oU : Own ((wr.setCell ⟨X4, 0, none⟩ (.slice U up.length cu)).setCell ⟨X4, 1, none⟩ (.slice (some ⟨G, 0, none⟩) p p)) w.heap.size (.slice U up.length cu) up := (hUr.kept hg4 (by
            cases e : (Value.slice U up.length cu).ownBlock with
            | none => exact .inl rfl
            | some z => exact .inr fun e2 => by have := (hUG z e).2; injection e2 with e2; omega)).less (by omega)
          have oG : Own ((wr.setCell ⟨X4, 0, none⟩ (.slice U up.length cu)).setCell ⟨X4, 1, none⟩ (.slice (some ⟨G, 0, none⟩) p p)) w.heap.size (.slice (some ⟨G, 0, none⟩) p p) tm := (ho.kept hg4 (.inr fun e => by injection e with e; have e : G = X4 := e; omega)).less (by omega)
          have hapart : ∀ x, (Value.slice U up.length cu).ownBlock = some x → ∀ z, (Value.slice (some ⟨G, 0, none⟩) p p).ownBlock = some z → x ≠ z := fun x hx z hz => by
            have := (hUG x hx).1
            have e : G = z := by simpa [Value.ownBlock] using hz
            omega
          have HF := Lib.hid (And.intro oU (And.intro oG (And.intro hapart (And.intro (boxTwo_below (b := X4) hbw (by omega) (.slice U up.length cu) (.slice (some ⟨G, 0, none⟩) p p)) hX4r))))
          clear ho hc hX hXl hGl hGX hbV hX6 hxlt hVs hbr hXr HK h0s hs1 hs2 hX4r hbU hUG hgc hUr hbw hg4 hX4e oU oG hapart
          go_wp2_with fail
          obtain ⟨oU, oG, hap, hbz, hX4r⟩ := HF.out
          obtain ⟨⟨k1, k2⟩, _⟩ := boxTwo_cells (boxTwo_set hX4r (.slice U up.length cu) (.slice (some ⟨G, 0, none⟩) p p))
          refine bodyPost_ret (v := .tuple #[.agg #[.slice U up.length cu, .slice (some ⟨G, 0, none⟩) p p], .bool true]) (by simp [results, Tryz.results5, go_sem, k1, k2]) rfl ?_
          exact ⟨_, _, rfl, oU, oG, hap, hbz⟩
end Go.Proofs.YtmkdiifjecnokaaGreat
