/- TimedOf of the specification: pair by pair. Condition: lengths up to 1048576. -/
import Derived.Test.YtmkdiifjecnokaaGreatTimesOf
import Derived.Test.YtmkdiifjecnokaaGreatSpecAll
import Derived.Test.YtmkdiifjecnokaaGreatArgs
import Derived.BigRegion
import Derived.Deep.DeepCutAuto
import Derived.Deep.RegionLaw
import Derived.Deep.AppendLies
namespace Go.Proofs.YtmkdiifjecnokaaGreat
open Go.RowKit Go.Shelf

/-- Making a slice of zeros, as a function of the world. -/
theorem make_funT (n : Nat) (hn : n ≤ 16) : ∃ mk : World → World, (∀ w, (Instr.makeSlice 26 (.int .i64 (n : Int)) (.int .i64 (n : Int))).run Tryz.prog w = .ok (.slice (some ⟨w.heap.size, 0, none⟩) n n) (mk w)) ∧
    (∀ w, Own (mk w) w.heap.size (.slice (some ⟨w.heap.size, 0, none⟩) n n) (List.replicate n 0)) ∧ (∀ w : World, w.grownBy (mk w) none) := by
  obtain ⟨i0, hi, hz0, hz1, hz2⟩ := info_parts Tryz.info_int
  have H := fun (w : World) => run_make_full (P := Tryz.prog) w w.heap.size 26 3 i0 (.int .i64 0) 1 Tryz.underlying26 hi hz0 hz1 .i64 .i64 n (by rw [hz2]; omega) (by unfold maxLen; omega) (Nat.le_refl _)
  exact ⟨fun w => Classical.choose (H w), fun w => (Classical.choose_spec (H w)).1, fun w => Own.made (Classical.choose_spec (H w)).2.1, fun w => (Classical.choose_spec (H w)).2.2⟩
/-- A timed forest in a box, made anew. -/
def TmNew (w1 V : World) (X : Nat) (U : Value) (G p : Nat) (xs ts : List Int) : Prop :=
  V.heap[X]? = some (.cells #[U, .slice (some ⟨G, 0, none⟩) p p] 28 (0, 0)) ∧ Own V w1.heap.size U xs ∧ Own V w1.heap.size (.slice (some ⟨G, 0, none⟩) p p) ts ∧ (∀ z, U.ownBlock = some z → z ≠ G ∧ z ≠ X) ∧ G ≠ X ∧ w1.heap.size ≤ X ∧ Below w1.heap.size w1 V
theorem tmNew_last {w1 W : World} {U : Value} {G p : Nat} {xs ts : List Int} (h1 : Own W w1.heap.size U xs) (h2 : Own W w1.heap.size (.slice (some ⟨G, 0, none⟩) p p) ts) (h3 : ∀ z, U.ownBlock = some z → z ≠ G) (hb : Below w1.heap.size w1 W) :
    TmNew w1 (W.alloc (.cells #[U, .slice (some ⟨G, 0, none⟩) p p] 28)) W.heap.size U G p xs ts :=
  ⟨World.alloc_heap_new _ _, World.ownsRow.alloc h1 _, World.ownsRow.alloc h2 _, fun z hz => ⟨h3 z hz, by have := (h1.blockOf z hz).2; omega⟩, by have := h2.at_base.2; omega, hb.size, hb.alloc hb.size _⟩
theorem tmNew_first {w1 W : World} {X : Nat} {U a b : Value} {G p : Nat} {xs ts : List Int} (hX : W.heap[X]? = some (.cells #[a, b] 28 (0, 0))) (hXl : w1.heap.size ≤ X) (h1 : Own W w1.heap.size U xs) (h2 : Own W w1.heap.size (.slice (some ⟨G, 0, none⟩) p p) ts) (h3 : ∀ z, U.ownBlock = some z → z ≠ G ∧ z ≠ X) (h4 : G ≠ X) (hb : Below w1.heap.size w1 W) :
    TmNew w1 ((W.setCell ⟨X, 0, none⟩ U).setCell ⟨X, 1, none⟩ (.slice (some ⟨G, 0, none⟩) p p)) X U G p xs ts := by
  have hg := boxTwo_grown W X U (.slice (some ⟨G, 0, none⟩) p p)
  refine ⟨boxTwo_set hX _ _, h1.kept hg ?_, h2.kept hg (.inr fun e => h4 (by injection e)), h3, h4, hXl, boxTwo_below hb hXl _ _⟩
  cases e : U.ownBlock with
  | none => exact .inl rfl
  | some z => exact .inr fun e2 => (h3 z e).2 (by injection e2)
theorem own_grown0 {w w' : World} {base : Nat} {v : Value} {zs : List Int} (h : Own w base v zs) (hg : w.grownBy w' none) : Own w' base v zs := h.kept hg (by
  cases v.ownBlock with
  | none => exact .inl rfl
  | some k => exact .inr (by simp))
theorem below_grown0 {w w' : World} {C : Nat} (hg : w.grownBy w' none) (hC : C ≤ w.heap.size) : Below C w w' := ⟨hg.os, hg.tape, hg.output, hg.size, fun k hk => hg.block k (by omega) (fun e => by cases e)⟩
theorem own_chgG {w w' : World} {G base : Nat} {v : Value} {zs : List Int} (h : Own w base v zs) (hc : Chg (fun i => i = G) w w') (hne : ∀ z, v.ownBlock = some z → z ≠ G) : Own w' base v zs := by
  refine h.kept (row := some G) ⟨hc.os, hc.tape, hc.output, hc.size, fun i hi hn => hc.block i hi (fun e => hn (by rw [e]))⟩ ?_
  cases e : v.ownBlock with
  | none => exact .inl rfl
  | some z => exact .inr fun e2 => hne z e (by injection e2)
theorem below_undrew {C : Nat} {a b : World} (h : Below C a.drew b) : Below C a b := ⟨h.os, h.tape, h.output, h.size, h.block⟩
set_option maxRecDepth 100000 in
set_option maxHeartbeats 8000000 in
theorem specTimedOf_apart (n : Int) (A : Option Addr) (m c B0 : Nat) (qs : List (Int × Int)) (w : World) (h : RdQ w B0 A m qs) (hB0 : B0 ≤ w.heap.size) (hb : m ≤ 1048576) :
    Calls Tryz.prog 6 #[.int .i64 n, .slice A m c] w fun e w' => ∃ v v2, e = .returned (.tuple #[.agg #[v, v2], .bool (logB n qs)]) ∧ Own w' w.heap.size v (logUp n qs) ∧ Own w' w.heap.size v2 (tmAt n qs) ∧ (∀ x, v.ownBlock = some x → ∀ y, v2.ownBlock = some y → x ≠ y) ∧ Below w.heap.size w w' := by
  obtain ⟨W0, hW0⟩ : ∃ W0, W0 = w.alloc (.cells #[.slice none 0 0, .slice none 0 0] 28) := ⟨_, rfl⟩
  have hb0 : Below w.heap.size w W0 := by rw [hW0]; exact (Below.refl _ _).alloc (Nat.le_refl _) _
  have hR : W0.heap[w.heap.size]? = some (.cells #[.slice none 0 0, .slice none 0 0] 28 (0, 0)) := by rw [hW0]; exact World.alloc_heap_new w _
  have h0s : W0.heap.size = w.heap.size + 1 := by rw [hW0]; simp
  have AS := l2Asked_any n A m c B0 qs W0 (h.below hb0 hB0) (Nat.le_trans hB0 hb0.size) hb
  rw [show usB n qs = logB n qs from rfl] at AS
  obtain ⟨X4, hX4⟩ : ∃ X4, X4 = w.heap.size := ⟨_, rfl⟩
  rw [← hX4] at hR h0s
  have HH := Lib.hid (And.intro hb0 (And.intro hR h0s))
  have HW0 := Lib.hid (And.intro hW0 hX4)
  cases hlg : logB n qs with
  | false =>
    rw [tmUp_no hlg, tmAt_no hlg]
    rw [hlg] at AS
    have AS := Lib.hid AS
    clear h hB0 hb hW0 hb0 hR h0s hX4 hlg
    go_enter Tryz.func6, Tryz.ntmps6
    go_wp2_with fail
    rw [← HW0.out.1, ← HW0.out.2]
    refine AS.out.mono ?_
    rintro e w1 ⟨rfl, hb1⟩
    have hR1 := (hb1.block X4 (by have := HH.out.2.2; omega)).trans HH.out.2.1
    obtain ⟨⟨r1, r2⟩, f1, f2⟩ := boxTwo_cells hR1
    have HX := Lib.hid (And.intro (Below.on HH.out.1 hb1) hR1)
    clear hb1 hR1
    go_wp2_with fail
    obtain ⟨z1, hR3⟩ := HX.out
    obtain ⟨⟨k1, k2⟩, _⟩ := boxTwo_cells (boxTwo_set hR3 (.slice none 0 0) (.slice none 0 0))
    refine bodyPost_ret (v := .tuple #[.agg #[.slice none 0 0, .slice none 0 0], .bool false]) (by simp [results, Tryz.results6, go_sem, k1, k2]) rfl ?_
    exact ⟨_, _, rfl, World.ownsRow_nil _ _ _ _, World.ownsRow_nil _ _ _ _, (fun x hx => by cases hx), boxTwo_below z1 (by have := HW0.out.2; omega) _ _⟩
  | true =>
    obtain ⟨⟨p1, p16⟩, hin, h24, hpl⟩ := tmOf_parts hlg
    have hn1 : 1 ≤ n ∧ n ≤ 16 := (usB_parts hlg).1
    have hok := (usB_parts hlg).2
    have hql := h.1
    obtain ⟨p, rfl⟩ := Int.eq_ofNat_of_zero_le (show 0 ≤ n by omega)
    rw [Int.toNat_natCast] at p1 p16 hin
    rw [tmUp_yes hlg, tmAt_yes hlg, Int.toNat_natCast, hql]
    have HG : Hid (∀ k, k < m → (qs[k]?.getD (0, 0)).1 = (((natP qs)[k]?.getD (0, 0)).1 : Int) ∧ (qs[k]?.getD (0, 0)).2 = (((natP qs)[k]?.getD (0, 0)).2 : Int)) := fun k hk => okQ_get hok (by omega)
    obtain ⟨ps, hps⟩ : ∃ ps, ps = natP qs := ⟨_, rfl⟩
    rw [← hps] at hin h24 hpl HG ⊢
    have HI := Lib.hid (And.intro hin (And.intro h24 (And.intro (show ps.length = m by omega) p1)))
    have hm24 : m ≤ 24 := by omega
    have HQ := Lib.hid (And.intro h hB0)
    rw [hlg] at AS
    have AS := Lib.hid AS
    have AL := Lib.hid (fun (w8 : World) => alone_any p p1 p16 w8)
    clear h hB0 hb hW0 hb0 hR h0s hX4 hlg p1 hin h24 hpl hn1 hok hql hps
    go_enter Tryz.func6, Tryz.ntmps6
    go_wp2_with fail
    rw [← HW0.out.1, ← HW0.out.2]
    refine AS.out.mono ?_
    rintro e w1 ⟨rfl, hb1⟩
    have HB1 := Lib.hid hb1
    clear hb1
    go_upto_region 3 with fail
    go_cut [6] (fun s6 V => ∃ X G U, s6 = .pointer (some ⟨X, 0, none⟩) ∧ TmNew w1 V X U G p (roots p) (List.replicate p 0))
    case first =>
      obtain ⟨mk, mk1, mk2, mk3⟩ := make_funT p p16
      have M2 := Lib.hid mk2
      have M3 := Lib.hid mk3
      have hz0 : ∀ o : Obj, (w1.alloc o).drew.heap.size = w1.heap.size + 1 := fun o => by show (w1.alloc o).heap.size = _; simp
      have hzz : (mk (w1.alloc (.cells #[.slice none 0 0, .slice none 0 0] 28)).drew).heap[w1.heap.size]? = some (.cells #[.slice none 0 0, .slice none 0 0] 28 (0, 0)) := ((mk3 _).block w1.heap.size (by rw [hz0]; omega) (fun e => by cases e)).trans (World.alloc_heap_new w1 _)
      have HZZ := Lib.hid hzz
      have HZ0 := Lib.hid hz0
      clear mk2 mk3 hzz hz0
      go_region_law (go_simp; go_at_call 20; refine (AL.out _).mono ?_; rintro e w5 ⟨v5, rfl, ho5, hb5⟩; obtain ⟨A5, c5, rfl, hr5⟩ := ho5.form; have HO5 := Lib.hid (And.intro ho5 hb5); have q2 : (mk (w5.alloc (.cells #[.slice none 0 0, .slice none 0 0] 28))).heap[w5.heap.size]? = some (.cells #[.slice none 0 0, .slice none 0 0] 28 (0, 0)) := ((M3.out _).block w5.heap.size (by simp) (fun e => by cases e)).trans (World.alloc_heap_new w5 _); obtain ⟨⟨s1, s2⟩, s3, s4⟩ := boxTwo_cells q2; have Q2 := Lib.hid q2; (try (have q4 : w5.heap[(mk w1.drew).heap.size]? = some (.cells #[.slice none 0 0, .slice none 0 0] 28 (0, 0)) := (hb5.block (mk w1.drew).heap.size (by simp)).trans (World.alloc_heap_new (mk w1.drew) _); obtain ⟨⟨s5, s6⟩, s7, s8⟩ := boxTwo_cells q4; have Q4 := Lib.hid q4; clear q4)); (try (have q6 : w5.heap[w1.heap.size]? = some (.cells #[.slice none 0 0, .slice none 0 0] 28 (0, 0)) := (hb5.block w1.heap.size (by have := (M3.out (w1.alloc (.cells #[.slice none 0 0, .slice none 0 0] 28)).drew).size; rw [HZ0.out] at this; omega)).trans HZZ.out; obtain ⟨⟨s9, s10⟩, s11, s12⟩ := boxTwo_cells q6; have Q6 := Lib.hid q6; clear q6)); (try (have q5 : (mk w5).heap[w1.heap.size]? = some (.cells #[.slice none 0 0, .slice none 0 0] 28 (0, 0)) := ((M3.out w5).block w1.heap.size (by have := hb5.size; rw [HZ0.out] at this; omega) (fun e => by cases e)).trans ((hb5.block w1.heap.size (by rw [HZ0.out]; omega)).trans (World.alloc_heap_new w1 _)); obtain ⟨⟨s13, s14⟩, s15, s16⟩ := boxTwo_cells q5; have Q5 := Lib.hid q5; clear q5)); clear ho5 hb5 hr5 q2)
      all_goals
        go_wp2_with fail
        go_meet
        have hw1 : w1.drew.heap.size = w1.heap.size := rfl
        have hm1 := (M2.out w1.drew).at_base.2
        have hm1s := (M3.out w1.drew).size
        have hz := HZ0.out (.cells #[.slice none 0 0, .slice none 0 0] 28)
        have hmz := (M2.out (w1.alloc (.cells #[.slice none 0 0, .slice none 0 0] 28)).drew).at_base.2
        have hmzs := (M3.out (w1.alloc (.cells #[.slice none 0 0, .slice none 0 0] 28)).drew).size
        have hs5 := HO5.out.2.size
        have hm5 := (M2.out w5).at_base.2
        have hm5s := (M3.out w5).size
        have hx5 := HO5.out.1.blockOf
        rw [hz] at hmz hmzs
        rw [hw1] at hm1 hm1s
        first
        | exact ⟨_, _, _, rfl, tmNew_last (W := mk w5) (own_grown0 (w := w5) (base := w1.heap.size) HO5.out.1 (M3.out w5)) ((M2.out w5).less (by omega)) (fun z hz => by have := hx5 z hz; omega) (Below.trans (show Below w1.heap.size w1 w5 from ⟨HO5.out.2.os, HO5.out.2.tape, HO5.out.2.output, HO5.out.2.size, HO5.out.2.block⟩) (below_grown0 (M3.out w5) (by omega)))⟩
        | (have hG := M2.out (w5.alloc (.cells #[.slice none 0 0, .slice none 0 0] 28)); rw [World.size_alloc] at hG; exact ⟨_, _, _, rfl, tmNew_first (W := mk (w5.alloc (.cells #[.slice none 0 0, .slice none 0 0] 28))) Q2.out (show w1.heap.size ≤ w5.heap.size by omega) (own_grown0 (w := w5.alloc (.cells #[.slice none 0 0, .slice none 0 0] 28)) (base := w1.heap.size) (World.ownsRow.alloc HO5.out.1 _) (M3.out _)) (hG.less (by omega)) (fun z hz => by have := hx5 z hz; omega) (by omega) (((below_undrew HO5.out.2).alloc (by omega) (.cells #[.slice none 0 0, .slice none 0 0] 28)).trans (below_grown0 (M3.out _) (by rw [World.size_alloc]; omega)))⟩)
        | exact ⟨_, _, _, rfl, tmNew_last (W := w5) (HO5.out.1.less (by omega)) ((M2.out w1.drew).keep HO5.out.2 (Nat.le_refl _)) (fun z hz => by have := hx5 z hz; show z ≠ w1.heap.size; omega) ((below_undrew (below_grown0 (M3.out w1.drew) (show w1.heap.size ≤ w1.drew.heap.size from Nat.le_refl _))).trans (HO5.out.2.mono (by omega)))⟩
        | (rw [World.size_alloc] at hx5 hs5; exact ⟨_, _, _, rfl, tmNew_first (W := w5) Q4.out (by omega) (HO5.out.1.less (by rw [World.size_alloc]; omega)) ((show Own ((mk w1.drew).alloc (.cells #[.slice none 0 0, .slice none 0 0] 28)) w1.heap.size (.slice (some ⟨w1.heap.size, 0, none⟩) p p) (List.replicate p 0) from World.ownsRow.alloc (M2.out w1.drew) _).keep HO5.out.2 (Nat.le_refl _)) (fun z hz => by have := hx5 z hz; refine ⟨?_, ?_⟩ <;> (first | omega | (show z ≠ w1.heap.size; omega))) (by show w1.heap.size ≠ _; omega) (((below_undrew (below_grown0 (M3.out w1.drew) (show w1.heap.size ≤ w1.drew.heap.size from Nat.le_refl _))).alloc (by omega) _).trans (HO5.out.2.mono (by rw [World.size_alloc]; omega)))⟩)
        | (rw [hz] at hx5 hs5; exact ⟨_, _, _, rfl, tmNew_first (W := mk w5) Q5.out (Nat.le_refl _) (own_grown0 (w := w5) (HO5.out.1.less (by rw [hz]; omega)) (M3.out w5)) ((M2.out w5).less (by omega)) (fun z hz => by have := hx5 z hz; refine ⟨?_, ?_⟩ <;> omega) (by omega) (((Below.refl w1.heap.size w1).alloc (Nat.le_refl _) (.cells #[.slice none 0 0, .slice none 0 0] 28)).trans ((below_undrew (HO5.out.2.mono (by rw [hz]; omega))).trans (below_grown0 (M3.out w5) (by omega))))⟩)
        | (have hG := M2.out (w1.alloc (.cells #[.slice none 0 0, .slice none 0 0] 28)).drew; have hO2 := HO5.out.1; have hB2 := HO5.out.2; rw [hz] at hG; exact ⟨_, _, _, rfl, tmNew_first (W := w5) Q6.out (Nat.le_refl _) (hO2.less (by omega)) ((hG.keep hB2 (Nat.le_refl _)).less (by omega)) (fun z hz => by have := hx5 z hz; refine ⟨?_, ?_⟩ <;> omega) (by omega) (((Below.refl w1.heap.size w1).alloc (Nat.le_refl _) (.cells #[.slice none 0 0, .slice none 0 0] 28)).trans ((below_undrew (below_grown0 (M3.out (w1.alloc (.cells #[.slice none 0 0, .slice none 0 0] 28)).drew) (by rw [hz]; omega))).trans (hB2.mono (by omega))))⟩)
    case rest =>
      obtain ⟨X, G, U0, rfl, hX, hU0, hG0, hap, hGX, hXl, hbV⟩ := hcut
      obtain ⟨V, rfl⟩ : ∃ V, V = wc := ⟨_, rfl⟩
      obtain ⟨A0, c0, rfl, _⟩ := hU0.form
      rw [roots_len] at hX hU0 hap
      have hxlt := (Array.getElem?_eq_some_iff.1 hX).1
      have hGl := hG0.at_base.1
      have HV := Lib.hid (And.intro hXl (And.intro hGX hGl))
      have HI0 : Hid (∃ A1 c1, V.heap[X]? = some (.cells #[.slice A1 p c1, .slice (some ⟨G, 0, none⟩) p p] 28 (0, 0)) ∧ Own V w1.heap.size (.slice A1 p c1) (upk p ps 0) ∧ Own V w1.heap.size (.slice (some ⟨G, 0, none⟩) p p) (tmTo p ps 0) ∧ (∀ z, (Value.slice A1 p c1).ownBlock = some z → z ≠ G ∧ z ≠ X) ∧ Below w1.heap.size w1 V) := ⟨A0, c0, hX, by rw [upk_zero]; exact hU0, hG0, hap, hbV⟩
      clear hX hU0 hG0 hap hGX hXl hbV hxlt hGl
      go_wp2_with fail
      go_loopw [23] (fun i wr => ∃ k : Nat, k ≤ m ∧ i = .int .i64 k ∧ Hid (∃ A1 c1, wr.heap[X]? = some (.cells #[.slice A1 p c1, .slice (some ⟨G, 0, none⟩) p p] 28 (0, 0)) ∧ Own wr w1.heap.size (.slice A1 p c1) (upk p ps k) ∧ Own wr w1.heap.size (.slice (some ⟨G, 0, none⟩) p p) (tmTo p ps k) ∧ (∀ z, (Value.slice A1 p c1).ownBlock = some z → z ≠ G ∧ z ≠ X) ∧ Below w1.heap.size w1 wr)) (fun i _ => m - (intOf i).toNat)
      case atStart => exact ⟨0, Nat.zero_le _, rfl, HI0⟩
      case round =>
        obtain ⟨k, hk, rfl, HK⟩ := hrel
        clear HI0
        obtain ⟨A1, c1, hX, hU, hT, hap, hbr⟩ := HK.out
        obtain ⟨hXl, hGX, hGl⟩ := HV.out
        obtain ⟨hin, h24, hpl, p1⟩ := HI.out
        have hsb := HB1.out.size
        by_cases hlt : k < m
        · obtain ⟨b0, off, rfl, hbb, hc1⟩ := (HQ.out.1.below (Below.on HH.out.1 (Below.on HB1.out hbr)) HQ.out.2).2 (by omega)
          obtain ⟨g1, g2⟩ := hc1 k hlt
          have hkk : (k : Int) < (m : Int) := by omega
          obtain ⟨e1, e2⟩ := HG.out k hlt
          rw [e1] at g1
          rw [e2] at g2
          have hpn := hin.get (k := k) (by omega)
          have hvv := upk_fv p1 p16 hin k
          have hvl := upk_len p ps k
          have hno := upk_no (n := p) (ps := ps) (k := k) (by omega)
          have hyes := upk_yes p1 p16 hin (k := k) (by omega)
          have huse : useB (roots p) 1 ps k = !decide (rootI (upk p ps k) (ps[k]?.getD (0, 0)).1 = rootI (upk p ps k) (ps[k]?.getD (0, 0)).2) := rfl
          have hjo : joinTo (upk p ps k) 1 (rootI (upk p ps k) (ps[k]?.getD (0, 0)).1) (rootI (upk p ps k) (ps[k]?.getD (0, 0)).2) = if rootI (upk p ps k) (ps[k]?.getD (0, 0)).1 = rootI (upk p ps k) (ps[k]?.getD (0, 0)).2 then joinTo (upk p ps k) 1 (rootI (upk p ps k) (ps[k]?.getD (0, 0)).1) (rootI (upk p ps k) (ps[k]?.getD (0, 0)).2) else upk p ps (k + 1) := by
            by_cases h : rootI (upk p ps k) (ps[k]?.getD (0, 0)).1 = rootI (upk p ps k) (ps[k]?.getD (0, 0)).2
            · rw [if_pos h]
            · rw [if_neg h]
              show _ = allL (roots p) 1 (ps.take (k + 1))
              rw [allL_succ _ _ (by omega)]
              unfold joinL
              exact (if_neg h).symm
          obtain ⟨a, ha⟩ : ∃ a, a = (ps[k]?.getD (0, 0)).1 := ⟨_, rfl⟩
          obtain ⟨b, hb2⟩ : ∃ b, b = (ps[k]?.getD (0, 0)).2 := ⟨_, rfl⟩
          rw [← ha] at g1 hpn huse hjo
          rw [← hb2] at g2 hpn huse hjo
          obtain ⟨v, hvd⟩ : ∃ v, v = upk p ps k := ⟨_, rfl⟩
          rw [← hvd] at hU hvv hvl huse hjo hno hyes
          obtain ⟨W, hW⟩ : ∃ W, W = wr.alloc (.cells #[.int .i64 (a : Int), .int .i64 (b : Int)] 41) := ⟨_, rfl⟩
          have hbW : Below wr.heap.size wr W := by rw [hW]; exact (Below.refl _ wr).alloc (Nat.le_refl _) _
          have hR9 : W.heap[wr.heap.size]? = some (.cells #[.int .i64 (a : Int), .int .i64 (b : Int)] 41 (0, 0)) := by rw [hW]; exact World.alloc_heap_new wr _
          obtain ⟨R, hRe⟩ : ∃ R, R = wr.heap.size := ⟨_, rfl⟩
          rw [← hRe] at hR9
          have hXW := (hbW.block X (Array.getElem?_eq_some_iff.1 hX).1).trans hX
          have hUW := hU.keep hbW (Nat.le_refl _)
          have hTW := hT.keep hbW (Nat.le_refl _)
          have hrW := hUW.rd
          have hbw := Below.on hbr hbW
          have RQ := Lib.hid (fun (x : Nat) (hx : Hid (x < p)) (q : Nat) => Calls.quiet_of_same (P := Tryz.prog) (n := q) ((l1Root_any A1 p c1 _ x v (W.drewN q) (hrW.drewN q) hvv hx.out).mono fun _ _ ⟨h1, h2⟩ => ⟨h1, h2.symm⟩))
          have HA : Hid (a < p) := hpn.1
          have HB : Hid (b < p) := hpn.2
          have LJ := Lib.hid (fun (q : Nat) => l2Join_any A1 p c1 W.heap.size a b v 1 (W.drewN q) (hrW.drewN q) (Nat.le_refl _) hvv (by omega) HA.out HB.out)
          obtain ⟨ρ, hρ⟩ : ∃ ρ, ρ = rootI v := ⟨_, rfl⟩
          rw [← hρ] at RQ huse LJ hjo
          obtain ⟨⟨d1, d2⟩, _⟩ := boxTwo_cells hR9
          obtain ⟨⟨x1, x2⟩, _⟩ := boxTwo_cells hXW
          have HWX := Lib.hid (And.intro hXW (And.intro hUW (And.intro hTW (And.intro hap (And.intro hbw hvl)))))
          have HWE := Lib.hid (And.intro hW hRe)
          by_cases hpq : ρ a = ρ b
          · have t1 : ((ρ a : Int) == (ρ b : Int)) = true := by rw [hpq]; simp
            have hu0 : useB (roots p) 1 ps k = false := by rw [huse, decide_eq_true hpq]; rfl
            have HN := Lib.hid (And.intro (hno hu0) (tmTo_no hu0))
            clear hc1 e1 e2 hpn ha hb2 hvd hvv hvl hW hbW hR9 hRe hXW hUW hTW hrW hbw hρ hbb huse hno hyes hjo hX hU hT hap hbr hXl hGX hGl hin h24 hpl p1 hsb hpq hu0 LJ HK
            go_wp2_with fail
            rw [← HWE.out.1, ← HWE.out.2]
            go_quiet ((go_at_call 21; exact RQ.out _ (by first | exact HA | exact HB) _))
            have HI2 : Hid (∃ A1 c1, (W.drewN nq).heap[X]? = some (.cells #[.slice A1 p c1, .slice (some ⟨G, 0, none⟩) p p] 28 (0, 0)) ∧ Own (W.drewN nq) w1.heap.size (.slice A1 p c1) (upk p ps (k + 1)) ∧ Own (W.drewN nq) w1.heap.size (.slice (some ⟨G, 0, none⟩) p p) (tmTo p ps (k + 1)) ∧ (∀ z, (Value.slice A1 p c1).ownBlock = some z → z ≠ G ∧ z ≠ X) ∧ Below w1.heap.size w1 (W.drewN nq)) := by
              obtain ⟨h1, h2, h3, h4, h5, _⟩ := HWX.out
              rw [HN.out.1, HN.out.2]
              exact ⟨A1, c1, h1, h2.drewN nq, h3.drewN nq, h4, below_drewN h5 nq⟩
            clear d1 d2 x1 x2 RQ g1 g2
            go_wp2_with fail
            go_roundw
            case rel => exact ⟨k + 1, by omega, by go_num, HI2⟩
            case measure => simp [intOf]; omega
          · have t1 : ((ρ a : Int) == (ρ b : Int)) = false := by simp; omega
            have hu1 : useB (roots p) 1 ps k = true := by rw [huse, decide_eq_false hpq]; rfl
            rw [if_neg hpq] at hjo
            obtain ⟨T, hhang⟩ := hyes hu1
            have hrk := T.hp
            have htk := T.hq
            have hrt := T.ne
            have hlr := isroot_link T.rp
            have htt := tmTo_yes (n := p) hu1
            have hup := upk_len p ps (k + 1)
            obtain ⟨rr, hrr⟩ : ∃ rr, rr = rk p ps k := ⟨_, rfl⟩
            obtain ⟨tt, htk2⟩ : ∃ tt, tt = tk p ps k := ⟨_, rfl⟩
            rw [← hrr] at hrk hrt hlr htt hhang
            rw [← htk2] at htk hrt hhang
            have hg5 : ∀ j, (upk p ps (k + 1))[j]?.getD 0 = if rr = j then ((tt : Nat) : Int) else v[j]?.getD 0 := fun j => by rw [hhang]; exact hang_getD hrk
            rw [hjo] at LJ
            have HN := Lib.hid (And.intro hup (And.intro hg5 (And.intro htt (And.intro hlr (And.intro hrt (show rr < p by omega))))))
            have HVX := Lib.hid (And.intro hXl (And.intro hGX hGl))
            clear hc1 e1 e2 hpn ha hb2 hvd hvv hvl hW hbW hR9 hRe hXW hUW hTW hrW hbw hρ hbb huse hno hyes hjo hX hU hT hap hbr hXl hGX hGl hin h24 hpl p1 hsb hpq hu1 HK T hhang hrk htk hrt hlr htt hup hrr htk2 hg5
            go_wp2_with fail
            rw [← HWE.out.1, ← HWE.out.2]
            go_quiet ((go_at_call 21; exact RQ.out _ (by first | exact HA | exact HB) _))
            have L2 := Lib.hid (LJ.out nq)
            clear LJ RQ g1 g2
            go_wp2_with fail
            refine L2.out.mono ?_
            rintro e w3 ⟨v3, rfl, ho3, hb3⟩
            obtain ⟨A3, c3, rfl, _⟩ := ho3.form
            rw [HN.out.1] at ho3 ⊢
            obtain ⟨h1, h2, h3, h4, h5, h6⟩ := HWX.out
            obtain ⟨g3, rfl⟩ := own_head ho3 HI.out.2.2.2
            obtain ⟨g1, rfl⟩ := own_head h2 HI.out.2.2.2
            have hb3W : Below W.heap.size W w3 := below_of_drewN hb3
            have hX3 := (hb3W.block X (Array.getElem?_eq_some_iff.1 h1).1).trans h1
            have hG3 := h3.keep hb3W (Nat.le_refl _)
            have hU3 := h2.keep hb3W (Nat.le_refl _)
            have hXl3 := (Array.getElem?_eq_some_iff.1 h1).1
            have hGl3 := h3.at_base.2
            have hg3 : W.heap.size ≤ g3 := ho3.at_base.1
            have hg1 := h4 g1 rfl
            have hW3 := Lib.hid (And.intro hX3 (And.intro ho3 (And.intro hU3 (And.intro (Below.on h5 hb3W) (And.intro (show g3 ≠ G ∧ g3 ≠ X by omega) (And.intro hg1 (show w1.heap.size ≤ (W.drewN nq).heap.size from h5.size)))))))
            have HIN0 : Hid (Own w3 w1.heap.size (.slice (some ⟨G, 0, none⟩) p p) (if rr < 0 then tmTo p ps (k + 1) else tmTo p ps k) ∧ Chg (fun i => i = G) w3 w3) := ⟨by rw [if_neg (by omega)]; exact hG3, Chg.refl _ _⟩
            clear h1 h2 h3 h4 h5 h6 hb3W hX3 hG3 hU3 ho3 hb3 d1 d2 x1 x2 L2 hXl3 hGl3 hg3 hg1
            go_wp2_with fail
            go_loopw [47] (fun i wr => ∃ j : Nat, j ≤ p ∧ i = .int .i64 j ∧ Hid (Own wr w1.heap.size (.slice (some ⟨G, 0, none⟩) p p) (if rr < j then tmTo p ps (k + 1) else tmTo p ps k) ∧ Chg (fun i => i = G) w3 wr)) (fun i _ => p - (intOf i).toNat)
            case atStart => exact ⟨0, Nat.zero_le _, rfl, HIN0⟩
            case round =>
              obtain ⟨j, hj, rfl, HJ⟩ := hrel
              clear HIN0
              obtain ⟨hoT, hcJ⟩ := HJ.out
              obtain ⟨y1, y2, y3, y4, y5, y6, y7⟩ := hW3.out
              obtain ⟨hXl, hGX, hGl⟩ := HVX.out
              have hXr := (hcJ.block X (Array.getElem?_eq_some_iff.1 y1).1 (fun e => hGX e.symm)).trans y1
              have hr3 := own_chgG y2 hcJ (fun z hz => by have e : g3 = z := by simpa [Value.ownBlock] using hz
                                                          omega)
              have hr1 := own_chgG y3 hcJ (fun z hz => by have e : g1 = z := by simpa [Value.ownBlock] using hz
                                                          omega)
              obtain ⟨n1, n2, n3, n4, n5, n6⟩ := HN.out
              by_cases hjl : j < p
              · have hjj : (j : Int) < (p : Int) := by omega
                obtain ⟨⟨x1, x2⟩, _⟩ := boxTwo_cells hXr
                have s3 := hr3.slot hjl
                have s1 := hr1.slot hjl
                rw [n2 j] at s3
                have ga := hoT.slot hjl
                have gf := hoT.free j
                have hset := hoT.set_ j ((k : Int) + 1)
                by_cases hjr : rr = j
                · subst hjr
                  rw [if_pos rfl] at s3
                  rw [n4] at s1
                  rw [if_neg (Nat.lt_irrefl _)] at hset ga
                  have t2 : ((tt : Int) != (rr : Int)) = true := by simp; omega
                  have HI3 : Hid (∀ q, Own ((wr.drewN q).setCell ⟨G, rr, none⟩ (.int .i64 ((k : Int) + 1))) w1.heap.size (.slice (some ⟨G, 0, none⟩) p p) (if rr < rr + 1 then tmTo p ps (k + 1) else tmTo p ps k) ∧ Chg (fun i => i = G) w3 ((wr.drewN q).setCell ⟨G, rr, none⟩ (.int .i64 ((k : Int) + 1)))) := fun q => by
                    rw [if_pos (Nat.lt_succ_self _), n3]
                    exact ⟨hset, (hcJ.trans (Chg.of_below (below_drewN (Below.refl _ wr) q))).set (B := G) (.inl rfl) _ _⟩
                  have x2q : ∀ q, (wr.drewN q).cell? ⟨X, 1, none⟩ = some (.slice (some ⟨G, 0, none⟩) p p) := fun q => x2
                  have gaq : ∀ q, (wr.drewN q).cell? ⟨G, rr, none⟩ = some (.int .i64 ((tmTo p ps k)[rr]?.getD 0)) := fun q => ga
                  have gfq : ∀ q, (wr.drewN q).frozen? ⟨G, rr, none⟩ = false := fun q => gf
                  clear hoT hcJ y1 y2 y3 y4 y5 y6 y7 hXl hGX hGl hXr hr3 hr1 n1 n2 n3 n4 n5 n6 hset HJ
                  go_wp2_with fail
                  go_quiet (fail)
                  have HI4 := Lib.hid (HI3.out nq)
                  go_wp2_with fail
                  go_roundw
                  case rel => exact ⟨rr + 1, by omega, by go_num, HI4⟩
                  case measure => simp [intOf]; omega
                · rw [if_neg hjr] at s3
                  obtain ⟨z, hz⟩ : ∃ z, z = v[j]?.getD 0 := ⟨_, rfl⟩
                  rw [← hz] at s3 s1
                  have t2 : (z != z) = false := by simp
                  have HI3 : Hid (∀ q, Own (wr.drewN q) w1.heap.size (.slice (some ⟨G, 0, none⟩) p p) (if rr < j + 1 then tmTo p ps (k + 1) else tmTo p ps k) ∧ Chg (fun i => i = G) w3 (wr.drewN q)) := fun q => by
                    refine ⟨?_, hcJ.trans (Chg.of_below (below_drewN (Below.refl _ wr) q))⟩
                    by_cases hlt2 : rr < j
                    · rw [if_pos hlt2] at hoT
                      rw [if_pos (by omega)]
                      exact hoT.drewN q
                    · rw [if_neg hlt2] at hoT
                      rw [if_neg (by omega)]
                      exact hoT.drewN q
                  clear hoT hcJ y1 y2 y3 y4 y5 y6 y7 hXl hGX hGl hXr hr3 hr1 n1 n2 n3 n4 n5 n6 hset hz ga gf HJ
                  go_wp2_with fail
                  go_quiet (fail)
                  have HI4 := Lib.hid (HI3.out nq)
                  go_wp2_with fail
                  go_roundw
                  case rel => exact ⟨j + 1, by omega, by go_num, HI4⟩
                  case measure => simp [intOf]; omega
              · obtain rfl : j = p := by omega
                rw [if_pos n6] at hoT
                obtain ⟨⟨x1, x2⟩, f1, f2⟩ := boxTwo_cells hXr
                have hgs := put_grown wr X 0 (.slice (some ⟨g3, 0, none⟩) j c3)
                have HI3 : Hid (∃ A1 c1, (wr.setCell ⟨X, 0, none⟩ (.slice (some ⟨g3, 0, none⟩) j c3)).heap[X]? = some (.cells #[.slice A1 j c1, .slice (some ⟨G, 0, none⟩) j j] 28 (0, 0)) ∧ Own (wr.setCell ⟨X, 0, none⟩ (.slice (some ⟨g3, 0, none⟩) j c3)) w1.heap.size (.slice A1 j c1) (upk j ps (k + 1)) ∧ Own (wr.setCell ⟨X, 0, none⟩ (.slice (some ⟨g3, 0, none⟩) j c3)) w1.heap.size (.slice (some ⟨G, 0, none⟩) j j) (tmTo j ps (k + 1)) ∧ (∀ z, (Value.slice A1 j c1).ownBlock = some z → z ≠ G ∧ z ≠ X) ∧ Below w1.heap.size w1 (wr.setCell ⟨X, 0, none⟩ (.slice (some ⟨g3, 0, none⟩) j c3))) := by
                  refine ⟨some ⟨g3, 0, none⟩, c3, boxTwo_put0 hXr _, (hr3.kept hgs (.inr fun e => by injection e with e; have e : g3 = X := e; omega)).less y7, hoT.kept hgs (.inr fun e => by injection e with e; exact hGX e), fun z hz => ?_, ?_⟩
                  · have e : g3 = z := by simpa [Value.ownBlock] using hz
                    omega
                  · exact (Below.trans y4 (hcJ.below y4.size (fun i hi => by omega))).setCell (p := ⟨X, 0, none⟩) hXl _
                clear hoT hcJ y1 y2 y3 y4 y5 y6 y7 hXl hGX hGl hXr hr3 hr1 n1 n2 n3 n4 n5 n6 hgs HJ
                go_wp2_with fail
                go_roundw
                case rel => exact ⟨k + 1, by omega, by go_num, HI3⟩
                case measure => simp [intOf]; omega
        · obtain rfl : k = m := by omega
          have h0s := HH.out.2.2
          have hX4r := (hbr.block X4 (by omega)).trans ((HB1.out.block X4 (by omega)).trans HH.out.2.1)
          obtain ⟨⟨y1, y2⟩, y3, y4⟩ := boxTwo_cells hX4r
          obtain ⟨⟨x1, x2⟩, _⟩ := boxTwo_cells hX
          have hX4e := HW0.out.2
          have hg4 := boxTwo_grown wr X4 (.slice A1 p c1) (.slice (some ⟨G, 0, none⟩) p p)
          have hUb := hU.blockOf
          have oU : Own ((wr.setCell ⟨X4, 0, none⟩ (.slice A1 p c1)).setCell ⟨X4, 1, none⟩ (.slice (some ⟨G, 0, none⟩) p p)) w.heap.size (.slice A1 p c1) (upk p ps k) := (hU.kept hg4 (by
            cases e : (Value.slice A1 p c1).ownBlock with
            | none => exact .inl rfl
            | some z => exact .inr fun e2 => by have := (hUb z e).1; injection e2 with e2; omega)).less (by omega)
          have oG : Own ((wr.setCell ⟨X4, 0, none⟩ (.slice A1 p c1)).setCell ⟨X4, 1, none⟩ (.slice (some ⟨G, 0, none⟩) p p)) w.heap.size (.slice (some ⟨G, 0, none⟩) p p) (tmTo p ps k) := (hT.kept hg4 (.inr fun e => by injection e with e; have e : G = X4 := e; omega)).less (by omega)
          have HF := Lib.hid (And.intro oU (And.intro oG (And.intro (boxTwo_below (b := X4) (Below.on HH.out.1 (Below.on HB1.out hbr)) (by omega) (.slice A1 p c1) (.slice (some ⟨G, 0, none⟩) p p)) (And.intro hX4r hap))))
          clear hX hU hT hap hbr hXl hGX hGl hin h24 hpl p1 hsb h0s hX4r hX4e hg4 hUb oU oG HK
          go_wp2_with fail
          obtain ⟨oU, oG, hbz, hX4r, hap⟩ := HF.out
          obtain ⟨⟨k1, k2⟩, _⟩ := boxTwo_cells (boxTwo_set hX4r (.slice A1 p c1) (.slice (some ⟨G, 0, none⟩) p p))
          refine bodyPost_ret (v := .tuple #[.agg #[.slice A1 p c1, .slice (some ⟨G, 0, none⟩) p p], .bool true]) (by simp [results, Tryz.results6, go_sem, k1, k2]) rfl ?_
          exact ⟨_, _, rfl, oU, oG, fun x hx y hy => by
            have e : G = y := by simpa [Value.ownBlock] using hy
            have := (hap x hx).1
            omega, hbz⟩
theorem specTimedOf_any (n : Int) (A : Option Addr) (m c B0 : Nat) (qs : List (Int × Int)) (w : World) (h : RdQ w B0 A m qs) (hB0 : B0 ≤ w.heap.size) (hb : m ≤ 1048576) :
    Calls Tryz.prog 6 #[.int .i64 n, .slice A m c] w fun e w' => ∃ v v2, e = .returned (.tuple #[.agg #[v, v2], .bool (logB n qs)]) ∧ Own w' w.heap.size v (logUp n qs) ∧ Own w' w.heap.size v2 (tmAt n qs) ∧ Below w.heap.size w w' :=
  (specTimedOf_apart n A m c B0 qs w h hB0 hb).mono fun _ _ ⟨v, v2, he, h1, h2, _, hb⟩ => ⟨v, v2, he, h1, h2, hb⟩
end Go.Proofs.YtmkdiifjecnokaaGreat
