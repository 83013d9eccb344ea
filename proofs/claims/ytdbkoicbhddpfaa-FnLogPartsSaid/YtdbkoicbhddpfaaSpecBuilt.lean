/- The model's l4Built for steps that can all be done. Condition: lengths up to 1048576. -/
import Derived.Test.YtdbkoicbhddpfaaSteps
import Derived.Test.YtdbkoicbhddpfaaSpecAll
import Derived.Test.YtdbkoicbhddpfaaLogs
import Derived.Deep.RegionHeld3
namespace Go.Proofs.Ytdbkoicbhddpfaa
open Go.RowKit

theorem built_some {u v : List Int} {ss : List (Int × Int)} (h : builtL u ss = some v) {k : Nat} (_hk : k ≤ ss.length) : ∃ x, builtL u (ss.take k) = some x := by
  cases e : builtL u (ss.take k) with
  | some x => exact ⟨x, rfl⟩
  | none =>
    rw [← List.take_append_drop k ss, builtL_append, e] at h
    cases h
set_option maxRecDepth 100000 in
set_option maxHeartbeats 8000000 in
theorem l4Built_good (n : Nat) (A : Option Addr) (m c B0 : Nat) (ss : List (Int × Int)) (u : List Int) (w : World) (h : RdQ w B0 A m ss) (hB0 : B0 ≤ w.heap.size) (hb : m ≤ 1048576) (h1 : 1 ≤ n) (h16 : n ≤ 16) (hu : builtL (roots n) ss = some u) :
    Calls Try.prog 105 #[.int .i64 (n : Int), .slice A m c] w fun e w' => ∃ v, e = .returned (.tuple #[v, .bool true]) ∧ Own w' w.heap.size v u ∧ Below w.heap.size w w' := by
  have AL := Lib.hid (alone_any n h1 h16 w)
  have hlm := h.1
  have HB : Hid (∀ k v, k < m → builtL (roots n) (ss.take k) = some v → fvB v = true ∧ v.length = n ∧ ∃ x y : Nat, (ss[k]?.getD (0, 0)).1 = (x : Int) ∧ (ss[k]?.getD (0, 0)).2 = (y : Int) ∧ x < n ∧ y < n ∧ x ≠ y ∧ v[x]?.getD 0 = (x : Int) ∧ v[y]?.getD 0 = (y : Int) ∧ underB v 1 x y = true ∧ builtL (roots n) (ss.take (k + 1)) = some (v.set x (y : Int))) := fun k v hk hv => by
    obtain ⟨f1, f2⟩ := built_fv (roots_fv h1 h16) hv
    rw [roots_len] at f2
    obtain ⟨g1, g2⟩ := built_next (k := k) (by omega) hv
    cases e : okStep v (ss[k]?.getD (0, 0)) with
    | false => rw [g2 e] at hu; cases hu
    | true =>
      obtain ⟨p1, p2, p3, p4, p5, p6⟩ := okStep_parts e
      refine ⟨f1, f2, (ss[k]?.getD (0, 0)).1.toNat, (ss[k]?.getD (0, 0)).2.toNat, by omega, by omega, by omega, by omega, by omega, by omega, by omega, p6, ?_⟩
      rw [g1 e, show (((ss[k]?.getD (0, 0)).2.toNat : Nat) : Int) = (ss[k]?.getD (0, 0)).2 by omega]
  have HE : Hid (ss.take m = ss ∧ builtL (roots n) ss = some u ∧ builtL (roots n) (ss.take 0) = some (roots n)) := ⟨List.take_of_length_le (by omega), hu, rfl⟩
  have HQ := Lib.hid (And.intro h hB0)
  have h01 : (1 : Int) ≤ (n : Int) := by omega
  have h016 : (n : Int) ≤ 16 := by omega
  clear h hB0 hu hlm
  go_enter Try.func105, Try.ntmps105
  go_wp2_with fail
  refine AL.out.mono ?_
  rintro e w1 ⟨v1, rfl, ho1, hb1⟩
  obtain ⟨A1, c1, rfl, _⟩ := ho1.form
  rw [roots_len] at ho1 ⊢
  obtain ⟨g, rfl⟩ := own_head ho1 h1
  have HI : Hid (∃ v, builtL (roots n) (ss.take 0) = some v ∧ Own w1 w.heap.size (.slice (some ⟨g, 0, none⟩) n c1) v ∧ Below w.heap.size w w1) := ⟨_, HE.out.2.2, ho1, hb1⟩
  clear ho1 hb1
  go_wp2_with fail
  go_loopw [13] (fun i wr => ∃ k : Nat, k ≤ m ∧ i = .int .i64 k ∧ Hid (∃ v, builtL (roots n) (ss.take k) = some v ∧ Own wr w.heap.size (.slice (some ⟨g, 0, none⟩) n c1) v ∧ Below w.heap.size w wr)) (fun i _ => m - (intOf i).toNat)
  case atStart => exact ⟨0, Nat.zero_le _, rfl, HI⟩
  case round =>
    obtain ⟨k, hk, rfl, HK⟩ := hrel
    clear HI
    obtain ⟨v, hv, ho, hbe⟩ := HK.out
    by_cases hlt : k < m
    · have hkk : (k : Int) < (m : Int) := by omega
      obtain ⟨b0, off, rfl, hbb, hc1⟩ := (HQ.out.1.below hbe HQ.out.2).2 (by omega)
      obtain ⟨q1, q2⟩ := hc1 k hlt
      obtain ⟨hfv, hvl, x, y, ex, ey, hx, hy, hxy, vx, vy, hun, hnext⟩ := HB.out k v hlt hv
      rw [ex] at q1
      rw [ey] at q2
      obtain ⟨W, hW⟩ : ∃ W, W = wr.alloc (.cells #[.int .i64 (x : Int), .int .i64 (y : Int)] 45) := ⟨_, rfl⟩
      have hbW : Below wr.heap.size wr W := by rw [hW]; exact (Below.refl _ _).alloc (Nat.le_refl _) _
      have hoW := ho.keep hbW (Nat.le_refl _)
      have hRW : W.heap[wr.heap.size]? = some (.cells #[.int .i64 (x : Int), .int .i64 (y : Int)] 45 (0, 0)) := by rw [hW]; exact World.alloc_heap_new wr _
      have s1 := hoW.slot hx
      have s2 := hoW.slot hy
      rw [vx] at s1
      rw [vy] at s2
      obtain ⟨R, hR⟩ : ∃ R, R = wr.heap.size := ⟨_, rfl⟩
      rw [← hR] at hRW
      obtain ⟨⟨d1, d2⟩, _⟩ := boxTwo_cells hRW
      have LI : Hid (∀ (z : Nat), Hid (z < n) → ∀ w2, Calls Try.prog 96 #[.int .i64 (z : Int), .int .i64 0, .int .i64 ((n : Int) - 1)] w2 fun e w' => e = .returned (.bool true) ∧ w2 = w') := fun z hz w2 => by
        have hz := hz.out
        have := l1In_any (z : Int) 0 ((n : Int) - 1) w2
        rw [decide_eq_true (by omega)] at this
        exact this
      have hwr : IntKind.i64.wrap ((n : Int) - 1) = (n : Int) - 1 := IntWalk.i64_in _ (by omega)
      have HX := Lib.hid hx
      have HY := Lib.hid hy
      have UN : Hid (∀ w2, Below W.heap.size W w2 → Calls Try.prog 84 #[.slice (some ⟨g, 0, none⟩) n c1, .int .i64 1, .int .i64 (x : Int), .int .i64 (y : Int)] w2 fun e w' => e = .returned (.bool true) ∧ Below w2.heap.size w2 w') := fun w2 hb2 => by
        have := l2Under_any (some ⟨g, 0, none⟩) n c1 W.heap.size x y v 1 w2 (hoW.rd.below hb2 (Nat.le_refl _)) hb2.size hfv ⟨by decide, by decide⟩ hx hy
        rw [hun] at this
        exact this
      have hx1 := hoW.at_base
      have t1 : ((x : Int) == (y : Int)) = false := by simp; omega
      have t2 : ((x : Int) != (x : Int)) = false := by simp
      have t3 : ((y : Int) != (y : Int)) = false := by simp
      have pp : (x : Int) < (n : Int) := by omega
      have qq : (y : Int) < (n : Int) := by omega
      have hbb : Below W.heap.size W W := Below.refl _ _
      have HN : Hid (∀ w2, Below W.heap.size W w2 → (w2.cell? ⟨g, x, none⟩ = some (.int .i64 (x : Int)) ∧ w2.frozen? ⟨g, x, none⟩ = false) ∧ ∃ v', builtL (roots n) (ss.take (k + 1)) = some v' ∧ Own (w2.setCell ⟨g, x, none⟩ (.int .i64 (y : Int))) w.heap.size (.slice (some ⟨g, 0, none⟩) n c1) v' ∧ Below w.heap.size w (w2.setCell ⟨g, x, none⟩ (.int .i64 (y : Int)))) := fun w2 hb2 => by
        have ho2 := hoW.keep hb2 (Nat.le_refl _)
        have hb2' := Below.on (Below.on hbe hbW) hb2
        refine ⟨⟨?_, ho2.free x⟩, _, hnext, ho2.set_ x (y : Int), hb2'.setCell (p := ⟨g, x, none⟩) hx1.1 _⟩
        have := ho2.slot hx
        rw [vx] at this
        exact this
      have HW := Lib.hid (And.intro hW hR)
      clear hv ho hbe hbb hc1 hfv hvl hxy vx vy hun hnext hW hR hbW hoW hRW hx1 HK ex ey hx hy HB
      have hbb : Below W.heap.size W W := Below.refl _ _
      go_wp2_with fail
      rw [← HW.out.1, ← HW.out.2]
      go_region_held3 (fun w' => Below W.heap.size W w' ∧ w'.cell? ⟨R, 0, none⟩ = some (.int .i64 (x : Int)) ∧ w'.cell? ⟨R, 1, none⟩ = some (.int .i64 (y : Int)) ∧ w'.cell? ⟨g, x, none⟩ = some (.int .i64 (x : Int)) ∧ w'.cell? ⟨g, y, none⟩ = some (.int .i64 (y : Int)))
        (first | assumption | exact held4_drew ⟨by assumption, by assumption, by assumption, by assumption, by assumption⟩ | exact held4_drew (by assumption) | exact held4_call (by assumption) (by assumption) (Below.size (And.left (by assumption))))
        (first | (go_at_call 96; (try rw [hwr]); refine (LI.out _ (by first | exact HX | exact HY) _).mono ?_; rintro e w8 ⟨rfl, rfl⟩) | (go_at_call 84; refine (UN.out _ (‹Below W.heap.size W _ ∧ _›).1).mono ?_; rintro e w8 ⟨rfl, hb8⟩))
      obtain ⟨hbz, z1, z2, _, _⟩ := ‹Below W.heap.size W _ ∧ _›
      obtain ⟨⟨n1, n2⟩, hn3⟩ := HN.out _ hbz
      have HI2 := Lib.hid hn3
      clear hbz hn3 HN UN LI d1 d2 s1 s2
      go_wp2_with fail
      go_roundw
      case rel => exact ⟨k + 1, by omega, by go_num, HI2⟩
      case measure => simp [intOf]; omega
    · obtain rfl : k = m := by omega
      rw [HE.out.1, HE.out.2.1] at hv
      injection hv with hv
      subst hv
      have HZ := Lib.hid (And.intro ho hbe)
      clear ho hbe HK HB
      go_wp2
      go_ret2
      exact ⟨_, rfl, HZ.out.1, HZ.out.2⟩
end Go.Proofs.Ytdbkoicbhddpfaa
