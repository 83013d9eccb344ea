/- The model's l1Ints of two slices of one length, and its LogValid for valid logs. Condition: lengths up to 1048576. -/
import Derived.Test.YtichcnaomcpnhaaJoins
import Derived.Test.YtichcnaomcpnhaaSpecAll
import Derived.Test.YtichcnaomcpnhaaLogs
import Derived.Deep.RegionHeld3
import Derived.BigQuiet
namespace Go.Proofs.Ytichcnaomcpnhaa
open Go.RowKit

theorem built_some {u v : List Int} {ss : List (Int × Int)} (h : builtL u ss = some v) {k : Nat} (_hk : k ≤ ss.length) : ∃ x, builtL u (ss.take k) = some x := by
  cases e : builtL u (ss.take k) with
  | some x => exact ⟨x, rfl⟩
  | none =>
    rw [← List.take_append_drop k ss, builtL_append, e] at h
    cases h
set_option maxRecDepth 100000 in
set_option maxHeartbeats 8000000 in
theorem l4Built_good (n : Nat) (A : Option Addr) (m c B0 : Nat) (ss : List (Int × Int)) (u : List Int) (w : World) (h : RdQ w B0 A m ss) (hB0 : B0 ≤ w.heap.size) (hb : m ≤ 1048576) (h1 : 1 ≤ n) (h16 : n ≤ 16) (hu : builtL (roots n) ss = some u) :
    Calls Try.prog 70 #[.int .i64 (n : Int), .slice A m c] w fun e w' => ∃ v, e = .returned (.tuple #[v, .bool true]) ∧ Own w' w.heap.size v u ∧ Below w.heap.size w w' := by
  have AL := Lib.hid (alone_any n h1 h16 w)
  have hlm := h.1
  have HB : Hid (∀ k v, k < m → builtL (roots n) (ss.take k) = some v → fvB v = true ∧ v.length = n ∧ ∃ x y : Nat, (ss[k]?.getD (0, 0)).1 = (x : Int) ∧ (ss[k]?.getD (0, 0)).2 = (y : Int) ∧ x < n ∧ y < n ∧ x ≠ y ∧ v[x]?.getD 0 = (x : Int) ∧ v[y]?.getD 0 = (y : Int) ∧ underB v 1 x y = true ∧ builtL (roots n) (ss.take (k + 1)) = some (v.set x (y : Int))) := fun k v hk hv => by
    obtain ⟨f1, f2⟩ := built_fv (roots_fv h1 h16) hv
    rw [roots_len] at f2
    obtain ⟨g1, g2⟩ := built_next (k := k) (by omega) hv
    cases e : okStep v (ss[k]?.getD (0, 0)) with
    | false => rw [g2 e] at hu; cases hu
    | true =>
      obtain ⟨p1, p2, p3, p4, p5, p6⟩ := okStep_parts e
      refine ⟨f1, f2, (ss[k]?.getD (0, 0)).1.toNat, (ss[k]?.getD (0, 0)).2.toNat, by omega, by omega, by omega, by omega, by omega, by omega, by omega, p6, ?_⟩
      rw [g1 e, show (((ss[k]?.getD (0, 0)).2.toNat : Nat) : Int) = (ss[k]?.getD (0, 0)).2 by omega]
  have HE : Hid (ss.take m = ss ∧ builtL (roots n) ss = some u ∧ builtL (roots n) (ss.take 0) = some (roots n)) := ⟨List.take_of_length_le (by omega), hu, rfl⟩
  have HQ := Lib.hid (And.intro h hB0)
  have h01 : (1 : Int) ≤ (n : Int) := by omega
  have h016 : (n : Int) ≤ 16 := by omega
  clear h hB0 hu hlm
  go_enter Try.func70, Try.ntmps70
  go_wp2_with fail
  refine AL.out.mono ?_
  rintro e w1 ⟨v1, rfl, ho1, hb1⟩
  obtain ⟨A1, c1, rfl, _⟩ := ho1.form
  rw [roots_len] at ho1 ⊢
  obtain ⟨g, rfl⟩ := own_head ho1 h1
  have HI : Hid (∃ v, builtL (roots n) (ss.take 0) = some v ∧ Own w1 w.heap.size (.slice (some ⟨g, 0, none⟩) n c1) v ∧ Below w.heap.size w w1) := ⟨_, HE.out.2.2, ho1, hb1⟩
  clear ho1 hb1
  go_wp2_with fail
  go_loopw [13] (fun i wr => ∃ k : Nat, k ≤ m ∧ i = .int .i64 k ∧ Hid (∃ v, builtL (roots n) (ss.take k) = some v ∧ Own wr w.heap.size (.slice (some ⟨g, 0, none⟩) n c1) v ∧ Below w.heap.size w wr)) (fun i _ => m - (intOf i).toNat)
  case atStart => exact ⟨0, Nat.zero_le _, rfl, HI⟩
  case round =>
    obtain ⟨k, hk, rfl, HK⟩ := hrel
    clear HI
    obtain ⟨v, hv, ho, hbe⟩ := HK.out
    by_cases hlt : k < m
    · have hkk : (k : Int) < (m : Int) := by omega
      obtain ⟨b0, off, rfl, hbb, hc1⟩ := (HQ.out.1.below hbe HQ.out.2).2 (by omega)
      obtain ⟨q1, q2⟩ := hc1 k hlt
      obtain ⟨hfv, hvl, x, y, ex, ey, hx, hy, hxy, vx, vy, hun, hnext⟩ := HB.out k v hlt hv
      rw [ex] at q1
      rw [ey] at q2
      obtain ⟨W, hW⟩ : ∃ W, W = wr.alloc (.cells #[.int .i64 (x : Int), .int .i64 (y : Int)] 68) := ⟨_, rfl⟩
      have hbW : Below wr.heap.size wr W := by rw [hW]; exact (Below.refl _ _).alloc (Nat.le_refl _) _
      have hoW := ho.keep hbW (Nat.le_refl _)
      have hRW : W.heap[wr.heap.size]? = some (.cells #[.int .i64 (x : Int), .int .i64 (y : Int)] 68 (0, 0)) := by rw [hW]; exact World.alloc_heap_new wr _
      have s1 := hoW.slot hx
      have s2 := hoW.slot hy
      rw [vx] at s1
      rw [vy] at s2
      obtain ⟨R, hR⟩ : ∃ R, R = wr.heap.size := ⟨_, rfl⟩
      rw [← hR] at hRW
      obtain ⟨⟨d1, d2⟩, _⟩ := boxTwo_cells hRW
      have LI : Hid (∀ (z : Nat), Hid (z < n) → ∀ w2, Calls Try.prog 69 #[.int .i64 (z : Int), .int .i64 0, .int .i64 ((n : Int) - 1)] w2 fun e w' => e = .returned (.bool true) ∧ w2 = w') := fun z hz w2 => by
        have hz := hz.out
        have := l1In_any (z : Int) 0 ((n : Int) - 1) w2
        rw [decide_eq_true (by omega)] at this
        exact this
      have hwr : IntKind.i64.wrap ((n : Int) - 1) = (n : Int) - 1 := IntWalk.i64_in _ (by omega)
      have HX := Lib.hid hx
      have HY := Lib.hid hy
      have UN : Hid (∀ w2, Below W.heap.size W w2 → Calls Try.prog 39 #[.slice (some ⟨g, 0, none⟩) n c1, .int .i64 1, .int .i64 (x : Int), .int .i64 (y : Int)] w2 fun e w' => e = .returned (.bool true) ∧ Below w2.heap.size w2 w') := fun w2 hb2 => by
        have := l2Under_any (some ⟨g, 0, none⟩) n c1 W.heap.size x y v 1 w2 (hoW.rd.below hb2 (Nat.le_refl _)) hb2.size hfv ⟨by decide, by decide⟩ hx hy
        rw [hun] at this
        exact this
      have hx1 := hoW.at_base
      have t1 : ((x : Int) == (y : Int)) = false := by simp; omega
      have t2 : ((x : Int) != (x : Int)) = false := by simp
      have t3 : ((y : Int) != (y : Int)) = false := by simp
      have pp : (x : Int) < (n : Int) := by omega
      have qq : (y : Int) < (n : Int) := by omega
      have hbb : Below W.heap.size W W := Below.refl _ _
      have HN : Hid (∀ w2, Below W.heap.size W w2 → (w2.cell? ⟨g, x, none⟩ = some (.int .i64 (x : Int)) ∧ w2.frozen? ⟨g, x, none⟩ = false) ∧ ∃ v', builtL (roots n) (ss.take (k + 1)) = some v' ∧ Own (w2.setCell ⟨g, x, none⟩ (.int .i64 (y : Int))) w.heap.size (.slice (some ⟨g, 0, none⟩) n c1) v' ∧ Below w.heap.size w (w2.setCell ⟨g, x, none⟩ (.int .i64 (y : Int)))) := fun w2 hb2 => by
        have ho2 := hoW.keep hb2 (Nat.le_refl _)
        have hb2' := Below.on (Below.on hbe hbW) hb2
        refine ⟨⟨?_, ho2.free x⟩, _, hnext, ho2.set_ x (y : Int), hb2'.setCell (p := ⟨g, x, none⟩) hx1.1 _⟩
        have := ho2.slot hx
        rw [vx] at this
        exact this
      have HW := Lib.hid (And.intro hW hR)
      clear hv ho hbe hbb hc1 hfv hvl hxy vx vy hun hnext hW hR hbW hoW hRW hx1 HK ex ey hx hy HB
      have hbb : Below W.heap.size W W := Below.refl _ _
      go_wp2_with fail
      rw [← HW.out.1, ← HW.out.2]
      go_region_held3 (fun w' => Below W.heap.size W w' ∧ w'.cell? ⟨R, 0, none⟩ = some (.int .i64 (x : Int)) ∧ w'.cell? ⟨R, 1, none⟩ = some (.int .i64 (y : Int)) ∧ w'.cell? ⟨g, x, none⟩ = some (.int .i64 (x : Int)) ∧ w'.cell? ⟨g, y, none⟩ = some (.int .i64 (y : Int)))
        (first | assumption | exact held4_drew ⟨by assumption, by assumption, by assumption, by assumption, by assumption⟩ | exact held4_drew (by assumption) | exact held4_call (by assumption) (by assumption) (Below.size (And.left (by assumption))))
        (first | (go_at_call 69; (try rw [hwr]); refine (LI.out _ (by first | exact HX | exact HY) _).mono ?_; rintro e w8 ⟨rfl, rfl⟩) | (go_at_call 39; refine (UN.out _ (‹Below W.heap.size W _ ∧ _›).1).mono ?_; rintro e w8 ⟨rfl, hb8⟩))
      obtain ⟨hbz, z1, z2, _, _⟩ := ‹Below W.heap.size W _ ∧ _›
      obtain ⟨⟨n1, n2⟩, hn3⟩ := HN.out _ hbz
      have HI2 := Lib.hid hn3
      clear hbz hn3 HN UN LI d1 d2 s1 s2
      go_wp2_with fail
      go_roundw
      case rel => exact ⟨k + 1, by omega, by go_num, HI2⟩
      case measure => simp [intOf]; omega
    · obtain rfl : k = m := by omega
      rw [HE.out.1, HE.out.2.1] at hv
      injection hv with hv
      subst hv
      have HZ := Lib.hid (And.intro ho hbe)
      clear ho hbe HK HB
      go_wp2
      go_ret2
      exact ⟨_, rfl, HZ.out.1, HZ.out.2⟩
end Go.Proofs.Ytichcnaomcpnhaa

namespace Go.Proofs.Ytichcnaomcpnhaa
open Go.RowKit

/-- Why a step cannot be done. -/
theorem okStep_why {u : List Int} {n : Nat} (hl : u.length = n) {s : Int × Int} (h : okStep u s = false) :
    (¬ (0 ≤ s.1 ∧ s.1 < (n : Int))) ∨ (∃ x : Nat, s.1 = (x : Int) ∧ x < n ∧ ((¬ (0 ≤ s.2 ∧ s.2 < (n : Int))) ∨ ∃ y : Nat, s.2 = (y : Int) ∧ y < n ∧ (x = y ∨ (x ≠ y ∧ (u[x]?.getD 0 ≠ (x : Int) ∨ (u[x]?.getD 0 = (x : Int) ∧ (u[y]?.getD 0 ≠ (y : Int) ∨ (u[y]?.getD 0 = (y : Int) ∧ underB u 1 x y = false)))))))) := by
  obtain ⟨a, b⟩ := s
  by_cases h1 : 0 ≤ a ∧ a < (n : Int)
  · refine .inr ⟨a.toNat, by show a = _; omega, by omega, ?_⟩
    by_cases h2 : 0 ≤ b ∧ b < (n : Int)
    · refine .inr ⟨b.toNat, by show b = _; omega, by omega, ?_⟩
      by_cases h3 : a.toNat = b.toNat
      · exact .inl h3
      · refine .inr ⟨h3, ?_⟩
        by_cases h4 : u[a.toNat]?.getD 0 = ((a.toNat : Nat) : Int)
        · refine .inr ⟨h4, ?_⟩
          by_cases h5 : u[b.toNat]?.getD 0 = ((b.toNat : Nat) : Int)
          · refine .inr ⟨h5, ?_⟩
            cases e : underB u 1 a.toNat b.toNat with
            | false => rfl
            | true =>
              have := okStep_of (u := u) (s := (a, b)) (by show 0 ≤ a ∧ a < _; omega) (by show 0 ≤ b ∧ b < _; omega) (by show a ≠ b; omega) (by show u[a.toNat]?.getD 0 = a; omega) (by show u[b.toNat]?.getD 0 = b; omega) e
              rw [h] at this
              cases this
          · exact .inl h5
        · exact .inl h4
    · exact .inl h2
  · exact .inl h1
set_option maxRecDepth 100000 in
set_option maxHeartbeats 8000000 in
theorem l4Built_bad (n : Nat) (A : Option Addr) (m c B0 : Nat) (ss : List (Int × Int)) (w : World) (h : RdQ w B0 A m ss) (hB0 : B0 ≤ w.heap.size) (hb : m ≤ 1048576) (h1 : 1 ≤ n) (h16 : n ≤ 16) (hu : builtL (roots n) ss = none) :
    Calls Try.prog 70 #[.int .i64 (n : Int), .slice A m c] w fun e w' => ∃ v, e = .returned (.tuple #[v, .bool false]) ∧ Own w' w.heap.size v [] ∧ Below w.heap.size w w' := by
  have AL := Lib.hid (alone_any n h1 h16 w)
  have hlm := h.1
  have HB : Hid (∀ k v, k < m → builtL (roots n) (ss.take k) = some v → fvB v = true ∧ v.length = n ∧ (okStep v (ss[k]?.getD (0, 0)) = true → ∃ x y : Nat, (ss[k]?.getD (0, 0)).1 = (x : Int) ∧ (ss[k]?.getD (0, 0)).2 = (y : Int) ∧ x < n ∧ y < n ∧ x ≠ y ∧ v[x]?.getD 0 = (x : Int) ∧ v[y]?.getD 0 = (y : Int) ∧ underB v 1 x y = true ∧ builtL (roots n) (ss.take (k + 1)) = some (v.set x (y : Int)))) := fun k v hk hv => by
    obtain ⟨f1, f2⟩ := built_fv (roots_fv h1 h16) hv
    rw [roots_len] at f2
    obtain ⟨g1, g2⟩ := built_next (k := k) (by omega) hv
    refine ⟨f1, f2, fun e => ?_⟩
    obtain ⟨p1, p2, p3, p4, p5, p6⟩ := okStep_parts e
    refine ⟨(ss[k]?.getD (0, 0)).1.toNat, (ss[k]?.getD (0, 0)).2.toNat, by omega, by omega, by omega, by omega, by omega, by omega, by omega, p6, ?_⟩
    rw [g1 e, show (((ss[k]?.getD (0, 0)).2.toNat : Nat) : Int) = (ss[k]?.getD (0, 0)).2 by omega]
  have HE : Hid (ss.take m = ss ∧ builtL (roots n) ss = none ∧ builtL (roots n) (ss.take 0) = some (roots n)) := ⟨List.take_of_length_le (by omega), hu, rfl⟩
  have HQ := Lib.hid (And.intro h hB0)
  have h01 : (1 : Int) ≤ (n : Int) := by omega
  have h016 : (n : Int) ≤ 16 := by omega
  clear h hB0 hu hlm
  go_enter Try.func70, Try.ntmps70
  go_wp2_with fail
  refine AL.out.mono ?_
  rintro e w1 ⟨v1, rfl, ho1, hb1⟩
  obtain ⟨A1, c1, rfl, _⟩ := ho1.form
  rw [roots_len] at ho1 ⊢
  obtain ⟨g, rfl⟩ := own_head ho1 h1
  have HI : Hid (∃ v, builtL (roots n) (ss.take 0) = some v ∧ Own w1 w.heap.size (.slice (some ⟨g, 0, none⟩) n c1) v ∧ Below w.heap.size w w1) := ⟨_, HE.out.2.2, ho1, hb1⟩
  clear ho1 hb1
  go_wp2_with fail
  go_loopw [13] (fun i wr => ∃ k : Nat, k ≤ m ∧ i = .int .i64 k ∧ Hid (∃ v, builtL (roots n) (ss.take k) = some v ∧ Own wr w.heap.size (.slice (some ⟨g, 0, none⟩) n c1) v ∧ Below w.heap.size w wr)) (fun i _ => m - (intOf i).toNat)
  case atStart => exact ⟨0, Nat.zero_le _, rfl, HI⟩
  case round =>
    obtain ⟨k, hk, rfl, HK⟩ := hrel
    clear HI
    obtain ⟨v, hv, ho, hbe⟩ := HK.out
    by_cases hlt : k < m
    · have hkk : (k : Int) < (m : Int) := by omega
      obtain ⟨b0, off, rfl, hbb, hc1⟩ := (HQ.out.1.below hbe HQ.out.2).2 (by omega)
      obtain ⟨q1, q2⟩ := hc1 k hlt
      obtain ⟨hfv, hvl, hgd⟩ := HB.out k v hlt hv
      cases hok : okStep v (ss[k]?.getD (0, 0)) with
      | true =>
        obtain ⟨x, y, ex, ey, hx, hy, hxy, vx, vy, hun, hnext⟩ := hgd hok
        rw [ex] at q1
        rw [ey] at q2
        obtain ⟨W, hW⟩ : ∃ W, W = wr.alloc (.cells #[.int .i64 (x : Int), .int .i64 (y : Int)] 68) := ⟨_, rfl⟩
        have hbW : Below wr.heap.size wr W := by rw [hW]; exact (Below.refl _ _).alloc (Nat.le_refl _) _
        have hoW := ho.keep hbW (Nat.le_refl _)
        have hRW : W.heap[wr.heap.size]? = some (.cells #[.int .i64 (x : Int), .int .i64 (y : Int)] 68 (0, 0)) := by rw [hW]; exact World.alloc_heap_new wr _
        have s1 := hoW.slot hx
        have s2 := hoW.slot hy
        rw [vx] at s1
        rw [vy] at s2
        obtain ⟨R, hR⟩ : ∃ R, R = wr.heap.size := ⟨_, rfl⟩
        rw [← hR] at hRW
        obtain ⟨⟨d1, d2⟩, _⟩ := boxTwo_cells hRW
        have LI : Hid (∀ (z : Nat), Hid (z < n) → ∀ w2, Calls Try.prog 69 #[.int .i64 (z : Int), .int .i64 0, .int .i64 ((n : Int) - 1)] w2 fun e w' => e = .returned (.bool true) ∧ w2 = w') := fun z hz w2 => by
          have hz := hz.out
          have := l1In_any (z : Int) 0 ((n : Int) - 1) w2
          rw [decide_eq_true (by omega)] at this
          exact this
        have hwr : IntKind.i64.wrap ((n : Int) - 1) = (n : Int) - 1 := IntWalk.i64_in _ (by omega)
        have HX := Lib.hid hx
        have HY := Lib.hid hy
        have UN : Hid (∀ w2, Below W.heap.size W w2 → Calls Try.prog 39 #[.slice (some ⟨g, 0, none⟩) n c1, .int .i64 1, .int .i64 (x : Int), .int .i64 (y : Int)] w2 fun e w' => e = .returned (.bool true) ∧ Below w2.heap.size w2 w') := fun w2 hb2 => by
          have := l2Under_any (some ⟨g, 0, none⟩) n c1 W.heap.size x y v 1 w2 (hoW.rd.below hb2 (Nat.le_refl _)) hb2.size hfv ⟨by decide, by decide⟩ hx hy
          rw [hun] at this
          exact this
        have hx1 := hoW.at_base
        have t1 : ((x : Int) == (y : Int)) = false := by simp; omega
        have t2 : ((x : Int) != (x : Int)) = false := by simp
        have t3 : ((y : Int) != (y : Int)) = false := by simp
        have pp : (x : Int) < (n : Int) := by omega
        have qq : (y : Int) < (n : Int) := by omega
        have hbb : Below W.heap.size W W := Below.refl _ _
        have HN : Hid (∀ w2, Below W.heap.size W w2 → (w2.cell? ⟨g, x, none⟩ = some (.int .i64 (x : Int)) ∧ w2.frozen? ⟨g, x, none⟩ = false) ∧ ∃ v', builtL (roots n) (ss.take (k + 1)) = some v' ∧ Own (w2.setCell ⟨g, x, none⟩ (.int .i64 (y : Int))) w.heap.size (.slice (some ⟨g, 0, none⟩) n c1) v' ∧ Below w.heap.size w (w2.setCell ⟨g, x, none⟩ (.int .i64 (y : Int)))) := fun w2 hb2 => by
          have ho2 := hoW.keep hb2 (Nat.le_refl _)
          have hb2' := Below.on (Below.on hbe hbW) hb2
          refine ⟨⟨?_, ho2.free x⟩, _, hnext, ho2.set_ x (y : Int), hb2'.setCell (p := ⟨g, x, none⟩) hx1.1 _⟩
          have := ho2.slot hx
          rw [vx] at this
          exact this
        have HW := Lib.hid (And.intro hW hR)
        clear hv ho hbe hbb hc1 hfv hvl hxy vx vy hun hnext hW hR hbW hoW hRW hx1 HK ex ey hx hy HB
        have hbb : Below W.heap.size W W := Below.refl _ _
        go_wp2_with fail
        rw [← HW.out.1, ← HW.out.2]
        go_region_held3 (fun w' => Below W.heap.size W w' ∧ w'.cell? ⟨R, 0, none⟩ = some (.int .i64 (x : Int)) ∧ w'.cell? ⟨R, 1, none⟩ = some (.int .i64 (y : Int)) ∧ w'.cell? ⟨g, x, none⟩ = some (.int .i64 (x : Int)) ∧ w'.cell? ⟨g, y, none⟩ = some (.int .i64 (y : Int)))
          (first | assumption | exact held4_drew ⟨by assumption, by assumption, by assumption, by assumption, by assumption⟩ | exact held4_drew (by assumption) | exact held4_call (by assumption) (by assumption) (Below.size (And.left (by assumption))))
          (first | (go_at_call 69; (try rw [hwr]); refine (LI.out _ (by first | exact HX | exact HY) _).mono ?_; rintro e w8 ⟨rfl, rfl⟩) | (go_at_call 39; refine (UN.out _ (‹Below W.heap.size W _ ∧ _›).1).mono ?_; rintro e w8 ⟨rfl, hb8⟩))
        obtain ⟨hbz, z1, z2, _, _⟩ := ‹Below W.heap.size W _ ∧ _›
        obtain ⟨⟨n1, n2⟩, hn3⟩ := HN.out _ hbz
        have HI2 := Lib.hid hn3
        clear hbz hn3 HN UN LI d1 d2 s1 s2
        go_wp2_with fail
        go_roundw
        case rel => exact ⟨k + 1, by omega, by go_num, HI2⟩
        case measure => simp [intOf]; omega
      | false =>
        rcases okStep_why hvl hok with hx | ⟨x, ex, hx, hy | ⟨y, ey, hy, hxy | ⟨hxy, vx | ⟨vx, vy | ⟨vy, hun⟩⟩⟩⟩⟩
        · obtain ⟨x, ex⟩ : ∃ x, x = (ss[k]?.getD (0, 0)).1 := ⟨_, rfl⟩
          obtain ⟨y, ey⟩ : ∃ y, y = (ss[k]?.getD (0, 0)).2 := ⟨_, rfl⟩
          rw [← ex] at q1 hx
          rw [← ey] at q2
          clear ex ey
          obtain ⟨W, hW⟩ : ∃ W, W = wr.alloc (.cells #[.int .i64 x, .int .i64 y] 68) := ⟨_, rfl⟩
          have hbW : Below wr.heap.size wr W := by rw [hW]; exact (Below.refl _ _).alloc (Nat.le_refl _) _
          have hoW := ho.keep hbW (Nat.le_refl _)
          have hRW : W.heap[wr.heap.size]? = some (.cells #[.int .i64 x, .int .i64 y] 68 (0, 0)) := by rw [hW]; exact World.alloc_heap_new wr _
          obtain ⟨R, hR⟩ : ∃ R, R = wr.heap.size := ⟨_, rfl⟩
          rw [← hR] at hRW
          obtain ⟨⟨d1, d2⟩, _⟩ := boxTwo_cells hRW
          have hwr : IntKind.i64.wrap ((n : Int) - 1) = (n : Int) - 1 := IntWalk.i64_in _ (by omega)
          have LQ := Lib.hid (fun (z : Int) (b : Bool) (hz : Hid (b = decide (0 ≤ z ∧ z ≤ (n : Int) - 1))) (q : Nat) => Calls.quiet_of_same (P := Try.prog) (n := q) ((l1In_any z 0 ((n : Int) - 1) (W.drewN q)).mono fun _ _ ⟨h1, h2⟩ => ⟨(show _ = Ending.returned (.bool b) by rw [hz.out]; exact h1), h2.symm⟩))
          have HX : Hid (false = decide (0 ≤ x ∧ x ≤ (n : Int) - 1)) := (by rw [decide_eq_false (by omega)] : false = decide (0 ≤ x ∧ x ≤ (n : Int) - 1))
          have HBW := Lib.hid (Below.on hbe hbW)
          have HW := Lib.hid (And.intro hW hR)
          clear hv ho hbe hbb hc1 hfv hvl hgd hok HK HB HE hW hR hbW hoW hRW hx 
          go_wp2_with fail
          rw [← HW.out.1, ← HW.out.2]
          go_quiet ((go_at_call 69; (try rw [hwr]); exact LQ.out _ _ (by first | exact HX) _))
          have HBZ := Lib.hid (below_drewN HBW.out nq)
          clear d1 d2 LQ
          go_wp2_with fail
          go_ret2
          exact ⟨_, rfl, Own.lit _ _ [] HBZ.out.size (by simp), HBZ.out.alloc HBZ.out.size _⟩
        · obtain ⟨y, ey⟩ : ∃ y, y = (ss[k]?.getD (0, 0)).2 := ⟨_, rfl⟩
          rw [ex] at q1
          rw [← ey] at q2 hy
          clear ex ey
          obtain ⟨W, hW⟩ : ∃ W, W = wr.alloc (.cells #[.int .i64 (x : Int), .int .i64 y] 68) := ⟨_, rfl⟩
          have hbW : Below wr.heap.size wr W := by rw [hW]; exact (Below.refl _ _).alloc (Nat.le_refl _) _
          have hoW := ho.keep hbW (Nat.le_refl _)
          have hRW : W.heap[wr.heap.size]? = some (.cells #[.int .i64 (x : Int), .int .i64 y] 68 (0, 0)) := by rw [hW]; exact World.alloc_heap_new wr _
          obtain ⟨R, hR⟩ : ∃ R, R = wr.heap.size := ⟨_, rfl⟩
          rw [← hR] at hRW
          obtain ⟨⟨d1, d2⟩, _⟩ := boxTwo_cells hRW
          have hwr : IntKind.i64.wrap ((n : Int) - 1) = (n : Int) - 1 := IntWalk.i64_in _ (by omega)
          have LQ := Lib.hid (fun (z : Int) (b : Bool) (hz : Hid (b = decide (0 ≤ z ∧ z ≤ (n : Int) - 1))) (q : Nat) => Calls.quiet_of_same (P := Try.prog) (n := q) ((l1In_any z 0 ((n : Int) - 1) (W.drewN q)).mono fun _ _ ⟨h1, h2⟩ => ⟨(show _ = Ending.returned (.bool b) by rw [hz.out]; exact h1), h2.symm⟩))
          have HX : Hid (true = decide (0 ≤ (x : Int) ∧ (x : Int) ≤ (n : Int) - 1)) := (by rw [decide_eq_true (by omega)] : true = decide (0 ≤ (x : Int) ∧ (x : Int) ≤ (n : Int) - 1))
          have HY : Hid (false = decide (0 ≤ y ∧ y ≤ (n : Int) - 1)) := (by rw [decide_eq_false (by omega)] : false = decide (0 ≤ y ∧ y ≤ (n : Int) - 1))
          have HBW := Lib.hid (Below.on hbe hbW)
          have HW := Lib.hid (And.intro hW hR)
          clear hv ho hbe hbb hc1 hfv hvl hgd hok HK HB HE hW hR hbW hoW hRW hx hy
          go_wp2_with fail
          rw [← HW.out.1, ← HW.out.2]
          go_quiet ((go_at_call 69; (try rw [hwr]); exact LQ.out _ _ (by first | exact HX | exact HY) _))
          have HBZ := Lib.hid (below_drewN HBW.out nq)
          clear d1 d2 LQ
          go_wp2_with fail
          go_ret2
          exact ⟨_, rfl, Own.lit _ _ [] HBZ.out.size (by simp), HBZ.out.alloc HBZ.out.size _⟩
        · subst hxy
          rw [ex] at q1
          rw [ey] at q2
          clear ex ey
          have t1 : ((x : Int) == (x : Int)) = true := by simp
          obtain ⟨W, hW⟩ : ∃ W, W = wr.alloc (.cells #[.int .i64 (x : Int), .int .i64 (x : Int)] 68) := ⟨_, rfl⟩
          have hbW : Below wr.heap.size wr W := by rw [hW]; exact (Below.refl _ _).alloc (Nat.le_refl _) _
          have hoW := ho.keep hbW (Nat.le_refl _)
          have hRW : W.heap[wr.heap.size]? = some (.cells #[.int .i64 (x : Int), .int .i64 (x : Int)] 68 (0, 0)) := by rw [hW]; exact World.alloc_heap_new wr _
          obtain ⟨R, hR⟩ : ∃ R, R = wr.heap.size := ⟨_, rfl⟩
          rw [← hR] at hRW
          obtain ⟨⟨d1, d2⟩, _⟩ := boxTwo_cells hRW
          have hwr : IntKind.i64.wrap ((n : Int) - 1) = (n : Int) - 1 := IntWalk.i64_in _ (by omega)
          have LQ := Lib.hid (fun (z : Int) (b : Bool) (hz : Hid (b = decide (0 ≤ z ∧ z ≤ (n : Int) - 1))) (q : Nat) => Calls.quiet_of_same (P := Try.prog) (n := q) ((l1In_any z 0 ((n : Int) - 1) (W.drewN q)).mono fun _ _ ⟨h1, h2⟩ => ⟨(show _ = Ending.returned (.bool b) by rw [hz.out]; exact h1), h2.symm⟩))
          have HX : Hid (true = decide (0 ≤ (x : Int) ∧ (x : Int) ≤ (n : Int) - 1)) := (by rw [decide_eq_true (by omega)] : true = decide (0 ≤ (x : Int) ∧ (x : Int) ≤ (n : Int) - 1))
          have HBW := Lib.hid (Below.on hbe hbW)
          have HW := Lib.hid (And.intro hW hR)
          clear hv ho hbe hbb hc1 hfv hvl hgd hok HK HB HE hW hR hbW hoW hRW hx hy
          go_wp2_with fail
          rw [← HW.out.1, ← HW.out.2]
          go_quiet ((go_at_call 69; (try rw [hwr]); exact LQ.out _ _ (by first | exact HX) _))
          have HBZ := Lib.hid (below_drewN HBW.out nq)
          clear d1 d2 LQ
          go_wp2_with fail
          go_ret2
          exact ⟨_, rfl, Own.lit _ _ [] HBZ.out.size (by simp), HBZ.out.alloc HBZ.out.size _⟩
        · rw [ex] at q1
          rw [ey] at q2
          clear ex ey
          have t1 : ((x : Int) == (y : Int)) = false := by simp; omega
          obtain ⟨z, hz⟩ : ∃ z, z = v[x]?.getD 0 := ⟨_, rfl⟩
          have t2 : (z != (x : Int)) = true := by rw [hz]; simp; omega
          have pp : (x : Int) < (n : Int) := by omega
          obtain ⟨W, hW⟩ : ∃ W, W = wr.alloc (.cells #[.int .i64 (x : Int), .int .i64 (y : Int)] 68) := ⟨_, rfl⟩
          have hbW : Below wr.heap.size wr W := by rw [hW]; exact (Below.refl _ _).alloc (Nat.le_refl _) _
          have hoW := ho.keep hbW (Nat.le_refl _)
          have hRW : W.heap[wr.heap.size]? = some (.cells #[.int .i64 (x : Int), .int .i64 (y : Int)] 68 (0, 0)) := by rw [hW]; exact World.alloc_heap_new wr _
          obtain ⟨R, hR⟩ : ∃ R, R = wr.heap.size := ⟨_, rfl⟩
          rw [← hR] at hRW
          obtain ⟨⟨d1, d2⟩, _⟩ := boxTwo_cells hRW
          have s1 := hoW.slot hx
          rw [← hz] at s1
          clear hz
          have hwr : IntKind.i64.wrap ((n : Int) - 1) = (n : Int) - 1 := IntWalk.i64_in _ (by omega)
          have LQ := Lib.hid (fun (z : Int) (b : Bool) (hz : Hid (b = decide (0 ≤ z ∧ z ≤ (n : Int) - 1))) (q : Nat) => Calls.quiet_of_same (P := Try.prog) (n := q) ((l1In_any z 0 ((n : Int) - 1) (W.drewN q)).mono fun _ _ ⟨h1, h2⟩ => ⟨(show _ = Ending.returned (.bool b) by rw [hz.out]; exact h1), h2.symm⟩))
          have HX : Hid (true = decide (0 ≤ (x : Int) ∧ (x : Int) ≤ (n : Int) - 1)) := (by rw [decide_eq_true (by omega)] : true = decide (0 ≤ (x : Int) ∧ (x : Int) ≤ (n : Int) - 1))
          have HY : Hid (true = decide (0 ≤ (y : Int) ∧ (y : Int) ≤ (n : Int) - 1)) := (by rw [decide_eq_true (by omega)] : true = decide (0 ≤ (y : Int) ∧ (y : Int) ≤ (n : Int) - 1))
          have HBW := Lib.hid (Below.on hbe hbW)
          have HW := Lib.hid (And.intro hW hR)
          clear hv ho hbe hbb hc1 hfv hvl hgd hok HK HB HE hW hR hbW hoW hRW hx hy hxy vx
          go_wp2_with fail
          rw [← HW.out.1, ← HW.out.2]
          go_quiet ((go_at_call 69; (try rw [hwr]); exact LQ.out _ _ (by first | exact HX | exact HY) _))
          have HBZ := Lib.hid (below_drewN HBW.out nq)
          clear d1 d2 LQ
          go_wp2_with fail
          go_ret2
          exact ⟨_, rfl, Own.lit _ _ [] HBZ.out.size (by simp), HBZ.out.alloc HBZ.out.size _⟩
        · rw [ex] at q1
          rw [ey] at q2
          clear ex ey
          have t1 : ((x : Int) == (y : Int)) = false := by simp; omega
          have t2 : ((x : Int) != (x : Int)) = false := by simp
          obtain ⟨z, hz⟩ : ∃ z, z = v[y]?.getD 0 := ⟨_, rfl⟩
          have t3 : (z != (y : Int)) = true := by rw [hz]; simp; omega
          have pp : (x : Int) < (n : Int) := by omega
          have qq : (y : Int) < (n : Int) := by omega
          obtain ⟨W, hW⟩ : ∃ W, W = wr.alloc (.cells #[.int .i64 (x : Int), .int .i64 (y : Int)] 68) := ⟨_, rfl⟩
          have hbW : Below wr.heap.size wr W := by rw [hW]; exact (Below.refl _ _).alloc (Nat.le_refl _) _
          have hoW := ho.keep hbW (Nat.le_refl _)
          have hRW : W.heap[wr.heap.size]? = some (.cells #[.int .i64 (x : Int), .int .i64 (y : Int)] 68 (0, 0)) := by rw [hW]; exact World.alloc_heap_new wr _
          obtain ⟨R, hR⟩ : ∃ R, R = wr.heap.size := ⟨_, rfl⟩
          rw [← hR] at hRW
          obtain ⟨⟨d1, d2⟩, _⟩ := boxTwo_cells hRW
          have s1 := hoW.slot hx
          rw [vx] at s1
          have s2 := hoW.slot hy
          rw [← hz] at s2
          clear hz
          have hwr : IntKind.i64.wrap ((n : Int) - 1) = (n : Int) - 1 := IntWalk.i64_in _ (by omega)
          have LQ := Lib.hid (fun (z : Int) (b : Bool) (hz : Hid (b = decide (0 ≤ z ∧ z ≤ (n : Int) - 1))) (q : Nat) => Calls.quiet_of_same (P := Try.prog) (n := q) ((l1In_any z 0 ((n : Int) - 1) (W.drewN q)).mono fun _ _ ⟨h1, h2⟩ => ⟨(show _ = Ending.returned (.bool b) by rw [hz.out]; exact h1), h2.symm⟩))
          have HX : Hid (true = decide (0 ≤ (x : Int) ∧ (x : Int) ≤ (n : Int) - 1)) := (by rw [decide_eq_true (by omega)] : true = decide (0 ≤ (x : Int) ∧ (x : Int) ≤ (n : Int) - 1))
          have HY : Hid (true = decide (0 ≤ (y : Int) ∧ (y : Int) ≤ (n : Int) - 1)) := (by rw [decide_eq_true (by omega)] : true = decide (0 ≤ (y : Int) ∧ (y : Int) ≤ (n : Int) - 1))
          have HBW := Lib.hid (Below.on hbe hbW)
          have HW := Lib.hid (And.intro hW hR)
          clear hv ho hbe hbb hc1 hfv hvl hgd hok HK HB HE hW hR hbW hoW hRW hx hy hxy vx vy
          go_wp2_with fail
          rw [← HW.out.1, ← HW.out.2]
          go_quiet ((go_at_call 69; (try rw [hwr]); exact LQ.out _ _ (by first | exact HX | exact HY) _))
          have HBZ := Lib.hid (below_drewN HBW.out nq)
          clear d1 d2 LQ
          go_wp2_with fail
          go_ret2
          exact ⟨_, rfl, Own.lit _ _ [] HBZ.out.size (by simp), HBZ.out.alloc HBZ.out.size _⟩
        · rw [ex] at q1
          rw [ey] at q2
          clear ex ey
          have t1 : ((x : Int) == (y : Int)) = false := by simp; omega
          have t2 : ((x : Int) != (x : Int)) = false := by simp
          have t3 : ((y : Int) != (y : Int)) = false := by simp
          have pp : (x : Int) < (n : Int) := by omega
          have qq : (y : Int) < (n : Int) := by omega
          obtain ⟨W, hW⟩ : ∃ W, W = wr.alloc (.cells #[.int .i64 (x : Int), .int .i64 (y : Int)] 68) := ⟨_, rfl⟩
          have hbW : Below wr.heap.size wr W := by rw [hW]; exact (Below.refl _ _).alloc (Nat.le_refl _) _
          have hoW := ho.keep hbW (Nat.le_refl _)
          have hRW : W.heap[wr.heap.size]? = some (.cells #[.int .i64 (x : Int), .int .i64 (y : Int)] 68 (0, 0)) := by rw [hW]; exact World.alloc_heap_new wr _
          obtain ⟨R, hR⟩ : ∃ R, R = wr.heap.size := ⟨_, rfl⟩
          rw [← hR] at hRW
          obtain ⟨⟨d1, d2⟩, _⟩ := boxTwo_cells hRW
          have s1 := hoW.slot hx
          rw [vx] at s1
          have s2 := hoW.slot hy
          rw [vy] at s2
          have UN : Hid (∀ w2, Below W.heap.size W w2 → Calls Try.prog 39 #[.slice (some ⟨g, 0, none⟩) n c1, .int .i64 1, .int .i64 (x : Int), .int .i64 (y : Int)] w2 fun e w' => e = .returned (.bool false) ∧ Below w2.heap.size w2 w') := fun w2 hb2 => by
            have := l2Under_any (some ⟨g, 0, none⟩) n c1 W.heap.size x y v 1 w2 (hoW.rd.below hb2 (Nat.le_refl _)) hb2.size hfv ⟨by decide, by decide⟩ hx hy
            rw [hun] at this
            exact this
          have hwr : IntKind.i64.wrap ((n : Int) - 1) = (n : Int) - 1 := IntWalk.i64_in _ (by omega)
          have LI : Hid (∀ (z : Nat), Hid (z < n) → ∀ w2, Calls Try.prog 69 #[.int .i64 (z : Int), .int .i64 0, .int .i64 ((n : Int) - 1)] w2 fun e w' => e = .returned (.bool true) ∧ w2 = w') := fun z hz w2 => by
            have hz := hz.out
            have := l1In_any (z : Int) 0 ((n : Int) - 1) w2
            rw [decide_eq_true (by omega)] at this
            exact this
          have HX := Lib.hid hx
          have HY := Lib.hid hy
          have HBW := Lib.hid (Below.on hbe hbW)
          have HW := Lib.hid (And.intro hW hR)
          clear hv ho hbe hbb hc1 hfv hvl hgd hok HK HB HE hW hR hbW hoW hRW
          have hbb : Below W.heap.size W W := Below.refl _ _
          go_wp2_with fail
          rw [← HW.out.1, ← HW.out.2]
          go_region_held3 (fun w' => Below W.heap.size W w' ∧ w'.cell? ⟨R, 0, none⟩ = some (.int .i64 (x : Int)) ∧ w'.cell? ⟨R, 1, none⟩ = some (.int .i64 (y : Int)) ∧ w'.cell? ⟨g, x, none⟩ = some (.int .i64 (x : Int)) ∧ w'.cell? ⟨g, y, none⟩ = some (.int .i64 (y : Int)))
            (first | assumption | exact held4_drew ⟨by assumption, by assumption, by assumption, by assumption, by assumption⟩ | exact held4_drew (by assumption) | exact held4_call (by assumption) (by assumption) (Below.size (And.left (by assumption))))
            (first | (go_at_call 69; (try rw [hwr]); refine (LI.out _ (by first | exact HX | exact HY) _).mono ?_; rintro e w8 ⟨rfl, rfl⟩) | (go_at_call 39; refine (UN.out _ (‹Below W.heap.size W _ ∧ _›).1).mono ?_; rintro e w8 ⟨rfl, hb8⟩))
          have hbz := Below.on HBW.out (‹Below W.heap.size W _ ∧ _›).1
          have HBZ := Lib.hid hbz
          clear hbz d1 d2 LI
          go_wp2_with fail
          go_ret2
          exact ⟨_, rfl, Own.lit _ _ [] HBZ.out.size (by simp), HBZ.out.alloc HBZ.out.size _⟩
    · obtain rfl : k = m := by omega
      rw [HE.out.1, HE.out.2.1] at hv
      cases hv
end Go.Proofs.Ytichcnaomcpnhaa

namespace Go.Proofs.Ytichcnaomcpnhaa
open Go.RowKit

set_option maxHeartbeats 2000000 in
theorem l1Ints_eq (A1 A2 : Option Addr) (n c1 c2 B B' : Nat) (xs ys : List Int) (w : World) (h1 : Rd w B A1 n xs) (h2 : Rd w B' A2 n ys) (hb : n ≤ 1048576) :
    Calls Try.prog 71 #[.slice A1 n c1, .slice A2 n c2] w fun e w' => e = .returned (.bool (decide (xs = ys))) ∧ ∃ n, w' = w.drewN n := by
  have l1 := h1.1
  have l2 := h2.1
  have L1 : xs.length ≤ n := by omega
  have L2 : ys.length ≤ n := by omega
  have L3 : n ≤ xs.length := by omega
  have L4 : n ≤ ys.length := by omega
  have hmn : min (n : Int) (n : Int) = (n : Int) := by omega
  clear l1 l2
  go_enter Try.func71, Try.ntmps71
  go_wp2
  go_loopw [11] (fun i wr => ∃ k m : Nat, k ≤ n ∧ i = .int .i64 k ∧ xs.take k = ys.take k ∧ wr = w.drewN m) (fun i _ => n - (intOf i).toNat)
  case atStart => exact ⟨0, 0, Nat.zero_le _, rfl, by simp, rfl⟩
  case round =>
    obtain ⟨k, m, hk, rfl, ht, rfl⟩ := hrel
    by_cases hlt : k < n
    · obtain ⟨b, off, rfl, _, hc1⟩ := h1.2 (by omega)
      obtain ⟨b2, off2, rfl, _, hc2⟩ := h2.2 (by omega)
      have g1 := hc1 k hlt
      have g2 := hc2 k hlt
      have hkk : (k : Int) < (n : Int) := by omega
      clear hc1 hc2
      by_cases he : xs[k]?.getD 0 = ys[k]?.getD 0
      · have hs := take_succ_eq ht (by omega) (by omega) he
        have H := Lib.hid hs
        clear hs ht
        have hne : (xs[k]?.getD 0 != ys[k]?.getD 0) = false := by simp [he]
        clear he
        go_wp2
        go_quiet (fail)
        go_wp2
        go_roundw
        case rel => exact ⟨k + 1, _, by omega, by go_num, H.out, rfl⟩
        case measure => simp [intOf]; omega
      · have hf : decide (xs = ys) = false := by simp; exact ne_of_get he
        have H := Lib.hid hf
        clear hf ht
        have hne : (xs[k]?.getD 0 != ys[k]?.getD 0) = true := by simp [he]
        clear he
        go_wp2
        go_quiet (fail)
        go_wp2
        go_ret
        exact ⟨ret_bool H.out.symm, _, World.drewN_drewN _ _ _⟩
    · have hf : decide (xs = ys) = true := by simp; exact eq_of_take ht (by omega) (by omega)
      have H := Lib.hid hf
      obtain rfl : k = n := by omega
      clear hf ht
      go_wp2
      go_ret
      exact ⟨ret_bool H.out.symm, _, rfl⟩
set_option maxHeartbeats 4000000 in
theorem specLogV_good (A1 A2 : Option Addr) (n c1 m c2 B0 : Nat) (xs : List Int) (ss : List (Int × Int)) (w : World) (h1 : Rd w B0 A1 n xs) (h2 : RdQ w B0 A2 m ss) (hB0 : B0 ≤ w.heap.size) (hb2 : m ≤ 1048576) (hv : logV xs ss = true) :
    Calls Try.prog 35 #[.agg #[.slice A1 n c1, .slice A2 m c2]] w fun e w' => e = .returned (.bool true) ∧ Below w.heap.size w w' := by
  obtain ⟨W, hW⟩ : ∃ W, W = w.alloc (.cells #[.slice A1 n c1, .slice A2 m c2] 26) := ⟨_, rfl⟩
  have hbW : Below w.heap.size w W := by rw [hW]; exact (Below.refl _ _).alloc (Nat.le_refl _) _
  have hA : W.heap[w.heap.size]? = some (.cells #[.slice A1 n c1, .slice A2 m c2] 26 (0, 0)) := by rw [hW]; exact World.alloc_heap_new w _
  obtain ⟨⟨p1, p16⟩, hbu, hfv⟩ := logV_parts hv
  have hl := h1.1
  rw [hl] at p1 p16 hbu
  have L1 := l1In_any (n : Int) 1 16 W
  rw [decide_eq_true (by omega)] at L1
  have BU := Lib.hid (l4Built_good n A2 m c2 B0 ss xs W (h2.below hbW hB0) (Nat.le_trans hB0 hbW.size) hb2 p1 p16 hbu)
  have L1 := Lib.hid L1
  obtain ⟨P, hP⟩ : ∃ P, P = w.heap.size := ⟨_, rfl⟩
  rw [← hP] at hA
  have hlt := (Array.getElem?_eq_some_iff.1 hA).1
  have HW := Lib.hid (And.intro hbW (And.intro hA (And.intro hlt (And.intro (h1.below hbW hB0) (Nat.le_trans hB0 hbW.size)))))
  have HE := Lib.hid (And.intro hW hP)
  have LI := Lib.hid (fun (A : Option Addr) (c : Nat) (w2 : World) (h : Rd w2 w2.heap.size A n xs) (h' : Rd w2 B0 A1 n xs) => l1Ints_eq A A1 n c c1 _ _ xs xs w2 h h' (by omega))
  have dx : decide (xs = xs) = true := by simp
  have hn1 : (n : Int) ≤ 16 := by omega
  clear h1 h2 hB0 hv hW hbW hA hbu hfv hP hlt p1 p16
  go_enter Try.func35, Try.ntmps35
  go_wp2_with fail
  rw [← HE.out.1]
  refine L1.out.mono ?_
  rintro e w1 ⟨rfl, rfl⟩
  obtain ⟨⟨a1, a2⟩, _⟩ := boxTwo_cells HW.out.2.1
  rw [HE.out.2] at a1 a2
  go_wp2_with fail
  refine BU.out.mono ?_
  rintro e w2 ⟨v, rfl, ho, hb⟩
  obtain ⟨A3, c3, rfl, hr⟩ := ho.form
  rw [hl] at hr ⊢
  obtain ⟨⟨k1, k2⟩, _⟩ := boxTwo_cells ((hb.block P HW.out.2.2.1).trans HW.out.2.1)
  rw [HE.out.2] at k1 k2
  have LI := Lib.hid (LI.out A3 c3 w2 hr (HW.out.2.2.2.1.below hb HW.out.2.2.2.2))
  have HB := Lib.hid (Below.on HW.out.1 hb)
  clear ho hb hr a1 a2 hl
  go_wp2_with fail
  refine LI.out.mono ?_
  rintro e w' ⟨rfl, j, rfl⟩
  rw [dx]
  go_wp2_with fail
  go_ret
  exact ⟨rfl, below_drewN HB.out j⟩
end Go.Proofs.Ytichcnaomcpnhaa

namespace Go.Proofs.Ytichcnaomcpnhaa
open Go.RowKit

theorem l4Built_any (n : Nat) (A : Option Addr) (m c B0 : Nat) (ss : List (Int × Int)) (w : World) (h : RdQ w B0 A m ss) (hB0 : B0 ≤ w.heap.size) (hb : m ≤ 1048576) (h1 : 1 ≤ n) (h16 : n ≤ 16) :
    Calls Try.prog 70 #[.int .i64 (n : Int), .slice A m c] w fun e w' => ∃ v, e = .returned (.tuple #[v, .bool (builtL (roots n) ss).isSome]) ∧ Own w' w.heap.size v ((builtL (roots n) ss).getD []) ∧ Below w.heap.size w w' := by
  cases hu : builtL (roots n) ss with
  | none => exact l4Built_bad n A m c B0 ss w h hB0 hb h1 h16 hu
  | some u => exact l4Built_good n A m c B0 ss u w h hB0 hb h1 h16 hu
set_option maxHeartbeats 4000000 in
theorem specLogV_any (A1 A2 : Option Addr) (n c1 m c2 B0 : Nat) (xs : List Int) (ss : List (Int × Int)) (w : World) (h1 : Rd w B0 A1 n xs) (h2 : RdQ w B0 A2 m ss) (hB0 : B0 ≤ w.heap.size) (hb1 : n ≤ 1048576) (hb2 : m ≤ 1048576) :
    Calls Try.prog 35 #[.agg #[.slice A1 n c1, .slice A2 m c2]] w fun e w' => e = .returned (.bool (logV xs ss)) ∧ Below w.heap.size w w' := by
  obtain ⟨W, hW⟩ : ∃ W, W = w.alloc (.cells #[.slice A1 n c1, .slice A2 m c2] 26) := ⟨_, rfl⟩
  have hbW : Below w.heap.size w W := by rw [hW]; exact (Below.refl _ _).alloc (Nat.le_refl _) _
  have hA : W.heap[w.heap.size]? = some (.cells #[.slice A1 n c1, .slice A2 m c2] 26 (0, 0)) := by rw [hW]; exact World.alloc_heap_new w _
  have hl := h1.1
  have L1 := l1In_any (n : Int) 1 16 W
  obtain ⟨P, hP⟩ : ∃ P, P = w.heap.size := ⟨_, rfl⟩
  rw [← hP] at hA
  have hlt := (Array.getElem?_eq_some_iff.1 hA).1
  have HW := Lib.hid (And.intro hbW (And.intro hA (And.intro hlt (And.intro (h1.below hbW hB0) (Nat.le_trans hB0 hbW.size)))))
  have HE := Lib.hid (And.intro hW hP)
  obtain ⟨⟨a1, a2⟩, _⟩ := boxTwo_cells hA
  rw [hP] at a1 a2
  by_cases hn : 1 ≤ n ∧ n ≤ 16
  case neg =>
    have e0 : logV xs ss = false := logV_n (by omega)
    rw [decide_eq_false (by omega)] at L1
    rw [e0]
    have L1 := Lib.hid L1
    clear h1 h2 hB0 hW hbW hA hP hlt hn e0 hl
    go_enter Try.func35, Try.ntmps35
    go_wp2_with fail
    rw [← HE.out.1]
    refine L1.out.mono ?_
    rintro e w1 ⟨rfl, rfl⟩
    go_wp2_with fail
    go_ret
    exact ⟨rfl, HW.out.1⟩
  case pos =>
    rw [decide_eq_true (by omega)] at L1
    have BU := l4Built_any n A2 m c2 B0 ss W (h2.below hbW hB0) (Nat.le_trans hB0 hbW.size) hb2 hn.1 hn.2
    have L1 := Lib.hid L1
    cases hu : builtL (roots n) ss with
    | none =>
      have e0 : logV xs ss = false := logV_b (by rw [hl, hu]; simp)
      rw [hu] at BU
      rw [e0]
      have BU := Lib.hid BU
      clear h1 h2 hB0 hW hbW hA hP hlt hn e0 hl hu
      go_enter Try.func35, Try.ntmps35
      go_wp2_with fail
      rw [← HE.out.1]
      refine L1.out.mono ?_
      rintro e w1 ⟨rfl, rfl⟩
      go_wp2_with fail
      refine BU.out.mono ?_
      rintro e w2 ⟨v, rfl, ho, hb⟩
      have HB := Lib.hid (Below.on HW.out.1 hb)
      rw [show (none : Option (List Int)).isSome = false from rfl]
      clear ho hb a1 a2
      go_wp2_with fail
      go_ret
      exact ⟨rfl, HB.out⟩
    | some u =>
      have e0 : logV xs ss = decide (u = xs) := by
        unfold logV
        rw [hl, hu, decide_eq_true hn]
        by_cases h : u = xs
        · rw [h]; simp
        · rw [decide_eq_false h, decide_eq_false (by simpa using h)]; rfl
      have hul : u.length = n := by
        have := (built_fv (roots_fv hn.1 hn.2) hu).2
        rwa [roots_len] at this
      rw [hu] at BU
      rw [e0]
      obtain ⟨d, hd⟩ : ∃ d, d = decide (u = xs) := ⟨_, rfl⟩
      have LI := fun (A : Option Addr) (c : Nat) (w2 : World) (h : Rd w2 w2.heap.size A n u) (h' : Rd w2 B0 A1 n xs) => l1Ints_eq A A1 n c c1 _ _ u xs w2 h h' (by omega)
      rw [← hd] at LI ⊢
      have LI := Lib.hid LI
      have BU := Lib.hid BU
      have HU := Lib.hid hul
      clear h1 h2 hB0 hW hbW hA hP hlt hn e0 hl hu hul hd
      go_enter Try.func35, Try.ntmps35
      go_wp2_with fail
      rw [← HE.out.1]
      refine L1.out.mono ?_
      rintro e w1 ⟨rfl, rfl⟩
      go_wp2_with fail
      refine BU.out.mono ?_
      rintro e w2 ⟨v, rfl, ho, hb⟩
      rw [show (some u).getD [] = u from rfl] at ho
      rw [show (some u).isSome = true from rfl]
      obtain ⟨A3, c3, rfl, hr⟩ := ho.form
      rw [HU.out] at hr ⊢
      obtain ⟨⟨k1, k2⟩, _⟩ := boxTwo_cells ((hb.block P HW.out.2.2.1).trans HW.out.2.1)
      rw [HE.out.2] at k1 k2
      have LI := Lib.hid (LI.out A3 c3 w2 hr (HW.out.2.2.2.1.below hb HW.out.2.2.2.2))
      have HB := Lib.hid (Below.on HW.out.1 hb)
      clear ho hb hr a1 a2
      go_wp2_with fail
      refine LI.out.mono ?_
      rintro e w' ⟨rfl, j, rfl⟩
      go_wp2_with fail
      go_ret
      exact ⟨rfl, below_drewN HB.out j⟩
end Go.Proofs.Ytichcnaomcpnhaa
