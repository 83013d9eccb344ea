/- The model's l4Built and LogValid for any log. Condition: lengths up to 1048576. -/
import Derived.Test.YtdbkoicbhddpfaaSpecBad
import Derived.Test.YtdbkoicbhddpfaaSpecLogV
namespace Go.Proofs.Ytdbkoicbhddpfaa
open Go.RowKit

theorem l4Built_any (n : Nat) (A : Option Addr) (m c B0 : Nat) (ss : List (Int × Int)) (w : World) (h : RdQ w B0 A m ss) (hB0 : B0 ≤ w.heap.size) (hb : m ≤ 1048576) (h1 : 1 ≤ n) (h16 : n ≤ 16) :
    Calls Try.prog 105 #[.int .i64 (n : Int), .slice A m c] w fun e w' => ∃ v, e = .returned (.tuple #[v, .bool (builtL (roots n) ss).isSome]) ∧ Own w' w.heap.size v ((builtL (roots n) ss).getD []) ∧ Below w.heap.size w w' := by
  cases hu : builtL (roots n) ss with
  | none => exact l4Built_bad n A m c B0 ss w h hB0 hb h1 h16 hu
  | some u => exact l4Built_good n A m c B0 ss u w h hB0 hb h1 h16 hu
set_option maxHeartbeats 4000000 in
theorem specLogV_any (A1 A2 : Option Addr) (n c1 m c2 B0 : Nat) (xs : List Int) (ss : List (Int × Int)) (w : World) (h1 : Rd w B0 A1 n xs) (h2 : RdQ w B0 A2 m ss) (hB0 : B0 ≤ w.heap.size) (hb1 : n ≤ 1048576) (hb2 : m ≤ 1048576) :
    Calls Try.prog 41 #[.agg #[.slice A1 n c1, .slice A2 m c2]] w fun e w' => e = .returned (.bool (logV xs ss)) ∧ Below w.heap.size w w' := by
  obtain ⟨W, hW⟩ : ∃ W, W = w.alloc (.cells #[.slice A1 n c1, .slice A2 m c2] 26) := ⟨_, rfl⟩
  have hbW : Below w.heap.size w W := by rw [hW]; exact (Below.refl _ _).alloc (Nat.le_refl _) _
  have hA : W.heap[w.heap.size]? = some (.cells #[.slice A1 n c1, .slice A2 m c2] 26 (0, 0)) := by rw [hW]; exact World.alloc_heap_new w _
  have hl := h1.1
  have L1 := l1In_any (n : Int) 1 16 W
  obtain ⟨P, hP⟩ : ∃ P, P = w.heap.size := ⟨_, rfl⟩
  rw [← hP] at hA
  have hlt := (Array.getElem?_eq_some_iff.1 hA).1
  have HW := Lib.hid (And.intro hbW (And.intro hA (And.intro hlt (And.intro (h1.below hbW hB0) (Nat.le_trans hB0 hbW.size)))))
  have HE := Lib.hid (And.intro hW hP)
  obtain ⟨⟨a1, a2⟩, _⟩ := boxTwo_cells hA
  rw [hP] at a1 a2
  by_cases hn : 1 ≤ n ∧ n ≤ 16
  case neg =>
    have e0 : logV xs ss = false := logV_n (by omega)
    rw [decide_eq_false (by omega)] at L1
    rw [e0]
    have L1 := Lib.hid L1
    clear h1 h2 hB0 hW hbW hA hP hlt hn e0 hl
    go_enter Try.func41, Try.ntmps41
    go_wp2_with fail
    rw [← HE.out.1]
    refine L1.out.mono ?_
    rintro e w1 ⟨rfl, rfl⟩
    go_wp2_with fail
    go_ret
    exact ⟨rfl, HW.out.1⟩
  case pos =>
    rw [decide_eq_true (by omega)] at L1
    have BU := l4Built_any n A2 m c2 B0 ss W (h2.below hbW hB0) (Nat.le_trans hB0 hbW.size) hb2 hn.1 hn.2
    have L1 := Lib.hid L1
    cases hu : builtL (roots n) ss with
    | none =>
      have e0 : logV xs ss = false := logV_b (by rw [hl, hu]; simp)
      rw [hu] at BU
      rw [e0]
      have BU := Lib.hid BU
      clear h1 h2 hB0 hW hbW hA hP hlt hn e0 hl hu
      go_enter Try.func41, Try.ntmps41
      go_wp2_with fail
      rw [← HE.out.1]
      refine L1.out.mono ?_
      rintro e w1 ⟨rfl, rfl⟩
      go_wp2_with fail
      refine BU.out.mono ?_
      rintro e w2 ⟨v, rfl, ho, hb⟩
      have HB := Lib.hid (Below.on HW.out.1 hb)
      rw [show (none : Option (List Int)).isSome = false from rfl]
      clear ho hb a1 a2
      go_wp2_with fail
      go_ret
      exact ⟨rfl, HB.out⟩
    | some u =>
      have e0 : logV xs ss = decide (u = xs) := by
        unfold logV
        rw [hl, hu, decide_eq_true hn]
        by_cases h : u = xs
        · rw [h]; simp
        · rw [decide_eq_false h, decide_eq_false (by simpa using h)]; rfl
      have hul : u.length = n := by
        have := (built_fv (roots_fv hn.1 hn.2) hu).2
        rwa [roots_len] at this
      rw [hu] at BU
      rw [e0]
      obtain ⟨d, hd⟩ : ∃ d, d = decide (u = xs) := ⟨_, rfl⟩
      have LI := fun (A : Option Addr) (c : Nat) (w2 : World) (h : Rd w2 w2.heap.size A n u) (h' : Rd w2 B0 A1 n xs) => l1Ints_eq A A1 n c c1 _ _ u xs w2 h h' (by omega)
      rw [← hd] at LI ⊢
      have LI := Lib.hid LI
      have BU := Lib.hid BU
      have HU := Lib.hid hul
      clear h1 h2 hB0 hW hbW hA hP hlt hn e0 hl hu hul hd
      go_enter Try.func41, Try.ntmps41
      go_wp2_with fail
      rw [← HE.out.1]
      refine L1.out.mono ?_
      rintro e w1 ⟨rfl, rfl⟩
      go_wp2_with fail
      refine BU.out.mono ?_
      rintro e w2 ⟨v, rfl, ho, hb⟩
      rw [show (some u).getD [] = u from rfl] at ho
      rw [show (some u).isSome = true from rfl]
      obtain ⟨A3, c3, rfl, hr⟩ := ho.form
      rw [HU.out] at hr ⊢
      obtain ⟨⟨k1, k2⟩, _⟩ := boxTwo_cells ((hb.block P HW.out.2.2.1).trans HW.out.2.1)
      rw [HE.out.2] at k1 k2
      have LI := Lib.hid (LI.out A3 c3 w2 hr (HW.out.2.2.2.1.below hb HW.out.2.2.2.2))
      have HB := Lib.hid (Below.on HW.out.1 hb)
      clear ho hb hr a1 a2
      go_wp2_with fail
      refine LI.out.mono ?_
      rintro e w' ⟨rfl, j, rfl⟩
      go_wp2_with fail
      go_ret
      exact ⟨rfl, below_drewN HB.out j⟩
end Go.Proofs.Ytdbkoicbhddpfaa
