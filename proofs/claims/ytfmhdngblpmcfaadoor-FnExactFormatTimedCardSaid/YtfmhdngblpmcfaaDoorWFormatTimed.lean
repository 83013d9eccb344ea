/- The walk of the exact law of FormatTimed: for all timed forests the law returns true and nothing that was there has turned. -/
import Derived.Test.YtfmhdngblpmcfaaDoorFmtT
import Derived.Test.YtfmhdngblpmcfaaDoorArgs
import Derived.Deep.RegionHeld3
namespace Go.Proofs.YtfmhdngblpmcfaaDoor
open Go.RowKit Go.Shelf

theorem row_smallF {w : World} {A : Option Addr} {n c : Nat} {zs : List Int} (h : Row .i64 w A n c zs) : n ≤ maxLen := by
  rcases h with ⟨rfl, rfl, rfl, rfl⟩ | ⟨x, rfl, hl, hm, _⟩
  · exact Nat.zero_le _
  · omega
set_option maxRecDepth 100000 in
set_option maxHeartbeats 8000000 in
theorem exactFormatTimed (A1 : Option Addr) (n1 c1 : Nat) (z1 : List Int) (A2 : Option Addr) (n2 c2 : Nat) (z2 : List Int) (w : World) (h1 : Row .i64 w A1 n1 c1 z1) (h2 : Row .i64 w A2 n2 c2 z2) :
    Calls Tryd.prog 8 #[.agg #[.slice A1 n1 c1, .slice A2 n2 c2]] w fun e w' => e = .returned (.bool true) ∧ Below w.heap.size w w' := by
  obtain ⟨W, hW⟩ : ∃ W, W = w.alloc (.cells #[.slice A1 n1 c1, .slice A2 n2 c2] 61) := ⟨_, rfl⟩
  have hbW : Below w.heap.size w W := by rw [hW]; exact (Below.refl _ _).alloc (Nat.le_refl _) _
  have hsW : w.heap.size < W.heap.size := by rw [hW]; simp
  have hA : W.heap[w.heap.size]? = some (.cells #[.slice A1 n1 c1, .slice A2 n2 c2] 61 (0, 0)) := by rw [hW]; exact World.alloc_heap_new w _
  have SZ := szTimed_any A1 A2 n1 c1 n2 c2 W (row_smallF h1) (row_smallF h2)
  obtain ⟨P, hP⟩ : ∃ P, P = w.heap.size := ⟨_, rfl⟩
  rw [← hP] at hA hsW
  have HW := Lib.hid (And.intro hbW (And.intro hsW hA))
  have HE := Lib.hid hW
  have HP := Lib.hid hP
  by_cases hl : 1048576 < n1 + n2
  · rw [if_pos hl] at SZ
    have SZ := Lib.hid SZ
    clear h1 h2 hW hbW hsW hA hP hl
    go_enter Tryd.func8, Tryd.ntmps8
    go_wp2_with fail
    rw [← HE.out, ← HP.out]
    refine SZ.out.mono ?_
    rintro e w1 ⟨rfl, hb1⟩
    have HB := Lib.hid (Below.on HW.out.1 hb1)
    clear hb1
    go_wp2_with fail
    go_ret
    exact ⟨rfl, HB.out⟩
  rw [if_neg hl] at SZ
  have t0 : ¬ (1048576 - (n1 : Int) - (n2 : Int) < 0) := by omega
  have hr1 := h1.rd
  have hr2 := h2.rd
  obtain ⟨xs, hxs⟩ : ∃ xs, xs = z1.take n1 := ⟨_, rfl⟩
  obtain ⟨ys, hys⟩ : ∃ ys, ys = z2.take n2 := ⟨_, rfl⟩
  rw [← hxs] at hr1
  rw [← hys] at hr2
  have hlx := hr1.1
  have hly := hr2.1
  have hx2 : xs.length ≤ 1048576 := by omega
  have hy2 : ys.length ≤ 1048576 := by omega
  have TO := Lib.hid (fun (w1 : World) (hb : Below w.heap.size w w1) => toTimed_any A1 A2 n1 c1 n2 c2 xs ys w1 ((hr1.below hb (Nat.le_refl _)).more hb.size) ((hr2.below hb (Nat.le_refl _)).more hb.size) (by omega) (by omega))
  have SP := Lib.hid (fun (A : Option Addr) (c : Nat) (A' : Option Addr) (c' : Nat) (w : World) (h : Rd w w.heap.size A xs.length xs) (h' : Rd w w.heap.size A' ys.length ys) => specFmtT_any A A' xs.length c ys.length c' _ xs ys w h h' (Nat.le_refl _) hx2 hy2)
  have IM := Lib.hid (fun (A : Option Addr) (c : Nat) (A' : Option Addr) (c' : Nat) (w : World) (h : Rd w w.heap.size A xs.length xs) (h' : Rd w w.heap.size A' ys.length ys) => implFmtT_any A A' xs.length c ys.length c' _ xs ys w h h' (Nat.le_refl _) hx2 hy2)
  have EQ : Hid (∀ (A A' B B' : Option Addr) (c c' d d' : Nat) (w : World), Rd w w.heap.size A xs.length xs → Rd w w.heap.size A' ys.length ys → Rd w w.heap.size B xs.length xs → Rd w w.heap.size B' ys.length ys → Calls Tryd.prog 37 #[.agg #[.slice A xs.length c, .slice A' ys.length c'], .agg #[.slice B xs.length d, .slice B' ys.length d']] w fun e w' => e = .returned (.bool true) ∧ Below w.heap.size w w') := fun A A' B B' c c' d d' w h1 h2 h3 h4 => by
    have := eqTimed_any A A' B B' xs.length c ys.length c' xs.length d ys.length d' xs xs ys ys w h1 h2 h3 h4 hx2 hy2 hx2 hy2
    rw [decide_eq_true rfl] at this
    exact this
  revert SP IM
  generalize fmtT xs ys = r
  intro SP IM
  have dr : (r.toList == r.toList) = true := by simp
  have SZ := Lib.hid SZ
  clear h1 h2 hxs hys hr1 hr2 hlx hly hl hW hbW hsW hA hP
  go_enter Tryd.func8, Tryd.ntmps8
  go_wp2_with fail
  rw [← HE.out, ← HP.out]
  refine SZ.out.mono ?_
  rintro e w1 ⟨rfl, hb1⟩
  have hAa := (hb1.block P HW.out.2.1).trans HW.out.2.2
  obtain ⟨⟨a1, a2⟩, _⟩ := boxTwo_cells hAa
  have HA := Lib.hid (And.intro hAa (And.intro (Array.getElem?_eq_some_iff.1 hAa).1 (Below.on HW.out.1 hb1)))
  clear hb1 hAa
  go_wp2_with fail
  refine (TO.out _ HA.out.2.2).mono ?_
  rintro e w2 ⟨v, v2, rfl, ho, ho2, hne, hb2⟩
  obtain ⟨B1, d1, rfl, hr⟩ := ho.form
  obtain ⟨B2, d2, rfl, hr2⟩ := ho2.form
  have HA2 := Lib.hid (And.intro ((hb2.block P HA.out.2.1).trans HA.out.1) (Below.on HA.out.2.2 hb2))
  clear ho ho2 hne hb2 a1 a2
  go_wp2_with fail
  refine (SP.out _ _ _ _ _ hr hr2).mono ?_
  rintro e w3 ⟨rfl, hb3⟩
  have hlt := (Array.getElem?_eq_some_iff.1 HA2.out.1).1
  have hAa := (hb3.block P hlt).trans HA2.out.1
  obtain ⟨⟨a1, a2⟩, _⟩ := boxTwo_cells hAa
  have HA3 := Lib.hid (And.intro hAa (And.intro (Array.getElem?_eq_some_iff.1 hAa).1 (Below.on HA2.out.2 hb3)))
  clear hr hr2 hb3 hAa hlt
  go_wp2_with fail
  refine (TO.out _ HA3.out.2.2).mono ?_
  rintro e w4 ⟨v, v2, rfl, ho, ho2, hne, hb4⟩
  obtain ⟨B1, d1, rfl, hr⟩ := ho.form
  obtain ⟨B2, d2, rfl, hr2⟩ := ho2.form
  obtain ⟨V, hV⟩ : ∃ V, V = w4.alloc (.cells #[.slice B1 xs.length d1, .slice B2 ys.length d2] 64) := ⟨_, rfl⟩
  have hbV : Below w4.heap.size w4 V := by rw [hV]; exact (Below.refl _ _).alloc (Nat.le_refl _) _
  have hAV := (hbV.block P (by have := HA3.out.2.1; have := hb4.size; omega)).trans ((hb4.block P HA3.out.2.1).trans HA3.out.1)
  have hXV : V.heap[w4.heap.size]? = some (.cells #[.slice B1 xs.length d1, .slice B2 ys.length d2] 64 (0, 0)) := by rw [hV]; exact World.alloc_heap_new w4 _
  obtain ⟨X, hX⟩ : ∃ X, X = w4.heap.size := ⟨_, rfl⟩
  rw [← hX] at hXV
  have HV := Lib.hid (And.intro hAV (And.intro hXV (Below.on (Below.on HA3.out.2.2 hb4) hbV)))
  have HVE := Lib.hid (And.intro hV hX)
  have IMV := Lib.hid (IM.out B1 d1 B2 d2 V (hr.to hbV) (hr2.to hbV))
  have HRV := Lib.hid (And.intro (hr.to hbV) (hr2.to hbV))
  clear ho ho2 hne hb4 hr hr2 hV hbV hAV hXV hX a1 a2
  go_wp2_with fail
  rw [← HVE.out.1, ← HVE.out.2]
  refine IMV.out.mono ?_
  rintro e w5 ⟨rfl, hb5⟩
  have hA5 := (hb5.block P (Array.getElem?_eq_some_iff.1 HV.out.1).1).trans HV.out.1
  have hX5 := (hb5.block X (Array.getElem?_eq_some_iff.1 HV.out.2.1).1).trans HV.out.2.1
  obtain ⟨⟨a1, a2⟩, _⟩ := boxTwo_cells hA5
  obtain ⟨⟨x1, x2⟩, _⟩ := boxTwo_cells hX5
  have HB5 := Lib.hid (Below.on HV.out.2.2 hb5)
  have HR5 := Lib.hid (And.intro (HRV.out.1.to hb5) (HRV.out.2.to hb5))
  have hbb : Below w5.heap.size w5 w5 := Below.refl _ _
  clear hb5 hA5 hX5 IM IMV SP
  go_wp2_with fail
  go_region_held3 (fun w' => Below w5.heap.size w5 w' ∧ w'.cell? ⟨P, 0, none⟩ = some (.slice A1 n1 c1) ∧ w'.cell? ⟨P, 1, none⟩ = some (.slice A2 n2 c2) ∧ w'.cell? ⟨X, 0, none⟩ = some (.slice B1 xs.length d1) ∧ w'.cell? ⟨X, 1, none⟩ = some (.slice B2 ys.length d2))
    (first | exact held4_drew ⟨by assumption, by assumption, by assumption, by assumption, by assumption⟩ | exact held4_drew (by assumption) | exact held4_call (by assumption) (by assumption) (Below.size (And.left (by assumption))))
    (first | (go_at_call 35; refine (TO.out _ (Below.on HB5.out (‹Below w5.heap.size w5 _ ∧ _›).1)).mono ?_; rintro e w8 ⟨v8, v9, rfl, ho8, ho9, _, hb8⟩; obtain ⟨E1, f1, rfl, hr8⟩ := ho8.form; obtain ⟨E2, f2, rfl, hr9⟩ := ho9.form) | (go_at_call 37; refine (EQ.out _ _ _ _ _ _ _ _ _ (HR5.out.1.to (‹Below w5.heap.size w5 _ ∧ _›).1) (HR5.out.2.to (‹Below w5.heap.size w5 _ ∧ _›).1) (by assumption) (by assumption)).mono ?_; rintro e w9 ⟨rfl, hb9⟩))
  have hbz := Below.on HB5.out (‹Below w5.heap.size w5 _ ∧ _›).1
  have HBZ := Lib.hid hbz
  clear hbz
  go_wp2_with fail
  go_ret
  exact ⟨rfl, HBZ.out⟩
end Go.Proofs.YtfmhdngblpmcfaaDoor
