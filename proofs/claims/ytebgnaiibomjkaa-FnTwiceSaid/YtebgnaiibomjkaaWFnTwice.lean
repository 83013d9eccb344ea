/- The walks of the laws on pairs joined again, and on pairs joined in two parts: for every row of bytes the laws return true and nothing that was there has turned. -/
import Derived.Test.YtebgnaiibomjkaaJoinAll
import Derived.Test.YtebgnaiibomjkaaSpecAll
import Derived.Test.YtebgnaiibomjkaaDraw11
import Derived.Test.YtebgnaiibomjkaaRdR
import Derived.Test.YtebgnaiibomjkaaLr
import Derived.Test.YtebgnaiibomjkaaRowsAll
namespace Go.Proofs.Ytebgnaiibomjkaa
open Go.RowKit

theorem ja_again {zs : List Int} {r : Int} {qs : List (Int × Int)} (h : jaB zs r qs = true) : jaB (allL zs r (natP qs)) r qs = true ∧ jaN (allL zs r (natP qs)) r qs = allL zs r (natP qs) := by
  obtain ⟨hv, hr, hk⟩ := jaB_parts h
  have hin := okQ_in hk
  have h1 : jaB (allL zs r (natP qs)) r qs = true := jaB_of (allL_fv hv r hin) hr (by rw [allL_len]; exact hk)
  exact ⟨h1, by rw [jaN_yes h1, all_twice hv r hin]⟩
set_option maxRecDepth 100000 in
set_option maxHeartbeats 8000000 in
theorem fnTwice (A0 : Option Addr) (n0 c0 : Nat) (z0 : List Int) (w : World) (h0 : Row .u8 w A0 n0 c0 z0) :
    Calls Try.prog 7 #[.slice A0 n0 c0] w fun e w' => e = .returned (.bool true) ∧ Below w.heap.size w w' := by
  by_cases hl0 : 1048576 < n0
  · clear h0
    go_enter Try.func7, Try.ntmps7
    go_wp2
    go_ret
    exact ⟨rfl, Below.refl _ _⟩
  obtain ⟨b0, hc0⟩ := h0.bt
  have D0 := Lib.hid (drawJoinAll_any A0 n0 c0 w.heap.size z0 w b0 (Nat.le_refl _) hc0)
  clear h0 b0 hc0
  go_enter Try.func7, Try.ntmps7
  go_wp2_with fail
  refine D0.out.mono ?_
  rintro e w1 ⟨v, zs, r, v2, qs, rfl, ho, hl, _, hq, hlq, hb1⟩
  obtain ⟨A, c, rfl, hr⟩ := ho.form
  obtain ⟨A', c', rfl, hrq⟩ := hq.form
  obtain ⟨n, hn⟩ : ∃ n, n = zs.length := ⟨_, rfl⟩
  obtain ⟨m, hm⟩ : ∃ m, m = qs.length := ⟨_, rfl⟩
  rw [← hn] at hr hl
  rw [← hm] at hrq hlq
  rw [← hn, ← hm]
  clear ho hq D0
  have RI := fun (w2 : World) (hb2 : Below w1.heap.size w1 w2) => rd2_of (implJoinAll_any A n c w1.heap.size zs r A' m c' w1.heap.size qs w2 (hr.below hb2 (Nat.le_refl _)) hb2.size (by omega) (hrq.below hb2 (Nat.le_refl _)) hb2.size (by omega))
  have RS := fun (w2 : World) (hb2 : Below w1.heap.size w1 w2) => rd2_of (specJoinAll_any A n c w1.heap.size zs r A' m c' w1.heap.size qs w2 (hr.below hb2 (Nat.le_refl _)) hb2.size (by omega) (hrq.below hb2 (Nat.le_refl _)) hb2.size (by omega))
  cases hv : jaB zs r qs with
  | false =>
    rw [hv] at RS RI
    have RI := Lib.hid RI
    have RS := Lib.hid RS
    clear hv hn hm hr hrq
    go_wp2_with fail
    refine (RI.out _ (by repeat (first | assumption | exact Below.refl _ _ | refine Below.on ?_ (by assumption)))).mono ?_
    rintro e w2 ⟨A2, c2, rfl, _, hb2⟩
    go_wp2_with fail
    refine (RS.out _ (by repeat (first | assumption | exact Below.refl _ _ | refine Below.on ?_ (by assumption)))).mono ?_
    rintro e w3 ⟨A3, c3, rfl, _, hb3⟩
    go_wp2_with fail
    go_ret
    exact ⟨rfl, (by repeat (first | assumption | exact Below.refl _ _ | refine Below.on ?_ (by assumption)))⟩
  | true =>
    obtain ⟨hfv, hrr, hk⟩ := jaB_parts hv
    have hin := okQ_in hk
    obtain ⟨g1, g2⟩ := ja_again hv
    have hxv := allL_fv hfv r hin
    have hxl := allL_len zs r (natP qs)
    have hrows := all_rows_end hfv r hin
    rw [hv, jaN_yes hv] at RI RS
    obtain ⟨x, hx⟩ : ∃ x, x = allL zs r (natP qs) := ⟨_, rfl⟩
    rw [← hx] at RI RS g1 g2 hxv hxl hrows
    rw [hxl, ← hn] at RI RS
    have CU := fun (w2 : World) (hb2 : Below w1.heap.size w1 w2) => rows2_at (n := rowsC zs) (rowsN_C hfv).symm (rowsN_big zs).2 (implClasses_any A n c w1.heap.size zs w2 (hr.below hb2 (Nat.le_refl _)) hb2.size (by omega))
    have J2 := fun (A3 : Option Addr) (c3 : Nat) (w2 : World) (h3 : Rd w2 w2.heap.size A3 n x) (hb2 : Below w1.heap.size w1 w2) => rd2_of (implJoinAll_any A3 n c3 w2.heap.size x r A' m c' w1.heap.size qs w2 h3 (Nat.le_refl _) (by omega) (hrq.below hb2 (Nat.le_refl _)) hb2.size (by omega))
    have CX := fun (A3 : Option Addr) (c3 : Nat) (w2 : World) (h3 : Rd w2 w2.heap.size A3 n x) => rows2_at (n := rowsC x) (rowsN_C hxv).symm (rowsN_big x).2 (implClasses_any A3 n c3 w2.heap.size x w2 h3 (Nat.le_refl _) (by omega))
    rw [g1, g2, hxl, ← hn] at J2
    have hle : (rowsC x : Int) ≤ (rowsC zs : Int) := by omega
    have RI := Lib.hid RI
    have RS := Lib.hid RS
    have CU := Lib.hid CU
    have J2 := Lib.hid J2
    have CX := Lib.hid CX
    obtain ⟨a, ha⟩ : ∃ a, a = rowsC x := ⟨_, rfl⟩
    obtain ⟨b, hb⟩ : ∃ b, b = rowsC zs := ⟨_, rfl⟩
    rw [← ha] at CX hle
    rw [← hb] at CU hle
    clear hv hfv hrr hk hin g1 g2 hxv hxl hrows hx hn hm hr hrq ha hb
    go_wp2_with fail
    refine (RI.out _ (by repeat (first | assumption | exact Below.refl _ _ | refine Below.on ?_ (by assumption)))).mono ?_
    rintro e w2 ⟨A2, c2, rfl, hr2, hb2⟩
    go_wp2_with fail
    refine (RS.out _ (by repeat (first | assumption | exact Below.refl _ _ | refine Below.on ?_ (by assumption)))).mono ?_
    rintro e w3 ⟨A3, c3, rfl, _, hb3⟩
    have hr2 := hr2.to hb3
    go_wp2_with fail
    refine (J2.out A2 c2 _ hr2 (by repeat (first | assumption | exact Below.refl _ _ | refine Below.on ?_ (by assumption)))).mono ?_
    rintro e w4 ⟨A4, c4, rfl, hr4, hb4⟩
    have hr2 := hr2.to hb4
    go_wp2_with fail
    refine (CX.out A2 c2 _ hr2).mono ?_
    rintro e w5 ⟨A5, c5, rfl, _, hb5⟩
    have hr2 := hr2.to hb5
    have hr4 := hr4.to hb5
    go_wp2_with fail
    refine (CU.out _ (by repeat (first | assumption | exact Below.refl _ _ | refine Below.on ?_ (by assumption)))).mono ?_
    rintro e w6 ⟨A6, c6, rfl, _, hb6⟩
    have hr2 := hr2.to hb6
    have hr4 := hr4.to hb6
    go_wp2_with fail
    refine (lrSame_any _ _ _ _ _ _ _ x _ hr2 hr4 (by omega)).mono ?_
    rintro e w7 ⟨rfl, k, rfl⟩
    go_wp2_with fail
    go_ret
    exact ⟨rfl, below_drewN (by repeat (first | assumption | exact Below.refl _ _ | refine Below.on ?_ (by assumption))) _⟩
end Go.Proofs.Ytebgnaiibomjkaa
