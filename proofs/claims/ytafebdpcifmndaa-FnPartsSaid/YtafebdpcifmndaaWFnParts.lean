/- The walk of the law on pairs joined in two parts: for all rows of bytes the law returns true and nothing that was there has turned. -/
import Derived.Test.YtafebdpcifmndaaJoinAll
import Derived.Test.YtafebdpcifmndaaSpecAll
import Derived.Test.YtafebdpcifmndaaDraw11
import Derived.Test.YtafebdpcifmndaaRdR
import Derived.Test.YtafebdpcifmndaaLr
import Derived.Test.YtafebdpcifmndaaCon
namespace Go.Proofs.Ytafebdpcifmndaa
open Go.RowKit

theorem okQ_take {n : Int} {qs : List (Int × Int)} (h : okQ n qs = true) (k : Nat) : okQ n (qs.take k) = true := by
  obtain ⟨h1, h2⟩ := okQ_parts h
  exact okQ_of (by rw [List.length_take]; omega) fun p hp => h2 p (List.mem_of_mem_take hp)
theorem okQ_drop {n : Int} {qs : List (Int × Int)} (h : okQ n qs = true) (k : Nat) : okQ n (qs.drop k) = true := by
  obtain ⟨h1, h2⟩ := okQ_parts h
  exact okQ_of (by rw [List.length_drop]; omega) fun p hp => h2 p (List.mem_of_mem_drop hp)
theorem ja_take {zs : List Int} {r : Int} {qs : List (Int × Int)} (h : jaB zs r qs = true) (k : Nat) : jaB zs r (qs.take k) = true ∧ jaN zs r (qs.take k) = allL zs r ((natP qs).take k) := by
  obtain ⟨hv, hr, hk⟩ := jaB_parts h
  have h1 : jaB zs r (qs.take k) = true := jaB_of hv hr (okQ_take hk k)
  exact ⟨h1, by rw [jaN_yes h1, natP_take]⟩
theorem ja_drop {zs : List Int} {r : Int} {qs : List (Int × Int)} (h : jaB zs r qs = true) (k : Nat) : jaB (allL zs r ((natP qs).take k)) r (qs.drop k) = true ∧ jaN (allL zs r ((natP qs).take k)) r (qs.drop k) = allL zs r (natP qs) := by
  obtain ⟨hv, hr, hk⟩ := jaB_parts h
  have hin := okQ_in hk
  have h1 : jaB (allL zs r ((natP qs).take k)) r (qs.drop k) = true := jaB_of (allL_fv hv r hin.take) hr (by rw [allL_len]; exact okQ_drop hk k)
  exact ⟨h1, by rw [jaN_yes h1, natP_drop, all_parts]⟩
set_option maxRecDepth 100000 in
set_option maxHeartbeats 8000000 in
theorem fnParts (A0 : Option Addr) (n0 c0 : Nat) (z0 : List Int) (A1 : Option Addr) (n1 c1 : Nat) (z1 : List Int) (w : World) (h0 : Row .u8 w A0 n0 c0 z0) (_h1 : Row .u8 w A1 n1 c1 z1) :
    Calls Try.prog 7 #[.slice A0 n0 c0, .slice A1 n1 c1] w fun e w' => e = .returned (.bool true) ∧ Below w.heap.size w w' := by
  by_cases hl0 : 1048576 < n0
  · clear h0
    go_enter Try.func7, Try.ntmps7
    go_wp2
    go_ret
    exact ⟨rfl, Below.refl _ _⟩
  by_cases hl1 : 1048576 < n1
  · clear h0
    go_enter Try.func7, Try.ntmps7
    go_wp2
    go_ret
    exact ⟨rfl, Below.refl _ _⟩
  obtain ⟨b0, hc0⟩ := h0.bt
  have D0 := Lib.hid (drawJoinAll_any A0 n0 c0 w.heap.size z0 w b0 (Nat.le_refl _) hc0)
  clear h0 b0 hc0
  go_enter Try.func7, Try.ntmps7
  go_wp2_with fail
  refine D0.out.mono ?_
  rintro e w1 ⟨v, zs, r, v2, qs, rfl, ho, hl, _, hq, hlq, hb1⟩
  obtain ⟨A, c, rfl, hr⟩ := ho.form
  obtain ⟨A', c', rfl, hrq⟩ := hq.form
  have hqc := hq.cases
  obtain ⟨n, hn⟩ : ∃ n, n = zs.length := ⟨_, rfl⟩
  obtain ⟨m, hm⟩ : ∃ m, m = qs.length := ⟨_, rfl⟩
  rw [← hn] at hr hl
  rw [← hm] at hrq hlq hqc
  rw [← hn, ← hm]
  clear ho hq D0
  have RI := fun (w2 : World) (hb2 : Below w1.heap.size w1 w2) => rd2_of (implJoinAll_any A n c w1.heap.size zs r A' m c' w1.heap.size qs w2 (hr.below hb2 (Nat.le_refl _)) hb2.size (by omega) (hrq.below hb2 (Nat.le_refl _)) hb2.size (by omega))
  have RS := fun (w2 : World) (hb2 : Below w1.heap.size w1 w2) => rd2_of (specJoinAll_any A n c w1.heap.size zs r A' m c' w1.heap.size qs w2 (hr.below hb2 (Nat.le_refl _)) hb2.size (by omega) (hrq.below hb2 (Nat.le_refl _)) hb2.size (by omega))
  cases hv : jaB zs r qs with
  | false =>
    rw [hv] at RS RI
    have RI := Lib.hid RI
    have RS := Lib.hid RS
    clear hv hn hm hr hrq hqc
    go_wp2_with fail
    refine (RI.out _ (by repeat (first | assumption | exact Below.refl _ _ | refine Below.on ?_ (by assumption)))).mono ?_
    rintro e w2 ⟨A2, c2, rfl, _, hb2⟩
    go_wp2_with fail
    refine (RS.out _ (by repeat (first | assumption | exact Below.refl _ _ | refine Below.on ?_ (by assumption)))).mono ?_
    rintro e w3 ⟨A3, c3, rfl, _, hb3⟩
    go_wp2_with fail
    go_ret
    exact ⟨rfl, (by repeat (first | assumption | exact Below.refl _ _ | refine Below.on ?_ (by assumption)))⟩
  | true =>
    obtain ⟨hfv, hrr, hk⟩ := jaB_parts hv
    obtain ⟨K, hK⟩ : ∃ K, K = n1 % (m + 1) := ⟨_, rfl⟩
    have hKm : K ≤ m := by have := Nat.mod_lt n1 (show 0 < m + 1 by omega); omega
    obtain ⟨t1, t2⟩ := ja_take hv K
    obtain ⟨g1, g2⟩ := ja_drop hv K
    have hyl := allL_len zs r ((natP qs).take K)
    have hxl := allL_len zs r (natP qs)
    rw [hv, jaN_yes hv] at RI RS
    obtain ⟨x, hx⟩ : ∃ x, x = allL zs r (natP qs) := ⟨_, rfl⟩
    obtain ⟨y, hy⟩ : ∃ y, y = allL zs r ((natP qs).take K) := ⟨_, rfl⟩
    rw [← hx] at RI RS g2 hxl
    rw [← hy] at t2 g1 g2 hyl
    rw [hxl, ← hn] at RI RS
    have HKI : (n1 : Int) % ((m : Int) + 1) = (K : Int) := by rw [hK]; simp
    have HKT : (n1 : Int).tmod ((m : Int) + 1) = (K : Int) := by rw [← HKI]; exact Int.tmod_eq_emod_of_nonneg (by omega)
    have J2 := fun (A3 : Option Addr) (c3 : Nat) (w2 : World) (h3 : Rd w2 w2.heap.size A3 n y) (A5 : Option Addr) (c5 : Nat) (h5 : Hid (RdQ w1 w1.heap.size A5 (m - K) (qs.drop K))) (hb2 : Below w1.heap.size w1 w2) => rd2_of (implJoinAll_any A3 n c3 w2.heap.size y r A5 (m - K) c5 w1.heap.size (qs.drop K) w2 h3 (Nat.le_refl _) (by omega) (h5.out.below hb2 (Nat.le_refl _)) hb2.size (by omega))
    rw [g1, g2, hxl, ← hn] at J2
    have HM := Lib.hid hm
    have J2 := Lib.hid J2
    have RI := Lib.hid RI
    have RS := Lib.hid RS
    have J1 := fun (w2 : World) (hb2 : Below w1.heap.size w1 w2) => rd2_of (implJoinAll_any A n c w1.heap.size zs r A' K c' w1.heap.size (qs.take K) w2 (hr.below hb2 (Nat.le_refl _)) hb2.size (by omega) ((hrq.take hKm).below hb2 (Nat.le_refl _)) hb2.size (by omega))
    rw [t1, t2, hyl, ← hn] at J1
    have J1 := Lib.hid J1
    rcases hqc with ⟨rfl, hm0, rfl⟩ | ⟨g, rfl, hmc, hcm⟩
    · obtain rfl : m = 0 := hm0
      obtain rfl : K = 0 := by omega
      clear hv hfv hrr hk t1 t2 g1 g2 hyl hxl hx hy hn hm hr hrq hK hKm
      go_wp2_with fail
      refine (RI.out _ (by repeat (first | assumption | exact Below.refl _ _ | refine Below.on ?_ (by assumption)))).mono ?_
      rintro e w2 ⟨A2, c2, rfl, hr2, hb2⟩
      go_wp2_with fail
      refine (RS.out _ (by repeat (first | assumption | exact Below.refl _ _ | refine Below.on ?_ (by assumption)))).mono ?_
      rintro e w3 ⟨A3, c3, rfl, _, hb3⟩
      have hr2 := hr2.to hb3
      go_wp2_with fail
      refine (J1.out _ (by repeat (first | assumption | exact Below.refl _ _ | refine Below.on ?_ (by assumption)))).mono ?_
      rintro e w4 ⟨A4, c4, rfl, hr4, hb4⟩
      have hr2 := hr2.to hb4
      go_wp2_with fail
      refine (J2.out _ _ _ hr4 _ _ ⟨by rw [List.length_drop]; have := HM.out; omega, fun h => absurd h (by omega)⟩ (by repeat (first | assumption | exact Below.refl _ _ | refine Below.on ?_ (by assumption)))).mono ?_
      rintro e w5 ⟨A5, c5, rfl, hr5, hb5⟩
      have hr2 := hr2.to hb5
      go_wp2_with fail
      refine (lrSame_any _ _ _ _ _ _ _ x _ hr2 hr5 (by omega)).mono ?_
      rintro e w7 ⟨rfl, k, rfl⟩
      go_wp2_with fail
      go_ret
      exact ⟨rfl, below_drewN (by repeat (first | assumption | exact Below.refl _ _ | refine Below.on ?_ (by assumption))) _⟩
    · unfold maxLen at hcm
      have hKc : (K : Int) ≤ (c' : Int) := by omega
      have HD := Lib.hid (hrq.drop hKm)
      rw [Nat.zero_add] at HD
      clear hv hfv hrr hk t1 t2 g1 g2 hyl hxl hx hy hn hm hr hrq hK
      go_wp2_with fail
      refine (RI.out _ (by repeat (first | assumption | exact Below.refl _ _ | refine Below.on ?_ (by assumption)))).mono ?_
      rintro e w2 ⟨A2, c2, rfl, hr2, hb2⟩
      go_wp2_with fail
      refine (RS.out _ (by repeat (first | assumption | exact Below.refl _ _ | refine Below.on ?_ (by assumption)))).mono ?_
      rintro e w3 ⟨A3, c3, rfl, _, hb3⟩
      have hr2 := hr2.to hb3
      go_wp2_with fail
      refine (J1.out _ (by repeat (first | assumption | exact Below.refl _ _ | refine Below.on ?_ (by assumption)))).mono ?_
      rintro e w4 ⟨A4, c4, rfl, hr4, hb4⟩
      have hr2 := hr2.to hb4
      go_wp2_with fail
      all_goals
        refine (J2.out _ _ _ hr4 _ _ (by first | exact HD | exact ⟨by rw [List.length_drop]; have := HM.out; omega, fun h => absurd h (by omega)⟩) (by repeat (first | assumption | exact Below.refl _ _ | refine Below.on ?_ (by assumption)))).mono ?_
        rintro e w5 ⟨A5, c5, rfl, hr5, hb5⟩
        have hr2 := hr2.to hb5
        go_wp2_with fail
        refine (lrSame_any _ _ _ _ _ _ _ x _ hr2 hr5 (by omega)).mono ?_
        rintro e w7 ⟨rfl, k, rfl⟩
        go_wp2_with fail
        go_ret
        exact ⟨rfl, below_drewN (by repeat (first | assumption | exact Below.refl _ _ | refine Below.on ?_ (by assumption))) _⟩
end Go.Proofs.Ytafebdpcifmndaa
