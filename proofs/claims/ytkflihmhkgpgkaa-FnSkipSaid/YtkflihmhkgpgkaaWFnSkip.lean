/- The walk of the law on links that skip: for every row of bytes the law returns true and nothing that was there has turned. -/
import Derived.Test.YtkflihmhkgpgkaaSkip
import Derived.Test.YtkflihmhkgpgkaaKit
import Derived.Test.YtkflihmhkgpgkaaDraw4
import Derived.Test.YtkflihmhkgpgkaaWith
import Derived.Test.YtkflihmhkgpgkaaImplWay
namespace Go.Proofs.Ytkflihmhkgpgkaa
open Go.RowKit

theorem ints_at (xs : List Nat) (k : Nat) : (ints xs)[k]?.getD 0 = ((xs[k]?.getD 0 : Nat) : Int) := by
  unfold ints
  rw [List.getElem?_map]
  cases xs[k]? <;> simp
theorem rd2_cap {P : Program} {f : FuncId} {args : Array Value} {w : World} {zs : List Int} {x : Value} (h : Calls P f args w fun e w' => ∃ v, e = .returned (.tuple #[v, x]) ∧ Own w' w.heap.size v zs ∧ Below w.heap.size w w') :
    Calls P f args w fun e w' => ∃ A c, e = .returned (.tuple #[.slice A zs.length c, x]) ∧ (Rd w' w'.heap.size A zs.length zs ∧ zs.length ≤ c) ∧ Below w.heap.size w w' :=
  h.mono fun _ _ ⟨v, a, o, b⟩ => by
    obtain ⟨A, c, rfl, r⟩ := o.form
    refine ⟨A, c, a, ⟨r, ?_⟩, b⟩
    rcases o.2 with ⟨hv, hx⟩ | ⟨g, cap, cur, hv, _, _, hnc, _⟩
    · omega
    · injection hv with _ _ hv
      omega
/-- What is said of one item farther up. -/
theorem skip_facts {up : List Int} {a t : Nat} (h : fvB up = true) (ha : a < up.length) (ht : t + 1 < (way up up.length a).length) : ∃ k : Nat, (way up up.length a)[t + 1]?.getD 0 = k ∧ k < up.length ∧ k ≠ a ∧ Up up a k := by
  have ht' : t + 1 < (way up up.length a).length := ht
  have hm := List.getElem_mem ht'
  have hP := fv_path h ha
  have h00 : (way up up.length a)[0]? = some a := by cases up.length <;> simp [way]
  have h0 : (way up up.length a)[0]'(by omega) = a := by
    rw [List.getElem?_eq_getElem (by omega)] at h00
    injection h00
  have hne : (way up up.length a)[t + 1] ≠ a := fun e => by
    have := path_new hP (j := 0) (k := t + 1) (by omega) ht'
    rw [h0, e] at this
    exact this rfl
  refine ⟨(way up up.length a)[t + 1], by rw [List.getElem?_eq_getElem ht']; rfl, way_lt h ha _ hm, hne, ⟨h, ha, hm, hne⟩⟩

set_option maxRecDepth 100000 in
set_option maxHeartbeats 4000000 in
theorem fnSkip (A0 : Option Addr) (n0 c0 : Nat) (z0 : List Int) (w : World) (h0 : Row .u8 w A0 n0 c0 z0) :
    Calls Try.prog 5 #[.slice A0 n0 c0] w fun e w' => e = .returned (.bool true) ∧ Below w.heap.size w w' := by
  by_cases hl0 : 1048576 < n0
  · clear h0
    go_enter Try.func5, Try.ntmps5
    go_wp2
    go_ret
    exact ⟨rfl, Below.refl _ _⟩
  obtain ⟨b0, hc0⟩ := h0.bt
  have D0 := Lib.hid (drawRoot_any A0 n0 c0 w.heap.size z0 w b0 (Nat.le_refl _) hc0)
  clear h0 b0 hc0
  go_enter Try.func5, Try.ntmps5
  go_wp2_with fail
  refine D0.out.mono ?_
  rintro e w1 ⟨v, zs, x, rfl, ho, hl, hx, hb1⟩
  obtain ⟨A, c, rfl, hr⟩ := ho.form
  obtain ⟨n, hn⟩ : ∃ n, n = zs.length := ⟨_, rfl⟩
  rw [← hn] at hr hl
  rw [← hn]
  clear ho D0
  have RI := fun (w2 : World) (hb2 : Below w1.heap.size w1 w2) => implRoot_any A n c w1.heap.size zs x w2 (hr.below hb2 (Nat.le_refl _)) hb2.size (by omega)
  have RS := fun (w2 : World) (hb2 : Below w1.heap.size w1 w2) => specRoot_any A n c w1.heap.size zs x w2 (hr.below hb2 (Nat.le_refl _)) hb2.size (by omega)
  have HN := Lib.hid hn
  have RD := Lib.hid hr
  cases hv : itemB zs x with
  | false =>
    rw [rootN_no hv] at RI RS
    have RI := Lib.hid RI
    have RS := Lib.hid RS
    clear hv hn hr
    go_wp2_with fail
    refine (RI.out _ (by repeat (first | assumption | exact Below.refl _ _ | refine Below.on ?_ (by assumption)))).mono ?_
    rintro e w2 ⟨rfl, hb2⟩
    go_wp2_with fail
    refine (RS.out _ (by repeat (first | assumption | exact Below.refl _ _ | refine Below.on ?_ (by assumption)))).mono ?_
    rintro e w3 ⟨rfl, hb3⟩
    go_wp2_with fail
    refine (RS.out _ (by repeat (first | assumption | exact Below.refl _ _ | refine Below.on ?_ (by assumption)))).mono ?_
    rintro e w4 ⟨rfl, hb4⟩
    go_wp2_with fail
    go_ret
    exact ⟨rfl, (by repeat (first | assumption | exact Below.refl _ _ | refine Below.on ?_ (by assumption)))⟩
  | true =>
    obtain ⟨r, hp, hrl, _⟩ := root_facts hv
    have hf := item_fv hv
    have lx := item_lt hv
    obtain ⟨a, rfl⟩ := Int.eq_ofNat_of_zero_le lx.1
    have ha : a < n := by omega
    have hn16 : n ≤ 16 := by have := (fv_parts hf).2.1; omega
    have hr16 : r ≤ 16 := by omega
    rw [hp] at RI RS
    have WI := fun (w2 : World) (hb2 : Below w1.heap.size w1 w2) => rd2_cap (implWay_any A n c w1.heap.size zs (a : Int) w2 (hr.below hb2 (Nat.le_refl _)) hb2.size (by omega))
    rw [hv, wayN_yes hv, ints_len] at WI
    have HSK := Lib.hid (fun (t : Nat) (ht : t + 1 < (way zs zs.length a).length) => skip_facts hf (by omega) ht)
    have hwl := way_len zs zs.length a
    have hwl2 := (fv_parts hf).2.2.2 a (by omega)
    have h00 : (way zs zs.length a)[0]?.getD 0 = a := by cases zs.length <;> simp [way]
    have LW := Lib.hid (fun (w2 : World) (hb2 : Below w1.heap.size w1 w2) (t : Int) => rd_of (lrWith_any A n c w1.heap.size a t zs w2 (hr.below hb2 (Nat.le_refl _)) hb2.size (by omega) ha))
    have DI := Lib.hid (fun (w2 : World) (hb2 : Below w1.heap.size w1 w2) => implDeep_any A n c w1.heap.size zs w2 (hr.below hb2 (Nat.le_refl _)) hb2.size (by omega))
    have SU := fun (w2 : World) (hb2 : Below w1.heap.size w1 w2) => implSame_any A n c w1.heap.size zs A n c w1.heap.size zs w2 (hr.below hb2 (Nat.le_refl _)) hb2.size (by omega) (hr.below hb2 (Nat.le_refl _)) hb2.size (by omega)
    rw [sameN_yes hf hf rfl (fun i k _ _ => like_iff.2 (by exact Iff.rfl))] at SU
    have RI := Lib.hid RI
    have RS := Lib.hid RS
    have SU := Lib.hid SU
    have HV := Lib.hid hf
    have HP := Lib.hid hp
    revert WI HSK hwl hwl2 h00
    generalize way zs zs.length a = W
    intro WI HSK hwl hwl2 h00
    obtain ⟨L, hL⟩ : ∃ L, L = W.length := ⟨_, rfl⟩
    rw [← hL] at WI hwl hwl2
    have HL := Lib.hid hL
    have H00 := Lib.hid h00
    have WI := Lib.hid WI
    have hL1 := hwl.1
    have hL17 : L ≤ 16 := by omega
    clear hv hn hr hf lx hL h00 hp hrl hwl hwl2
    go_wp2_with fail
    refine (RI.out _ (by repeat (first | assumption | exact Below.refl _ _ | refine Below.on ?_ (by assumption)))).mono ?_
    rintro e w2 ⟨rfl, hb2⟩
    go_wp2_with fail
    refine (RS.out _ (by repeat (first | assumption | exact Below.refl _ _ | refine Below.on ?_ (by assumption)))).mono ?_
    rintro e w3 ⟨rfl, hb3⟩
    go_wp2_with fail
    refine (WI.out _ (by repeat (first | assumption | exact Below.refl _ _ | refine Below.on ?_ (by assumption)))).mono ?_
    rintro e w4 ⟨A4, c4, rfl, ⟨hr4, hc4L⟩, hb4⟩
    have HB4 := Lib.hid (show Below w1.heap.size w1 w4 from (by repeat (first | assumption | exact Below.refl _ _ | refine Below.on ?_ (by assumption))))
    clear hb2 hb3 hb4 RI RS WI
    by_cases h1 : L = 1
    · subst h1
      obtain ⟨b4, off4, rfl, _, hc4⟩ := hr4.2 (by omega)
      have g4 := hc4 0 (by omega)
      have e4 : (ints W)[0]?.getD 0 = (a : Int) := by
        have := H00.out
        rw [ints_at, this]
      rw [e4] at g4
      have HR4 := Lib.hid (And.intro g4 hr4)
      have g5 := g4
      simp only [Nat.add_zero] at g5
      have hmin : min (1 : Int) 0 = 0 := by omega
      have hcn : ¬ c4 = 0 := by omega
      clear hc4 e4 hr4 g4
      go_wp2_with fail
      go_loopw [49] (fun i wr => ∃ t : Nat, t ≤ 1 ∧ i = .int .i64 t ∧ Below w4.heap.size w4 wr) (fun i _ => 1 - (intOf i).toNat)
      case atStart => exact ⟨0, by omega, rfl, Below.refl _ _⟩
      case round =>
        obtain ⟨t, ht, rfl, hbe⟩ := hrel
        by_cases hlt : t < 1
        · obtain rfl : t = 0 := by omega
          have g6 := (((HR4.out.2.below hbe (Nat.le_refl _)).2 (by omega)))
          obtain ⟨b5, off5, e5, _, hc5⟩ := g6
          have g7 := hc5 0 (by omega)
          rw [show (ints W)[0]?.getD 0 = (a : Int) by rw [ints_at, H00.out]] at g7
          injection e5 with e5
          injection e5 with e5 e6
          subst e5 e6
          simp only [Nat.add_zero] at g7
          have heq : ((a : Int) == (a : Int)) = true := by simp
          clear hc5 g5
          go_wp2_with fail
          refine (LW.out _ (Below.on HB4.out hbe) _).mono ?_
          rintro e w5 ⟨A5, c5, rfl, _, hb5⟩
          have hb6 := Below.on hbe hb5
          clear hb5
          go_wp2_with fail
          go_roundw
          case rel => exact ⟨1, by omega, by go_num, hb6⟩
          case measure => simp [intOf]
        · obtain rfl : t = 1 := by omega
          go_wp2_with fail
          refine (SU.out _ (Below.on HB4.out hbe)).mono ?_
          rintro e w5 ⟨rfl, hb5⟩
          have hB := Below.on hb1 (Below.on HB4.out (Below.on hbe hb5))
          clear hb5
          go_wp2_with fail
          go_ret
          exact ⟨rfl, hB⟩
    · have h2 : 2 ≤ L := by omega
      have hmin : min (1 : Int) ((L : Int) - 1) = 1 := by omega
      have hcn : ¬ c4 = 1 := by omega
      obtain ⟨b4, off4, rfl, _, _⟩ := hr4.2 (by omega)
      have hR4 := Lib.hid hr4
      obtain ⟨M, hM⟩ : ∃ M, L = M + 1 := ⟨L - 1, by omega⟩
      have HM := Lib.hid hM
      clear hr4 h1 hM
      go_wp2_with fail
      rw [show L - 1 = M by rw [HM.out]; rfl]
      go_loopw [49] (fun i wr => ∃ t : Nat, t ≤ M ∧ i = .int .i64 t ∧ Below w4.heap.size w4 wr) (fun i _ => M - (intOf i).toNat)
      case atStart => exact ⟨0, by omega, rfl, Below.refl _ _⟩
      case round =>
        obtain ⟨t, ht, rfl, hbe⟩ := hrel
        have hM17 : M ≤ 16 := by have := HM.out; omega
        by_cases hlt : t < M
        · obtain ⟨k, ek, hk, hka, S⟩ := HSK.out t (by have := HM.out; have := HL.out; omega)
          obtain ⟨b5, off5, e5, _, hc5⟩ := (hR4.out.below hbe (Nat.le_refl _)).2 (by omega)
          have g7 := hc5 (t + 1) (by have := HM.out; omega)
          rw [ints_at, ek] at g7
          injection e5 with e5
          injection e5 with e5 e6
          subst e5 e6
          rw [show off4 + (t + 1) = off4 + 1 + t by omega] at g7
          have hne : ((k : Int) == (a : Int)) = false := by simp; omega
          have hn2 : (hang zs a k).length = n := by rw [hang_len]; exact HN.out.symm
          have LWK := Lib.hid (fun (w2 : World) (hb2 : Below w1.heap.size w1 w2) => LW.out w2 hb2 (k : Int))
          have hd2 := sk_deep S
          have hrn := sk_rootN S S.hi
          rw [HP.out] at hrn
          have hsm := sk_same S
          have hsv := sk_fv S
          have HSV := Lib.hid (And.intro hsv (And.intro hsm hrn))
          obtain ⟨d1, hd1⟩ : ∃ d1, d1 = deepN (hang zs a k) := ⟨_, rfl⟩
          obtain ⟨d0, hd0⟩ : ∃ d0, d0 = deepN zs := ⟨_, rfl⟩
          rw [← hd1, ← hd0] at hd2
          have HD1 := Lib.hid hd1
          have HD0 := Lib.hid hd0
          have hng : ¬ d0 < d1 := by omega
          have hrr : ((r : Int) != (r : Int)) = false := by simp
          have HN2 := Lib.hid hn2
          clear hc5 ek hk hka S hrn hsm hsv hd1 hd0 hn2 hd2
          go_wp2_with fail
          refine (LWK.out _ (Below.on HB4.out hbe)).mono ?_
          rintro e w5 ⟨A5, c5, rfl, hr5, hb5⟩
          have hr5 : Rd w5 w5.heap.size A5 n (hang zs a k) := by have h := hr5; rw [show (zs.set a (k : Int)).length = n from HN2.out] at h; exact h
          rw [show (zs.set a (k : Int)).length = n from HN2.out]
          have hb15 := Below.on HB4.out (Below.on hbe hb5)
          have hru := RD.out.below hb15 (Nat.le_refl _)
          have V5 := fun (w2 : World) (hb2 : Below w5.heap.size w5 w2) => implValid_any A5 n c5 w5.heap.size (hang zs a k) w2 (hr5.below hb2 (Nat.le_refl _)) hb2.size (by omega)
          have S5 := fun (w2 : World) (hb2 : Below w5.heap.size w5 w2) => implSame_any A5 n c5 w5.heap.size (hang zs a k) A n c w1.heap.size zs w2 (hr5.below hb2 (Nat.le_refl _)) hb2.size (by omega) (hru.below hb2 hb15.size) (Nat.le_trans hb15.size hb2.size) (by omega)
          have R5 := fun (w2 : World) (hb2 : Below w5.heap.size w5 w2) => implRoot_any A5 n c5 w5.heap.size (hang zs a k) (a : Int) w2 (hr5.below hb2 (Nat.le_refl _)) hb2.size (by omega)
          have D5 := fun (w2 : World) (hb2 : Below w5.heap.size w5 w2) => implDeep_any A5 n c5 w5.heap.size (hang zs a k) w2 (hr5.below hb2 (Nat.le_refl _)) hb2.size (by omega)
          have DU := fun (w2 : World) (hb2 : Below w5.heap.size w5 w2) => DI.out w2 (Below.on hb15 hb2)
          rw [HSV.out.1] at V5
          rw [HSV.out.2.1] at S5
          rw [HSV.out.2.2] at R5
          rw [← HD1.out] at D5
          rw [← HD0.out] at DU
          have V5 := Lib.hid V5
          have S5 := Lib.hid S5
          have R5 := Lib.hid R5
          have D5 := Lib.hid D5
          have DU := Lib.hid DU
          clear hr5 hru
          go_wp2_with fail
          refine (V5.out _ (Below.refl _ _)).mono ?_
          rintro e w6 ⟨rfl, hb6⟩
          go_wp2_with fail
          refine (S5.out _ hb6).mono ?_
          rintro e w7 ⟨rfl, hb7⟩
          have hb7 := Below.on hb6 hb7
          go_wp2_with fail
          refine (R5.out _ hb7).mono ?_
          rintro e w8 ⟨rfl, hb8⟩
          have hb8 := Below.on hb7 hb8
          go_wp2_with fail
          refine (D5.out _ hb8).mono ?_
          rintro e w9 ⟨rfl, hb9⟩
          have hb9 := Below.on hb8 hb9
          go_wp2_with fail
          refine (DU.out _ hb9).mono ?_
          rintro e w10 ⟨rfl, hb10⟩
          have hb10 := Below.on hbe (Below.on hb5 (Below.on hb9 hb10))
          clear hb5 hb6 hb7 hb8 hb9
          go_wp2_with fail
          go_roundw
          case rel => exact ⟨t + 1, by omega, by go_num, hb10⟩
          case measure => simp [intOf]; omega
        · obtain rfl : t = M := by omega
          go_wp2_with fail
          refine (SU.out _ (Below.on HB4.out hbe)).mono ?_
          rintro e w5 ⟨rfl, hb5⟩
          have hB := Below.on hb1 (Below.on HB4.out (Below.on hbe hb5))
          clear hb5
          go_wp2_with fail
          go_ret
          exact ⟨rfl, hB⟩
end Go.Proofs.Ytkflihmhkgpgkaa
