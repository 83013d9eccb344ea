/- The walk of FnSince: for every drawn timed forest, two items, another one, and a time the law returns true. -/
import Derived.Test.YtfafgihfgdpclaaDrawTog
import Derived.Test.YtfafgihfgdpclaaSinceLaw
import Derived.Test.YtfafgihfgdpclaaWTimedValid
namespace Go.Proofs.Ytfafgihfgdpclaa
open Go.RowKit Go.Shelf

set_option maxRecDepth 100000 in
set_option maxHeartbeats 8000000 in
theorem fnSince (A0 : Option Addr) (n0 c0 : Nat) (z0 : List Int) (A1 : Option Addr) (n1 c1 : Nat) (z1 : List Int) (w : World) (h0 : Row .u8 w A0 n0 c0 z0) (h1 : Row .u8 w A1 n1 c1 z1) :
    Calls Try.prog 8 #[.slice A0 n0 c0, .slice A1 n1 c1] w fun e w' => e = .returned (.bool true) ∧ Below w.heap.size w w' := by
  by_cases hl0 : 1048576 < n0
  · clear h0 h1
    go_enter Try.func8, Try.ntmps8
    go_wp2
    go_ret
    exact ⟨rfl, Below.refl _ _⟩
  by_cases hl1 : 1048576 < n1
  · clear h0 h1
    go_enter Try.func8, Try.ntmps8
    go_wp2
    go_ret
    exact ⟨rfl, Below.refl _ _⟩
  obtain ⟨b0, hc0⟩ := h0.bt
  obtain ⟨b1, hc1⟩ := h1.bt
  have D0 := Lib.hid (drawSince7_any A0 n0 c0 w.heap.size z0 w b0 (Nat.le_refl _) hc0)
  have D1 := Lib.hid (fun (w1 : World) (hb : Below w.heap.size w w1) => drawTog7_any A1 n1 c1 w.heap.size z1 w1 (b1.below hb (Nat.le_refl _)) hb.size hc1)
  clear h0 h1 b0 b1 hc0 hc1
  go_enter Try.func8, Try.ntmps8
  go_wp2_with fail
  refine D0.out.mono ?_
  rintro e w1 ⟨v, v2, a, b, xs, ss, rfl, ho, hx16, hq, hs17, hb1⟩
  obtain ⟨A, c, e1, hr⟩ := ho.form
  obtain ⟨A', c', e2, hrq⟩ := hq.form
  obtain ⟨n, hn⟩ : ∃ n, n = xs.length := ⟨_, rfl⟩
  obtain ⟨m, hm⟩ : ∃ m, m = ss.length := ⟨_, rfl⟩
  rw [← hn] at e1 hr hx16
  rw [← hm] at e2 hrq hs17
  subst e1 e2
  obtain ⟨V1, hV1⟩ : ∃ V1, V1 = w1.alloc (.cells #[.slice A n c, .slice A' m c'] 64) := ⟨_, rfl⟩
  obtain ⟨X, hX⟩ : ∃ X, X = w1.heap.size := ⟨_, rfl⟩
  have hbV1 : Below w1.heap.size w1 V1 := by rw [hV1]; exact timedBox w1 _ _
  have hXV : V1.heap[X]? = some (.cells #[.slice A n c, .slice A' m c'] 64 (0, 0)) := by rw [hV1, hX]; exact World.alloc_heap_new w1 _
  have hrV := hr.to hbV1
  have hqV := hrq.to hbV1
  have IJ := Lib.hid (fun (W' : World) (h8 : Below V1.heap.size V1 W') (a b : Int) => implSince_any A A' n c m c' V1.heap.size a b xs ss W' (hrV.below h8 (Nat.le_refl _)) (hqV.below h8 (Nat.le_refl _)) h8.size (by omega) (by omega))
  have SJ := Lib.hid (fun (W' : World) (h8 : Below V1.heap.size V1 W') => specSince_any A A' n c m c' V1.heap.size a b xs ss W' (hrV.below h8 (Nat.le_refl _)) (hqV.below h8 (Nat.le_refl _)) h8.size (by omega) (by omega))
  have TJ := Lib.hid (fun (W' : World) (h8 : Below V1.heap.size V1 W') (k : Int) => implTogAt_any A A' n c m c' V1.heap.size a b k xs ss W' (hrV.below h8 (Nat.le_refl _)) (hqV.below h8 (Nat.le_refl _)) h8.size (by omega) (by omega))
  have VJ := Lib.hid (fun (W' : World) (h8 : Below V1.heap.size V1 W') => implTimed_any A A' n c m c' V1.heap.size xs ss W' (hrV.below h8 (Nat.le_refl _)) (hqV.below h8 (Nat.le_refl _)) h8.size (by omega) (by omega))
  have H1 := Lib.hid (And.intro (Below.on hb1 hbV1) hXV)
  have HE1 := Lib.hid (And.intro hV1 hX)
  obtain ⟨⟨a1, a2⟩, _⟩ := boxTwo_cells hXV
  rw [hV1, hX] at a1 a2
  clear hbV1 hrV hqV hr hrq ho hq hb1 D0 hn hm hx16 hs17 hXV hV1 hX
  go_wp2_with fail
  rw [← HE1.out.1, ← HE1.out.2]
  refine (IJ.out V1 (Below.refl _ _) a b).mono ?_
  rintro e w2 ⟨rfl, hb2⟩
  have HB2 := Lib.hid hb2
  obtain ⟨t, ht⟩ : ∃ t, t = sinceN xs ss a b := ⟨_, rfl⟩
  rw [← ht] at SJ ⊢
  have HT := Lib.hid ht
  have D1 := Lib.hid (D1.out w2 (Below.on H1.out.1 hb2))
  clear hb2 ht a1 a2
  go_wp2_with fail
  refine D1.out.mono ?_
  rintro e w3 ⟨v3, v4, p, q, tm, ys, us, rfl, ho, hx16, hq, hs17, hb3⟩
  obtain ⟨A3, c3, e1, hr⟩ := ho.form
  obtain ⟨A4, c4, e2, hrq⟩ := hq.form
  obtain ⟨n3, hn⟩ : ∃ n3, n3 = ys.length := ⟨_, rfl⟩
  obtain ⟨n4, hm⟩ : ∃ n4, n4 = us.length := ⟨_, rfl⟩
  rw [← hn] at e1 hr hx16
  rw [← hm] at e2 hrq hs17
  subst e1 e2
  obtain ⟨V, hV⟩ : ∃ V, V = w3.alloc (.cells #[.slice A3 n3 c3, .slice A4 n4 c4] 64) := ⟨_, rfl⟩
  obtain ⟨Y, hY⟩ : ∃ Y, Y = w3.heap.size := ⟨_, rfl⟩
  have hbV : Below w3.heap.size w3 V := by rw [hV]; exact timedBox w3 _ _
  have hYV : V.heap[Y]? = some (.cells #[.slice A3 n3 c3, .slice A4 n4 c4] 64 (0, 0)) := by rw [hV, hY]; exact World.alloc_heap_new w3 _
  have hb1V : Below V1.heap.size V1 V := Below.on HB2.out (Below.on hb3 hbV)
  have hXV := (hb1V.block X (Array.getElem?_eq_some_iff.1 H1.out.2).1).trans H1.out.2
  have hrV := hr.to hbV
  have hqV := hrq.to hbV
  have IT := Lib.hid (fun (W' : World) (h8 : Below V.heap.size V W') => implTogAt_any A3 A4 n3 c3 n4 c4 V.heap.size p q tm ys us W' (hrV.below h8 (Nat.le_refl _)) (hqV.below h8 (Nat.le_refl _)) h8.size (by omega) (by omega))
  have ST := Lib.hid (fun (W' : World) (h8 : Below V.heap.size V W') => specTogAt_any A3 A4 n3 c3 n4 c4 V.heap.size p q tm ys us W' (hrV.below h8 (Nat.le_refl _)) (hqV.below h8 (Nat.le_refl _)) h8.size (by omega) (by omega))
  have SK := Lib.hid (fun (W' : World) (h8 : Below V.heap.size V W') => SJ.out W' (Below.on hb1V h8))
  revert IT ST
  generalize togB (faL ys us tm) p q = gg
  intro IT ST
  have H2 := Lib.hid (And.intro hb1V (And.intro hXV hYV))
  have HE2 := Lib.hid (And.intro hV hY)
  have t1 : (t != t) = false := by simp
  have t2 : (gg != gg) = false := by simp
  have hbb : Below V.heap.size V V := Below.refl _ _
  obtain ⟨⟨a1, a2⟩, _⟩ := boxTwo_cells hXV
  obtain ⟨⟨a3, a4⟩, _⟩ := boxTwo_cells hYV
  clear hbV hrV hqV hr hrq ho hq hb3 D1 hn hm hx16 hs17 hXV hYV hV hY hb1V SJ
  go_wp2_with fail
  rw [← HE2.out.1, ← HE2.out.2]
  go_region_held3 (fun w' => Below V.heap.size V w' ∧ w'.cell? ⟨X, 0, none⟩ = some (.slice A n c) ∧ w'.cell? ⟨X, 1, none⟩ = some (.slice A' m c') ∧ w'.cell? ⟨Y, 0, none⟩ = some (.slice A3 n3 c3) ∧ w'.cell? ⟨Y, 1, none⟩ = some (.slice A4 n4 c4))
    (first | exact held4_drew ⟨by assumption, by assumption, by assumption, by assumption, by assumption⟩ | exact held4_drew (by assumption) | exact held4_call (by assumption) (by assumption) (Below.size (And.left (by assumption))))
    (first | (go_at_call 56; refine (SK.out _ (‹Below V.heap.size V _ ∧ _›).1).mono ?_; rintro e w8 ⟨rfl, hb8⟩) | (go_at_call 57; refine (IT.out _ (‹Below V.heap.size V _ ∧ _›).1).mono ?_; rintro e w9 ⟨rfl, hb9⟩) | (go_at_call 58; refine (ST.out _ (‹Below V.heap.size V _ ∧ _›).1).mono ?_; rintro e w9 ⟨rfl, hb9⟩))
  have hV9 := (‹Below V.heap.size V w9 ∧ _›).1
  have HV9 := Lib.hid (Below.on H2.out.1 hV9)
  have hXb : Hid (∀ W', Below V1.heap.size V1 W' → W'.cell? ⟨X, 0, none⟩ = some (.slice A n c) ∧ W'.cell? ⟨X, 1, none⟩ = some (.slice A' m c')) := fun W' hb => (boxTwo_cells ((hb.block X (Array.getElem?_eq_some_iff.1 H1.out.2).1).trans H1.out.2)).1
  clear hV9 a1 a2 a3 a4 hbb t2 IT ST SK D1 H2 HE2
  obtain ⟨a1, a2⟩ := hXb.out _ HV9.out
  go_wp2_with fail
  refine (VJ.out w9 HV9.out).mono ?_
  rintro e w10 ⟨rfl, hb10⟩
  have HB10 := Lib.hid (Below.on HV9.out hb10)
  clear hb10 HV9
  cases hv : tmB xs ss with
  | false =>
    obtain rfl : t = -1 := HT.out.trans (since_no hv)
    clear hv
    go_wp2_with fail
    go_ret
    exact ⟨rfl, Below.on H1.out.1 HB10.out⟩
  | true =>
    have HVT : Hid (tmB xs ss = true) := hv
    clear hv a1 a2
    go_wp2_with fail
    go_loopw [63] (fun i wr => ∃ r : Nat, r ≤ 25 ∧ i = .int .i64 r ∧ Hid (Below V1.heap.size V1 wr)) (fun i _ => 25 - (intOf i).toNat)
    case atStart => exact ⟨0, by omega, rfl, HB10⟩
    case round =>
      obtain ⟨r, hr, rfl, HBR⟩ := hrel
      obtain ⟨a1, a2⟩ := hXb.out _ HBR.out
      by_cases hlt : r < 25
      · have hrn : (r : Int) < 25 := by omega
        have TK0 := TJ.out wr HBR.out (r : Int)
        rw [tog_at HVT.out (by omega)] at TK0
        obtain ⟨e1, fn⟩ | ⟨x, hx, e1, tx, fx⟩ := since_cases HVT.out a b
        · obtain rfl : t = -1 := HT.out.trans e1
          rw [fn r (by omega)] at TK0
          have TK := Lib.hid TK0
          clear TK0 fn e1
          go_wp2_with fail
          refine TK.out.mono ?_
          rintro e w11 ⟨rfl, hb11⟩
          have HBN := Lib.hid (Below.on HBR.out hb11)
          clear hb11 TK
          go_wp2_with fail
          go_roundw
          case rel => exact ⟨r + 1, by omega, by go_num, HBN⟩
          case measure => simp [intOf]; omega
        · obtain rfl : t = (x : Int) := HT.out.trans e1
          have n3 : (0 : Int) ≤ (x : Int) := by omega
          have n4 : ¬ (x : Int) < 0 := by omega
          by_cases hxr : x ≤ r
          · rw [tgAt_on (tmB_parts HVT.out).1 hxr tx] at TK0
            have TK := Lib.hid TK0
            have n5 : (x : Int) ≤ (r : Int) := by omega
            have n6 : ¬ (r : Int) < (x : Int) := by omega
            clear TK0 fx tx e1 hx hxr
            go_wp2_with fail
            refine TK.out.mono ?_
            rintro e w11 ⟨rfl, hb11⟩
            have HBN := Lib.hid (Below.on HBR.out hb11)
            clear hb11 TK
            go_wp2_with fail
            go_roundw
            case rel => exact ⟨r + 1, by omega, by go_num, HBN⟩
            case measure => simp [intOf]; omega
          · rw [fx r (by omega)] at TK0
            have TK := Lib.hid TK0
            have n5 : ¬ (x : Int) ≤ (r : Int) := by omega
            have n6 : (r : Int) < (x : Int) := by omega
            clear TK0 fx tx e1 hx hxr
            go_wp2_with fail
            refine TK.out.mono ?_
            rintro e w11 ⟨rfl, hb11⟩
            have HBN := Lib.hid (Below.on HBR.out hb11)
            clear hb11 TK
            go_wp2_with fail
            go_roundw
            case rel => exact ⟨r + 1, by omega, by go_num, HBN⟩
            case measure => simp [intOf]; omega
      · obtain rfl : r = 25 := by omega
        have IK0 := IJ.out wr HBR.out b a
        rw [since_swap HVT.out, ← HT.out] at IK0
        have IK := Lib.hid IK0
        have t3 : (t == t) = true := by simp
        clear IK0
        go_wp2_with fail
        refine IK.out.mono ?_
        rintro e w11 ⟨rfl, hb11⟩
        have HBN := Lib.hid (Below.on H1.out.1 (Below.on HBR.out hb11))
        clear hb11 IK
        go_wp2_with fail
        go_ret
        exact ⟨rfl, HBN.out⟩
end Go.Proofs.Ytfafgihfgdpclaa
