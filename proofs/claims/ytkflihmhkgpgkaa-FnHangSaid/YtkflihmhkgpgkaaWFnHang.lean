/- The walk of the law on a root that gets a link to another root: for every row of bytes the law returns true and nothing that was there has turned. -/
import Derived.Test.YtkflihmhkgpgkaaCount
import Derived.Test.YtkflihmhkgpgkaaKit
import Derived.Test.YtkflihmhkgpgkaaDraw4
import Derived.Test.YtkflihmhkgpgkaaWith
namespace Go.Proofs.Ytkflihmhkgpgkaa
open Go.RowKit

/-- What is said of two items of a valid forest that have different roots. -/
theorem hang_facts {up : List Int} {x y : Int} (hx : itemB up x = true) (hy : itemB up y = true) (hne : rootN up x ≠ rootN up y) : ∃ p q : Nat, rootN up x = (p : Int) ∧ rootN up y = (q : Int) ∧ p ≤ 16 ∧ q ≤ 16 ∧ p < up.length ∧ Two up p q ∧
    (∀ i : Nat, i < up.length → ∃ r : Nat, rootN up (i : Int) = (r : Int) ∧ rootN (up.set p (q : Int)) (i : Int) = if r = p then (q : Int) else (r : Int)) ∧ togB (up.set p (q : Int)) x y = true := by
  have hf := item_fv hx
  have h16 := (fv_parts hf).2.1
  have lx := item_lt hx
  have ly := item_lt hy
  obtain ⟨a, rfl⟩ := Int.eq_ofNat_of_zero_le lx.1
  obtain ⟨b, rfl⟩ := Int.eq_ofNat_of_zero_le ly.1
  have ha : a < up.length := by omega
  have hb : b < up.length := by omega
  rw [rootN_yes hx, rootN_yes hy] at hne
  have ra := root_is hf ha
  have rb := root_is hf hb
  have T : Two up (rootI up a) (rootI up b) := ⟨hf, ra.1, rb.1, ra.2, rb.2, by omega⟩
  refine ⟨rootI up a, rootI up b, rootN_yes hx, rootN_yes hy, by have := ra.1; omega, by have := rb.1; omega, ra.1, T, fun i hi => ⟨rootI up i, rootN_yes (item_of hf (by omega) (by omega)), ?_⟩, ?_⟩
  · show rootN (hang up _ _) _ = _
    rw [rootN_yes (hang_item T hi), hang_root T hi]
    split <;> rfl
  · show togB (hang up _ _) _ _ = true
    have e1 : rootI (hang up (rootI up a) (rootI up b)) a = rootI up b := by rw [hang_root T ha, if_pos rfl]
    have e2 : rootI (hang up (rootI up a) (rootI up b)) b = rootI up b := by rw [hang_root T hb]; split <;> rfl
    rw [togB_both (hang_item T ha) (hang_item T hb), rootN_yes (hang_item T ha), rootN_yes (hang_item T hb), e1, e2]
    simp

set_option maxRecDepth 100000 in
set_option maxHeartbeats 4000000 in
theorem fnHang (A0 : Option Addr) (n0 c0 : Nat) (z0 : List Int) (w : World) (h0 : Row .u8 w A0 n0 c0 z0) :
    Calls Try.prog 7 #[.slice A0 n0 c0] w fun e w' => e = .returned (.bool true) ∧ Below w.heap.size w w' := by
  by_cases hl0 : 1048576 < n0
  · clear h0
    go_enter Try.func7, Try.ntmps7
    go_wp2
    go_ret
    exact ⟨rfl, Below.refl _ _⟩
  obtain ⟨b0, hc0⟩ := h0.bt
  have D0 := Lib.hid (drawTog_any A0 n0 c0 w.heap.size z0 w b0 (Nat.le_refl _) hc0)
  clear h0 b0 hc0
  go_enter Try.func7, Try.ntmps7
  go_wp2_with fail
  refine D0.out.mono ?_
  rintro e w1 ⟨v, zs, x, y, rfl, ho, hl, hx, hy, hb1⟩
  obtain ⟨A, c, rfl, hr⟩ := ho.form
  obtain ⟨n, hn⟩ : ∃ n, n = zs.length := ⟨_, rfl⟩
  rw [← hn] at hr hl
  rw [← hn]
  clear ho D0
  have RI := Lib.hid (fun (w2 : World) (hb2 : Below w1.heap.size w1 w2) (i : Int) => implRoot_any A n c w1.heap.size zs i w2 (hr.below hb2 (Nat.le_refl _)) hb2.size (by omega))
  have RS := Lib.hid (fun (w2 : World) (hb2 : Below w1.heap.size w1 w2) (i : Int) => specRoot_any A n c w1.heap.size zs i w2 (hr.below hb2 (Nat.le_refl _)) hb2.size (by omega))
  have RD := Lib.hid hr
  have HN := Lib.hid hn
  by_cases hgood : itemB zs x = true ∧ itemB zs y = true ∧ rootN zs x ≠ rootN zs y
  · obtain ⟨p, q, ep, eq, p16, q16, hp, T, hroots, htog⟩ := hang_facts hgood.1 hgood.2.1 hgood.2.2
    have hpn : p < n := by omega
    have hn16 : n ≤ 16 := by have := (fv_parts T.fv).2.1; omega
    have hne : p ≠ q := T.ne
    have RX := Lib.hid (show ∀ (w2 : World) (hb2 : Below w1.heap.size w1 w2), _ from fun w2 hb2 => RI.out w2 hb2 x)
    have RY := Lib.hid (show ∀ (w2 : World) (hb2 : Below w1.heap.size w1 w2), _ from fun w2 hb2 => RI.out w2 hb2 y)
    have SX := Lib.hid (show ∀ (w2 : World) (hb2 : Below w1.heap.size w1 w2), _ from fun w2 hb2 => RS.out w2 hb2 x)
    have SY := Lib.hid (show ∀ (w2 : World) (hb2 : Below w1.heap.size w1 w2), _ from fun w2 hb2 => RS.out w2 hb2 y)
    have LW := Lib.hid (fun (w2 : World) (hb2 : Below w1.heap.size w1 w2) => rd_of (lrWith_any A n c w1.heap.size p (q : Int) zs w2 (hr.below hb2 (Nat.le_refl _)) hb2.size (by omega) hpn))
    have CI := Lib.hid (fun (w2 : World) (hb2 : Below w1.heap.size w1 w2) => rows2_at (n := (rowsTo zs zs.length).length) (by rw [rowsN_yes T.fv]) (rowsN_big zs).2 (implClasses_any A n c w1.heap.size zs w2 (hr.below hb2 (Nat.le_refl _)) hb2.size (by omega)))
    have hrows := hang_rows T
    have hm16 := rowsTo_len zs zs.length
    have e1 := RX.out; rw [ep] at e1; have RX := Lib.hid e1
    have e2 := RY.out; rw [eq] at e2; have RY := Lib.hid e2
    have e3 := SX.out; rw [ep] at e3; have SX := Lib.hid e3
    have e4 := SY.out; rw [eq] at e4; have SY := Lib.hid e4
    have HT := Lib.hid T
    have HRO := Lib.hid hroots
    have HTG := Lib.hid htog
    have HROWS := Lib.hid hrows
    clear e1 e2 e3 e4 hgood ep eq hp hroots htog hrows hr hn T
    go_wp2_with fail
    refine (RX.out _ (by repeat (first | assumption | exact Below.refl _ _ | refine Below.on ?_ (by assumption)))).mono ?_
    rintro e w2 ⟨rfl, hb2⟩
    go_wp2_with fail
    refine (RY.out _ (by repeat (first | assumption | exact Below.refl _ _ | refine Below.on ?_ (by assumption)))).mono ?_
    rintro e w3 ⟨rfl, hb3⟩
    go_wp2_with fail
    refine (SX.out _ (by repeat (first | assumption | exact Below.refl _ _ | refine Below.on ?_ (by assumption)))).mono ?_
    rintro e w4 ⟨rfl, hb4⟩
    go_wp2_with fail
    refine (SY.out _ (by repeat (first | assumption | exact Below.refl _ _ | refine Below.on ?_ (by assumption)))).mono ?_
    rintro e w5 ⟨rfl, hb5⟩
    have t1 : ((p : Int) == (q : Int)) = false := by simp; omega
    go_wp2_with fail
    refine (LW.out _ (by repeat (first | assumption | exact Below.refl _ _ | refine Below.on ?_ (by assumption)))).mono ?_
    rintro e w6 ⟨A2, c2, rfl, hr2, hb6⟩
    have hsl : (zs.set p (q : Int)).length = n := by rw [List.length_set]; exact HN.out.symm
    rw [hsl] at hr2
    rw [hsl]
    have R2 := Lib.hid (fun (w2 : World) (hb2 : Below w6.heap.size w6 w2) (i : Int) => implRoot_any A2 n c2 w6.heap.size _ i w2 (hr2.below hb2 (Nat.le_refl _)) hb2.size (by omega))
    have T2 := Lib.hid (fun (w2 : World) (hb2 : Below w6.heap.size w6 w2) => implTog_any A2 n c2 w6.heap.size _ x y w2 (hr2.below hb2 (Nat.le_refl _)) hb2.size (by omega))
    have C2 := Lib.hid (fun (w2 : World) (hb2 : Below w6.heap.size w6 w2) => rows2_at (n := (rowsTo (hang zs p q) (hang zs p q).length).length) (by rw [rowsN_yes (hang_fv HT.out)]) (rowsN_big (hang zs p q)).2 (implClasses_any A2 n c2 w6.heap.size (hang zs p q) w2 (hr2.below hb2 (Nat.le_refl _)) hb2.size (by omega)))
    have e5 := T2.out; rw [HTG.out] at e5; have T2 := Lib.hid e5
    have e6 := C2.out; rw [hang_fv HT.out] at e6
    have e7 := CI.out; rw [HT.out.fv] at e7
    have hrows := HROWS.out
    revert e6 e7 hrows hm16
    generalize (rowsTo (hang zs p q) (hang zs p q).length).length = m'
    generalize (rowsTo zs zs.length).length = m
    intro hm16 e6 e7 hrows
    have C2 := Lib.hid e6
    have CI := Lib.hid e7
    have hm17 : m ≤ 17 := by have := HN.out; omega
    have hmm : ((m' : Int) == (m : Int) - 1) = true := by rw [beq_iff_eq]; omega
    have HB6 := Lib.hid (show Below w1.heap.size w1 w6 from (by repeat (first | assumption | exact Below.refl _ _ | refine Below.on ?_ (by assumption))))
    clear e5 hrows hr2 hsl hm16 hb2 hb3 hb4 hb5 hb6 LW RX RY SX SY RS
    go_wp2_with fail
    go_loopw [73] (fun i wr => ∃ k : Nat, k ≤ n ∧ i = .int .i64 k ∧ Below w6.heap.size w6 wr) (fun i _ => n - (intOf i).toNat)
    case atStart => exact ⟨0, Nat.zero_le _, rfl, Below.refl _ _⟩
    case round =>
      obtain ⟨k, hk, rfl, hbe⟩ := hrel
      by_cases hlt : k < n
      · obtain ⟨r, er, er2⟩ := HRO.out k (by have := HN.out; omega)
        have RK := RI.out wr (Below.on HB6.out hbe) (k : Int)
        have XK := fun (w2 : World) (hb2 : Below wr.heap.size wr w2) => R2.out w2 (Below.on hbe hb2) (k : Int)
        rw [er] at RK
        rw [er2] at XK
        have RK := Lib.hid RK
        clear er er2
        by_cases hrp : r = p
        · rw [if_pos hrp] at XK
          have XK := Lib.hid XK
          have t2 : ((r : Int) == (p : Int)) = true := by simp [hrp]
          have t3 : ((r : Int) != (p : Int)) = false := by simp [hrp]
          have t4 : ((q : Int) != (q : Int)) = false := by simp
          clear hrp
          go_wp2_with fail
          refine RK.out.mono ?_
          rintro e w7 ⟨rfl, hb7⟩
          go_wp2_with fail
          refine (XK.out _ hb7).mono ?_
          rintro e w8 ⟨rfl, hb8⟩
          have hb9 := Below.on hbe (Below.on hb7 hb8)
          clear hb7 hb8
          go_wp2_with fail
          go_roundw
          case rel => exact ⟨k + 1, by omega, by go_num, hb9⟩
          case measure => simp [intOf]; omega
        · rw [if_neg hrp] at XK
          have XK := Lib.hid XK
          have t2 : ((r : Int) == (p : Int)) = false := by simp; omega
          have t3 : ((r : Int) != (p : Int)) = true := by simp; omega
          have t4 : ((r : Int) != (r : Int)) = false := by simp
          clear hrp
          go_wp2_with fail
          refine RK.out.mono ?_
          rintro e w7 ⟨rfl, hb7⟩
          go_wp2_with fail
          refine (XK.out _ hb7).mono ?_
          rintro e w8 ⟨rfl, hb8⟩
          have hb9 := Below.on hbe (Below.on hb7 hb8)
          clear hb7 hb8
          go_wp2_with fail
          go_roundw
          case rel => exact ⟨k + 1, by omega, by go_num, hb9⟩
          case measure => simp [intOf]; omega
      · obtain rfl : k = n := by omega
        go_wp2_with fail
        refine (CI.out _ (Below.on HB6.out hbe)).mono ?_
        rintro e w7 ⟨A7, c7, rfl, _, hb7⟩
        go_wp2_with fail
        refine (C2.out _ (Below.on hbe hb7)).mono ?_
        rintro e w8 ⟨A8, c8, rfl, _, hb8⟩
        go_wp2_with fail
        refine (T2.out _ (Below.on hbe (Below.on hb7 hb8))).mono ?_
        rintro e w9 ⟨rfl, hb9⟩
        have hB := Below.on hb1 (Below.on HB6.out (Below.on hbe (Below.on hb7 (Below.on hb8 hb9))))
        clear hb7 hb8 hb9
        go_wp2_with fail
        go_ret
        exact ⟨rfl, hB⟩
  · have hbad : rootN zs x < 0 ∨ (¬ rootN zs x < 0 ∧ rootN zs y < 0) ∨ (¬ rootN zs x < 0 ∧ ¬ rootN zs y < 0 ∧ rootN zs x = rootN zs y) := by
      by_cases h1 : itemB zs x = true
      · by_cases h2 : itemB zs y = true
        · have g1 := rootN_nonneg h1
          have g2 := rootN_nonneg h2
          by_cases e : rootN zs x = rootN zs y
          · exact .inr (.inr ⟨by omega, by omega, e⟩)
          · exact absurd ⟨h1, h2, e⟩ hgood
        · have g1 := rootN_nonneg h1
          rw [rootN_no (i := y) (by simpa using h2)]
          exact .inr (.inl ⟨by omega, by omega⟩)
      · rw [rootN_no (i := x) (by simpa using h1)]
        exact .inl (by omega)
    have RX := fun (w2 : World) (hb2 : Below w1.heap.size w1 w2) => RI.out w2 hb2 x
    have RY := fun (w2 : World) (hb2 : Below w1.heap.size w1 w2) => RI.out w2 hb2 y
    have SX := fun (w2 : World) (hb2 : Below w1.heap.size w1 w2) => RS.out w2 hb2 x
    have SY := fun (w2 : World) (hb2 : Below w1.heap.size w1 w2) => RS.out w2 hb2 y
    clear hgood hr hn
    revert hbad RX RY SX SY
    generalize rootN zs x = p
    generalize rootN zs y = q
    intro hbad RX RY SX SY
    have RX := Lib.hid RX
    have RY := Lib.hid RY
    have SX := Lib.hid SX
    have SY := Lib.hid SY
    have t1 : (p == p) = true := by simp
    have t2 : (q == q) = true := by simp
    have t3 : (p != p) = false := by simp
    have t4 : (q != q) = false := by simp
    rcases hbad with h1 | ⟨h1, h2⟩ | ⟨h1, h2, h3⟩
    all_goals
      try (have t5 : (p == q) = true := by simp [h3])
      try clear h3
      go_wp2_with fail
      refine (RX.out _ (by repeat (first | assumption | exact Below.refl _ _ | refine Below.on ?_ (by assumption)))).mono ?_
      rintro e w2 ⟨rfl, hb2⟩
      go_wp2_with fail
      refine (RY.out _ (by repeat (first | assumption | exact Below.refl _ _ | refine Below.on ?_ (by assumption)))).mono ?_
      rintro e w3 ⟨rfl, hb3⟩
      go_wp2_with fail
      refine (SX.out _ (by repeat (first | assumption | exact Below.refl _ _ | refine Below.on ?_ (by assumption)))).mono ?_
      rintro e w4 ⟨rfl, hb4⟩
      go_wp2_with fail
      refine (SY.out _ (by repeat (first | assumption | exact Below.refl _ _ | refine Below.on ?_ (by assumption)))).mono ?_
      rintro e w5 ⟨rfl, hb5⟩
      go_wp2_with fail
      refine (SX.out _ (by repeat (first | assumption | exact Below.refl _ _ | refine Below.on ?_ (by assumption)))).mono ?_
      rintro e w6 ⟨rfl, hb6⟩
      go_wp2_with fail
      refine (SY.out _ (by repeat (first | assumption | exact Below.refl _ _ | refine Below.on ?_ (by assumption)))).mono ?_
      rintro e w7 ⟨rfl, hb7⟩
      go_wp2_with fail
      go_ret
      exact ⟨rfl, (by repeat (first | assumption | exact Below.refl _ _ | refine Below.on ?_ (by assumption)))⟩
end Go.Proofs.Ytkflihmhkgpgkaa
