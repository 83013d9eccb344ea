/- The walk of the law on drawn forests of Together and RootOf: for every two rows of bytes the law returns true and nothing that was there has turned. -/
import Derived.Test.YtlebnmboaeemoaaImpl
import Derived.Test.YtlebnmboaeemoaaSpec2
import Derived.Test.YtlebnmboaeemoaaDraw4
import Derived.Test.YtlebnmboaeemoaaRoots
namespace Go.Proofs.Ytlebnmboaeemoaa
open Go.RowKit

set_option maxRecDepth 100000 in
set_option maxHeartbeats 4000000 in
theorem fnRoot (A0 : Option Addr) (n0 c0 : Nat) (z0 : List Int) (A1 : Option Addr) (n1 c1 : Nat) (z1 : List Int) (w : World) (h0 : Row .u8 w A0 n0 c0 z0) (h1 : Row .u8 w A1 n1 c1 z1) :
    Calls Try.prog 3 #[.slice A0 n0 c0, .slice A1 n1 c1] w fun e w' => e = .returned (.bool true) ∧ Below w.heap.size w w' := by
  by_cases hl0 : 1048576 < n0
  · clear h0 h1
    go_enter Try.func3, Try.ntmps3
    go_wp2
    go_ret
    exact ⟨rfl, Below.refl _ _⟩
  by_cases hl1 : 1048576 < n1
  · clear h0 h1
    go_enter Try.func3, Try.ntmps3
    go_wp2
    go_ret
    exact ⟨rfl, Below.refl _ _⟩
  obtain ⟨b0, hc0⟩ := h0.bt
  obtain ⟨b1, hc1⟩ := h1.bt
  have D0 := Lib.hid (drawTog_any A0 n0 c0 w.heap.size z0 w b0 (Nat.le_refl _) hc0)
  have D1 := Lib.hid (fun (w1 : World) (hb : Below w.heap.size w w1) => drawRoot_any A1 n1 c1 w.heap.size z1 w1 (b1.below hb (Nat.le_refl _)) hb.size hc1)
  clear h0 h1 b0 b1 hc0 hc1
  go_enter Try.func3, Try.ntmps3
  go_wp2_with fail
  refine D0.out.mono ?_
  rintro e w1 ⟨v, zs, a, b, rfl, ho, hl, ha, hb, hb1⟩
  obtain ⟨A, c, rfl, hr⟩ := ho.form
  obtain ⟨n, hn⟩ : ∃ n, n = zs.length := ⟨_, rfl⟩
  rw [← hn] at hr hl
  rw [← hn]
  clear ho D0
  have T := Lib.hid (fun (w2 : World) (hb2 : Below w1.heap.size w1 w2) (x y : Int) => implTog_any A n c w1.heap.size zs x y w2 (hr.below hb2 (Nat.le_refl _)) hb2.size (by omega))
  have TS := Lib.hid (fun (w2 : World) (hb2 : Below w1.heap.size w1 w2) (x y : Int) => specTog_any A n c w1.heap.size zs x y w2 (hr.below hb2 (Nat.le_refl _)) hb2.size (by omega))
  have R := Lib.hid (fun (w2 : World) (hb2 : Below w1.heap.size w1 w2) (x : Int) => implRoot_any A n c w1.heap.size zs x w2 (hr.below hb2 (Nat.le_refl _)) hb2.size (by omega))
  have RD := Lib.hid hr
  have HN := Lib.hid hn
  clear hr hn
  go_wp2_with fail
  refine (T.out w1 (Below.refl _ _) a b).mono ?_
  rintro e w2 ⟨rfl, hb2⟩
  have hB2 := hb1.trans (hb2.mono hb1.size)
  obtain ⟨t, ht⟩ : ∃ t, t = togB zs a b := ⟨_, rfl⟩
  rw [← ht]
  have HT := Lib.hid ht
  clear ht
  go_wp2_with fail
  refine (D1.out w2 hB2).mono ?_
  rintro e w3 ⟨v', ys, x, rfl, ho', hl', hx, hb3⟩
  have hb3w := hb2.trans (hb3.mono hb2.size)
  have hB3 := hB2.trans (hb3.mono hB2.size)
  obtain ⟨A', c', rfl, hr'⟩ := ho'.form
  obtain ⟨n', hn'⟩ : ∃ n, n = ys.length := ⟨_, rfl⟩
  rw [← hn'] at hr' hl'
  rw [← hn']
  have R' := Lib.hid (implRoot_any A' n' c' w3.heap.size ys x w3 hr' (Nat.le_refl _) (by omega))
  have RS' := Lib.hid (fun (w4 : World) (hb4 : Below w3.heap.size w3 w4) => specRoot_any A' n' c' w3.heap.size ys x w4 (hr'.below hb4 (Nat.le_refl _)) hb4.size (by omega))
  clear ho' hr' hb2 hb3 hB2 D1 hn'
  generalize rootN ys x = r' at R' RS'
  go_wp2_with fail
  refine R'.out.mono ?_
  rintro e w4 ⟨rfl, hb4⟩
  have hb4w := hb3w.trans (hb4.mono hb3w.size)
  have hB4 := hB3.trans (hb4.mono hB3.size)
  go_wp2_with fail
  refine (TS.out w4 hb4w a b).mono ?_
  rintro e w5 ⟨rfl, hb5⟩
  have hb5w := hb4w.trans (hb5.mono hb4w.size)
  have hb45 := hb4.trans (hb5.mono hb4.size)
  have hB5 := hB4.trans (hb5.mono hB4.size)
  rw [← HT.out]
  have hne : (t != t) = false := by simp
  clear hb4 hb5 hb4w hB4 hb3w hB3
  go_wp2_with fail
  refine (RS'.out w5 hb45).mono ?_
  rintro e w6 ⟨rfl, hb6⟩
  have hb6w := hb5w.trans (hb6.mono hb5w.size)
  have hB6 := hB5.trans (hb6.mono hB5.size)
  have hne2 : (r' != r') = false := by simp
  clear hb45 hb6 hb5w hB5 RS' R'
  cases hia : itemB zs a with
  | false =>
    have hp := rootN_no hia
    have htf : t = false := by rw [HT.out]; exact togB_no hia
    subst htf
    clear hia hne
    go_wp2_with fail
    refine (R.out w6 hb6w a).mono ?_
    rintro e w7 ⟨rfl, hb7⟩
    rw [hp]
    have hb7w := hb6w.trans (hb7.mono hb6w.size)
    have hB7 := hB6.trans (hb7.mono hB6.size)
    go_wp2_with fail
    refine (R.out w7 hb7w b).mono ?_
    rintro e w8 ⟨rfl, hb8⟩
    have hB8 := hB7.trans (hb8.mono hB7.size)
    generalize rootN zs b = q
    go_wp2_with fail
    go_ret
    exact ⟨rfl, hB8⟩
  | true =>
  cases hib : itemB zs b with
  | false =>
    have hq := rootN_no hib
    have htf : t = false := by rw [HT.out]; exact togB_no2 hib
    obtain ⟨r, hp, _⟩ := root_facts hia
    subst htf
    clear hia hne
    go_wp2_with fail
    refine (R.out w6 hb6w a).mono ?_
    rintro e w7 ⟨rfl, hb7⟩
    rw [hp]
    have hb7w := hb6w.trans (hb7.mono hb6w.size)
    have hB7 := hB6.trans (hb7.mono hB6.size)
    go_wp2_with fail
    refine (R.out w7 hb7w b).mono ?_
    rintro e w8 ⟨rfl, hb8⟩
    rw [hq]
    have hB8 := hB7.trans (hb8.mono hB7.size)
    go_wp2_with fail
    go_ret
    exact ⟨rfl, hB8⟩
  | true =>
    obtain ⟨r, hp, hrl, hri, hrr, hru, hrt⟩ := root_facts hia
    obtain ⟨s, hq, _⟩ := root_facts hib
    have hts : t = ((r : Int) == (s : Int)) := by rw [HT.out, togB_both hia hib, hp, hq]
    have hsy : togB zs b a = t := by rw [HT.out]; exact togB_symm _ _ _
    have HP := Lib.hid hp
    have HQ := Lib.hid hq
    have HSY := Lib.hid hsy
    have HRR := Lib.hid hrr
    have HRU := Lib.hid hru
    have HRT := Lib.hid hrt
    have ht1 : (t == ((r : Int) == (s : Int))) = true := by rw [hts]; simp
    have ht2 : (t == t) = true := by simp
    have hr1 : ((r : Int) == (r : Int)) = true := by simp
    have hrn : r < n := by rw [HN.out]; exact hrl
    clear hia hib hne hp hq hsy hrr hru hrt hts hri hrl HT
    go_wp2_with fail
    refine (R.out w6 hb6w a).mono ?_
    rintro e w7 ⟨rfl, hb7⟩
    rw [HP.out]
    have hb7w := hb6w.trans (hb7.mono hb6w.size)
    have hB7 := hB6.trans (hb7.mono hB6.size)
    clear hb6w hB6 hb7
    go_wp2_with fail
    refine (R.out w7 hb7w b).mono ?_
    rintro e w8 ⟨rfl, hb8⟩
    rw [HQ.out]
    have hb8w := hb7w.trans (hb8.mono hb7w.size)
    have hB8 := hB7.trans (hb8.mono hB7.size)
    clear hb7w hB7 hb8
    go_wp2_with fail
    refine (T.out w8 hb8w b a).mono ?_
    rintro e w9 ⟨rfl, hb9⟩
    rw [HSY.out]
    have hb9w := hb8w.trans (hb9.mono hb8w.size)
    have hB9 := hB8.trans (hb9.mono hB8.size)
    clear hb8w hB8 hb9
    go_wp2_with fail
    refine (R.out w9 hb9w r).mono ?_
    rintro e w10 ⟨rfl, hb10⟩
    rw [HRR.out]
    have hb10w := hb9w.trans (hb10.mono hb9w.size)
    have hB10 := hB9.trans (hb10.mono hB9.size)
    clear hb9w hB9 hb10
    obtain ⟨bb, off, rfl, _, hcc⟩ := (RD.out.below hb10w (Nat.le_refl _)).2 (by omega)
    have g1 := hcc r hrn
    rw [HRU.out] at g1
    clear hcc
    go_wp2_with fail
    refine (T.out w10 hb10w a r).mono ?_
    rintro e w11 ⟨rfl, hb11⟩
    rw [HRT.out]
    have hB11 := hB10.trans (hb11.mono hB10.size)
    clear hb10w hB10 hb11
    go_wp2_with fail
    go_ret
    exact ⟨rfl, hB11⟩
end Go.Proofs.Ytlebnmboaeemoaa
