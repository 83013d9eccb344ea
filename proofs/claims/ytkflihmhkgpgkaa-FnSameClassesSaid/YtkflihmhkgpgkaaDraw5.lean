/- The model's drawn pair of forests, over any bytes: two lists of at most 17 ints in new memory. No condition. -/
import Derived.Test.YtkflihmhkgpgkaaDraw4
import Derived.Test.YtkflihmhkgpgkaaSpec2
namespace Go.Proofs.Ytkflihmhkgpgkaa
open Go.RowKit

set_option maxRecDepth 100000 in
set_option maxHeartbeats 2000000 in
theorem drawSame_any (A : Option Addr) (n c B : Nat) (bs : List Int) (w : World) (h : Bt w B A n bs) (hB : B ≤ w.heap.size) (hc : n ≤ c) :
    Calls Try.prog 34 #[.slice A n c] w fun e w' => ∃ v zs v' ys, e = .returned (.tuple #[v, v']) ∧ Own w' w.heap.size v zs ∧ zs.length ≤ 17 ∧ Own w' w.heap.size v' ys ∧ ys.length ≤ 17 ∧ Below w.heap.size w w' := by
  have O := Lib.hid (open_any A n c B bs w h hB hc)
  clear h
  go_enter Try.func34, Try.ntmps34
  go_wp2_with fail
  refine O.out.mono ?_
  rintro e w1 ⟨rfl, hs1, hb1⟩
  have P := Lib.hid (l1Some_any w.heap.size 0 w1 hs1 (by omega))
  have hsz := hb1.size
  go_wp2_with fail
  refine P.out.mono ?_
  rintro e w2 ⟨v, zs, rfl, ho, hl, ⟨p2, hp2, hs2⟩, hg⟩
  have hb2 := below_of_grown hb1 hg
  have hlt1 := hs1.lt
  obtain ⟨m, hm⟩ : ∃ m, m = zs.length := ⟨_, rfl⟩
  obtain ⟨A2, c2, rfl, hr⟩ := ho.form
  rw [← hm] at hr hl ho
  rw [← hm]
  have HM := Lib.hid hm
  have HO : Hid (Own w2 w1.heap.size (.slice A2 m c2) zs) := ho
  have PK := Lib.hid (pick_any w.heap.size p2 2 w2 hs2 (by omega))
  clear hs1 hb1 hg P hm ho
  go_wp2_with fail
  refine PK.out.mono ?_
  rintro e w3 ⟨⟨x, rfl, _⟩, hs3, hg3⟩
  have HO3 : Hid (Own w3 w1.heap.size (.slice A2 m c2) zs) := HO.out.row hg3 hlt1
  have hb3 := below_of_grown hb2 hg3
  have hsz3 := hb3.size
  have hlen : Hid (zs.length = m) := HM.out.symm
  clear hs2 hg3 PK HO hb2
  have HFIN := Lib.hid (fun (w' : World) (h : Own w' w1.heap.size (.slice A2 m c2) zs) => h.less hsz)
  by_cases hx : x = 0
  · subst hx
    have P2 := Lib.hid (l1Some_any w.heap.size _ w3 hs3 (by omega))
    go_wp2_with fail
    refine P2.out.mono ?_
    rintro e w5 ⟨v5, ys, rfl, ho5, hl5, _, hg5⟩
    have hO5 := Lib.hid (HO3.out.row hg5 (by omega))
    have hb5 := below_of_grown hb3 hg5
    go_wp2_with fail
    go_ret2
    exact ⟨_, zs, _, ys, rfl, HFIN.out _ hO5.out, by have := HM.out; omega, ho5.less hsz3, hl5, hb5⟩
  · have hxb : ((x : Int) == 0) = false := by simp; omega
    have hrd : Hid (Rd w3 w3.heap.size A2 m zs) := by
      have := HO3.out.rd
      exact this
    have V := specValid_any A2 m c2 w3.heap.size zs w3 hrd.out (Nat.le_refl _) (by omega)
    cases hv : fvB zs with
    | false =>
      rw [hv] at V
      have V := Lib.hid V
      clear hv hx
      go_wp2_with fail
      refine V.out.mono ?_
      rintro e w4 ⟨rfl, hb4⟩
      have hs4 := hs3.below hb4 hs3.lt
      have HO4 : Hid (Own w4 w1.heap.size (.slice A2 m c2) zs) := HO3.out.keep hb4 (Nat.le_refl _)
      have hb4 := hb3.trans (hb4.mono hsz3)
      have hsz4 := hb4.size
      clear hrd V hs3 HO3 hb3
      have P2 := Lib.hid (l1Some_any w.heap.size _ w4 hs4 (by omega))
      go_wp2_with fail
      refine P2.out.mono ?_
      rintro e w5 ⟨v5, ys, rfl, ho5, hl5, _, hg5⟩
      have hO5 := Lib.hid (HO4.out.row hg5 (by omega))
      have hb5 := below_of_grown hb4 hg5
      go_wp2_with fail
      go_ret2
      exact ⟨_, zs, _, ys, rfl, HFIN.out _ hO5.out, by have := HM.out; omega, ho5.less hsz4, hl5, hb5⟩
    | true =>
      rw [hv] at V
      have V := Lib.hid V
      have RR := Lib.hid (fun (i : Nat) (hi : i < m) (w4 : World) (hb4 : Below w3.heap.size w3 w4) => l1Root_any A2 m c2 w3.heap.size i zs w4 (hrd.out.below hb4 (Nat.le_refl _)) hv hi)
      have HR : Hid (∀ i, i < m → rootI zs i ≤ 17) := fun i hi => by
        have := (root_is hv (i := i) (by rw [hlen.out]; exact hi)).1
        rw [hlen.out] at this
        omega
      clear hv hx
      go_wp2_with fail
      refine V.out.mono ?_
      rintro e w4 ⟨rfl, hb4⟩
      have hb34 := Lib.hid hb4
      have HO4 : Hid (Own w4 w1.heap.size (.slice A2 m c2) zs) := HO3.out.keep hb4 (Nat.le_refl _)
      have hs34 := hb4.size
      have hb4 := hb3.trans (hb4.mono hsz3)
      have hsz4 := hb4.size
      have HB4 := Lib.hid hb4
      have H0 : Hid (∃ ys : List Int, ys.length = 0 ∧ Own (w4.alloc (.cells #[] 3)) w4.heap.size (.slice (some ⟨w4.heap.size, 0, none⟩) 0 0) ys) := ⟨[], rfl, Own.lit w4 _ [] (Nat.le_refl _) (by simp)⟩
      have RR := Lib.hid (fun (i : Nat) (hi : i < m) (w5 : World) (hb5 : Below w4.heap.size w4 w5) => RR.out i hi w5 (hb34.out.trans (hb5.mono hs34)))
      have hm17 : m ≤ 17 := hl
      clear V hs3 hb4 hb3 HO3 hrd hb34
      go_wp2_with fail
      go_loopw [6, 26] (fun v i wr => ∃ k : Nat, k ≤ m ∧ i = .int .i64 k ∧ Hid (∃ ys : List Int, ys.length = k ∧ Own wr w4.heap.size v ys) ∧ Below w4.heap.size w4 wr) (fun _ i _ => m - (intOf i).toNat)
      case atStart => exact ⟨0, Nat.zero_le _, rfl, H0, (Below.refl _ _).alloc (Nat.le_refl _) _⟩
      case round =>
        obtain ⟨k, hk, rfl, HY, hbe⟩ := hrel
        clear H0
        by_cases hlt : k < m
        · have RK := RR.out k hlt wr hbe
          generalize (rootI zs k : Int) = r at RK
          have RK := Lib.hid RK
          obtain ⟨ys, hyl, hoy⟩ := HY.out
          have hyl2 : ys.length ≤ 1048576 := by omega
          have hsz := hbe.size
          have HYL := Lib.hid hyl
          clear hyl HY
          go_wp2_with fail
          refine RK.out.mono ?_
          rintro e w5 ⟨rfl, rfl⟩
          go_wp2_with (at_builtin; go_must (refine wpList_push rfl (.tmp 29) (.tmp 33) rfl wr w4.heap.size _ ys _ rfl rfl hoy hyl2 hsz ?_); intro v' w' ho' hg' _)
          have hbe' : Below w4.heap.size w4 w' := hbe.grown hg' hsz (fun r e => (hoy.blockOf r e).1)
          have HY2 : Hid (∃ ys : List Int, ys.length = k + 1 ∧ Own w' w4.heap.size v' ys) := ⟨_, by rw [List.length_append, HYL.out]; rfl, ho'⟩
          clear ho' hg' hoy
          go_wp2
          go_roundw
          case rel => exact ⟨k + 1, by omega, by go_num, HY2, hbe'⟩
          case measure => simp [intOf]; omega
        · obtain rfl : k = m := by omega
          go_wp2
          go_ret2
          obtain ⟨ys, hyl, hoy⟩ := HY.out
          exact ⟨_, zs, _, ys, rfl, HFIN.out _ (HO4.out.keep hbe (Nat.le_refl _)), by have := hlen.out; omega, hoy.less hsz4, by omega, HB4.out.trans (hbe.mono hsz4)⟩
end Go.Proofs.Ytkflihmhkgpgkaa
