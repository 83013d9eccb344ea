/- Drawn grids, and the comparison of two lists of texts. Condition: lengths up to 1048576. -/
import Derived.Test.YtecleelcnjhimaaDoorGridV
import Derived.Test.YtecleelcnjhimaaDoorDraw4
namespace Go.Proofs.YtecleelcnjhimaaDoor
open Go.RowKit Go.Shelf

theorem OwnT.rowG {w w' : World} {base R : Nat} {v : Value} {zs : List ByteArray} (h : OwnT w base v zs) (hg : w.grownBy w' (some R)) (hR : R < base) : OwnT w' base v zs :=
  h.kept hg (by
    cases hb : v.ownBlock with
    | none => exact .inl rfl
    | some r =>
      refine .inr fun e => ?_
      injection e with e
      have := (h.blockOf r hb).1
      omega)

set_option maxRecDepth 100000 in
set_option maxHeartbeats 1000000 in
theorem of_any (R p base : Nat) (v : Value) (zs : List ByteArray) (w : World) (h : Src w R p) (hp : p ≤ 100000) (ho : OwnT w base v zs) (hb : R < base) (h1 : 1 ≤ zs.length) (h2 : zs.length ≤ 100) :
    Calls Tryd.prog 40 #[.pointer (some ⟨R, 0, none⟩), v] w fun e w' => (∃ j, j < zs.length ∧ e = .returned (.string (zs[j]?.getD ByteArray.empty))) ∧ Src w' R (p + 1) ∧ w.grownBy w' (some R) := by
  obtain ⟨A, c, rfl, hr⟩ := ho.form
  obtain ⟨n, hn⟩ : ∃ n, n = zs.length := ⟨_, rfl⟩
  have P := Lib.hid (pick_any R p (n : Int) w h hp)
  rw [← hn] at hr h1 h2 ho ⊢
  clear hn
  go_enter Tryd.func40, Tryd.ntmps40
  go_wp2_with fail
  refine P.out.mono ?_
  rintro e w1 ⟨⟨j, rfl, hj⟩, hs, hg⟩
  have hj := hj (by omega)
  have ho1 := ho.rowG hg hb
  have hr1 := ho1.rd
  obtain ⟨b, off, rfl, _, hc⟩ := hr1.2 (by omega)
  have g1 := hc j (by omega)
  clear hc hr1 ho1 ho hr
  go_wp2
  go_ret
  exact ⟨⟨j, by omega, rfl⟩, hs, hg⟩

/-- A number out of a list that is written there. -/
theorem numLit_any (R q : Nat) (W : World) (zs : List Int) (hs : Src W R q) (hq : q ≤ 100000) (h1 : 1 ≤ zs.length) (h2 : zs.length ≤ 100) (hz : ∀ z ∈ zs, 1 ≤ z ∧ z ≤ 6) :
    Calls Tryd.prog 61 #[.pointer (some ⟨R, 0, none⟩), .slice (some ⟨W.heap.size, 0, none⟩) zs.length zs.length] (W.alloc (.cells (zs.map (Value.int .i64)).toArray 3)) fun e w' =>
      (∃ z : Nat, e = .returned (.int .i64 (z : Int)) ∧ 1 ≤ z ∧ z ≤ 6) ∧ Src w' R (q + 1) ∧ W.grownBy w' (some R) := by
  have hlt := hs.lt
  have hb0 := (Below.refl W.heap.size W).alloc (Nat.le_refl _) (.cells (zs.map (Value.int .i64)).toArray 3)
  refine (num_any R q W.heap.size _ zs _ (hs.below hb0 hlt) hq (Own.lit W _ zs (Nat.le_refl _) (by omega)) hlt h1 h2).mono ?_
  rintro e w' ⟨⟨j, hj, rfl⟩, hs', hg⟩
  have hm := nums_mem (p := fun z => 1 ≤ z ∧ z ≤ 6) hz hj
  obtain ⟨z, hze⟩ := Int.eq_ofNat_of_zero_le (show 0 ≤ zs[j]?.getD 0 by omega)
  refine ⟨⟨z, by rw [hze], by omega, by omega⟩, hs', grown_trans2 (grown_of_below R hb0) hg⟩

set_option maxRecDepth 100000 in
set_option maxHeartbeats 4000000 in
/-- A drawn grid is a grid. -/
theorem l8Good_any (R p : Nat) (w : World) (h : Src w R p) (hp : p ≤ 80000) :
    Calls Tryd.prog 38 #[.pointer (some ⟨R, 0, none⟩)] w fun e w' => ∃ v zs, e = .returned v ∧ OwnT w' w.heap.size v zs ∧ gvB zs = true ∧ (∃ p', p' ≤ p + 50 ∧ Src w' R p') ∧ w.grownBy w' (some R) := by
  have hlt := h.lt
  have N1 := Lib.hid (numLit_any R p w [3, 4, 1, 6, 2, 5] h (by omega) (by simp) (by simp) (by decide))
  have N2 := Lib.hid (fun (W : World) (hs : Src W R (p + 1)) => numLit_any R (p + 1) W [3, 2, 4, 1] hs (by omega) (by simp) (by simp) (by decide))
  have N3 := Lib.hid (fun (W : World) (hs : Src W R (p + 2)) => numLit_any R (p + 2) W [3, 4, 2, 6, 1, 5] hs (by omega) (by simp) (by simp) (by decide))
  have PK := Lib.hid (fun (W : World) (q : Nat) (hs : Src W R q) (hq : q ≤ 90000) => pick_any R q 6 W hs (by omega))
  clear h
  go_enter Tryd.func38, Tryd.ntmps38
  go_wp2_with fail
  refine N1.out.mono ?_
  rintro e w1 ⟨⟨wd, rfl, hw1, hw6⟩, hs1, hg1⟩
  obtain ⟨wE, hE⟩ : ∃ wE, wE = w1.alloc (.cells #[] 9) := ⟨_, rfl⟩
  have hbE : Below w1.heap.size w1 wE := by rw [hE]; exact (Below.refl _ _).alloc (Nat.le_refl _) _
  have hOE : OwnT wE w.heap.size (.slice (some ⟨w1.heap.size, 0, none⟩) 0 0) [] := by rw [hE]; exact OwnT.lit w1 _ [] hg1.size (by simp)
  have hsE := hs1.below hbE hs1.lt
  have hgE := grown_below hg1 (hbE.mono hg1.size)
  have hszE : wE.heap.size = w1.heap.size + 1 := by rw [hE]; simp
  have NE := N2.out wE hsE
  rw [hszE] at NE
  have NE := Lib.hid NE
  have HEE := Lib.hid hE
  have HOE := Lib.hid hOE
  clear hE hbE hOE hszE N1 N2 hs1 hg1
  go_wp2_with fail
  rw [← HEE.out]
  refine NE.out.mono ?_
  rintro e w2 ⟨⟨op, rfl, _, _⟩, hs2, hg2⟩
  have HO2 := Lib.hid (HOE.out.rowG hg2 hlt)
  have hg2 := grown_trans2 hgE hg2
  clear hgE NE HEE HOE hsE
  go_wp2_with fail
  refine (N3.out _ hs2).mono ?_
  rintro e w3 ⟨⟨hi, rfl, hh1, hh6⟩, hs3, hg3⟩
  have HO3 : Hid (OwnT w3 w.heap.size (.slice (some ⟨w1.heap.size, 0, none⟩) 0 0) [] ∧ ([] : List ByteArray).length = 0 ∧ ∀ x ∈ ([] : List ByteArray), x.size = wd ∧ x.data.toList.all cellB = true) := ⟨HO2.out.rowG hg3 hlt, rfl, fun x hx => by simp at hx⟩
  have hg3 := grown_trans2 hg2 hg3
  clear hg2 HO2 hs2 N3
  go_wp2_with fail
  go_loopw [4, 17] (fun v i wr => ∃ (k : Nat) (zs : List ByteArray), k ≤ hi ∧ i = .int .i64 k ∧ Hid (OwnT wr w.heap.size v zs ∧ zs.length = k ∧ ∀ x ∈ zs, x.size = wd ∧ x.data.toList.all cellB = true) ∧ (∃ q, q ≤ p + 3 + 6 * k ∧ Src wr R q) ∧ w.grownBy wr (some R)) (fun _ i _ => hi - (intOf i).toNat)
  case atStart => exact ⟨0, [], Nat.zero_le _, rfl, HO3, ⟨_, by omega, hs3⟩, hg3⟩
  case round =>
    obtain ⟨k, zs, hk, rfl, HO, ⟨q, hq, hs⟩, hg⟩ := hrel
    clear HO3 hs3 hg3
    by_cases hkn : k < hi
    · have hkk : (k : Int) < (hi : Int) := by omega
      have HS := Lib.hid hs
      have HG := Lib.hid hg
      obtain ⟨wA, hwA⟩ : ∃ wA, wA = wr := ⟨_, rfl⟩
      rw [← hwA] at HO HS HG ⊢
      clear hwA hs hg
      go_wp2_with fail
      go_loopw [6, 20] (fun l j wr => ∃ (m : Nat) (s : ByteArray), m ≤ wd ∧ j = .int .i64 m ∧ l = .string s ∧ s.size = m ∧ Hid (s.data.toList.all cellB = true) ∧ (∃ q', q' ≤ q + m ∧ Src wr R q') ∧ wA.grownBy wr (some R)) (fun _ j _ => wd - (intOf j).toNat)
      case atStart => exact ⟨0, ⟨#[]⟩, Nat.zero_le _, rfl, rfl, rfl, Lib.hid rfl, ⟨q, by omega, HS.out⟩, ⟨rfl, rfl, rfl, Nat.le_refl _, fun _ _ _ => rfl⟩⟩
      case round =>
        obtain ⟨m, s, hm, rfl, rfl, hsz, HA, ⟨q', hq', hs⟩, hgz⟩ := hrel
        by_cases hmw : m < wd
        · have hmm : (m : Int) < (wd : Int) := by omega
          have hs6 : s.size ≤ 5 := by omega
          have h46 : (ByteArray.mk #[46]).size = 1 := rfl
          have h35 : (ByteArray.mk #[35]).size = 1 := rfl
          have P1 := Lib.hid (PK.out wr q' hs (by omega))
          have HA1 : Hid ((s ++ ⟨#[46]⟩).data.toList.all cellB = true ∧ (s ++ ⟨#[35]⟩).data.toList.all cellB = true) := by
            refine ⟨?_, ?_⟩
            all_goals
              rw [ByteArray.data_append, Array.toList_append, List.all_append, HA.out]
              rfl
          have hz1 : (s ++ ByteArray.mk #[46]).size = m + 1 := by rw [ByteArray.size_append, h46, hsz]
          have hz2 : (s ++ ByteArray.mk #[35]).size = m + 1 := by rw [ByteArray.size_append, h35, hsz]
          have HZ := Lib.hid (And.intro hz1 hz2)
          clear hz1 hz2 HA hs
          go_wp2_with fail
          refine P1.out.mono ?_
          rintro e w5 ⟨⟨x, rfl, _⟩, hs5, hg5⟩
          have hg5 := grown_trans2 hgz hg5
          clear P1 hgz
          by_cases hx : (x : Int) < (op : Int)
          · go_wp2_with fail
            go_roundw
            case rel => exact ⟨m + 1, _, by omega, by go_num, rfl, HZ.out.1, Lib.hid HA1.out.1, ⟨_, by omega, hs5⟩, hg5⟩
            case measure => simp [intOf]; omega
          · go_wp2_with fail
            go_roundw
            case rel => exact ⟨m + 1, _, by omega, by go_num, rfl, HZ.out.2, Lib.hid HA1.out.2, ⟨_, by omega, hs5⟩, hg5⟩
            case measure => simp [intOf]; omega
        · obtain rfl : m = wd := by omega
          have hoz := HO.out.1.rowG hgz hlt
          have hlz : zs.length ≤ 1048576 := by have := HO.out.2.1; omega
          have hgw := grown_trans2 HG.out hgz
          have hsw := hgw.size
          have HX := Lib.hid (And.intro hsz HA.out)
          clear hsz
          go_wp2_with (at_builtin; go_must (refine wpList_pushT rfl (.tmp 31) (.tmp 33) rfl wr w.heap.size u4 zs s rfl rfl hoz hlz hsw ?_); intro v' w' ho' hg' _)
          have hbz : Below w.heap.size wr w' := (Below.refl _ _).grown hg' hsw (fun r e => (hoz.blockOf r e).1)
          have hsz' := hs.below hbz hlt
          have hgz' := grown_below hgw hbz
          have HO4 : Hid (OwnT w' w.heap.size v' (zs ++ [s]) ∧ (zs ++ [s]).length = k + 1 ∧ ∀ x ∈ zs ++ [s], x.size = m ∧ x.data.toList.all cellB = true) := ⟨ho', by rw [List.length_append, HO.out.2.1]; rfl, fun x hx => by
            rcases List.mem_append.1 hx with hx | hx
            · exact HO.out.2.2 x hx
            · rw [List.mem_singleton.1 hx]; exact HX.out⟩
          clear ho' hg' hoz hbz hs hgz hgw
          go_wp2_with fail
          go_roundw
          case rel => exact ⟨k + 1, _, by omega, by go_num, HO4, ⟨_, by omega, hsz'⟩, hgz'⟩
          case measure => simp [intOf]; omega
    · obtain rfl : k = hi := by omega
      have hg9 : gvB zs = true := by
        obtain ⟨_, hl, hx⟩ := HO.out
        have h0 : 0 < zs.length := by omega
        have e0 : (zs[0]?.getD ByteArray.empty).size = wd := by rw [List.getElem?_eq_getElem h0, Option.getD_some]; exact (hx _ (List.getElem_mem h0)).1
        refine gv_of (by omega) (by omega) fun j hj => ?_
        have := hx _ (List.getElem_mem hj)
        rw [e0, List.getElem?_eq_getElem hj, Option.getD_some]
        unfold rowB
        rw [decide_eq_true this.1, this.2]
        rfl
      have HO9 := Lib.hid (And.intro HO.out.1 hg9)
      clear HO hg9
      go_wp2_with fail
      go_ret
      exact ⟨_, zs, rfl, HO9.out.1, HO9.out.2, ⟨q, by omega, hs⟩, hg⟩
end Go.Proofs.YtecleelcnjhimaaDoor
