/- Drawn grids that may be spoilt. Condition: none besides the source's. -/
import Derived.Test.YtecleelcnjhimaaDoorDrawG
import Derived.Test.YtecleelcnjhimaaDoorTurn
import Derived.Deep.RegionHeld3
namespace Go.Proofs.YtecleelcnjhimaaDoor
open Go.RowKit Go.Shelf

def lenV : Value → Nat
  | .slice _ n _ => n
  | _ => 0
theorem ownT_some {w : World} {base : Nat} {v : Value} {zs : List ByteArray} (h : OwnT w base v zs) (h1 : 1 ≤ zs.length) : ∃ g c, v = .slice (some ⟨g, 0, none⟩) zs.length c := by
  rcases h.2 with ⟨_, hx⟩ | ⟨g, cap, cur, hv, _⟩
  · omega
  · exact ⟨g, cap, hv⟩
theorem cut_from {s : ByteArray} (h : 1 ≤ s.size) (w : World) : (Instr.slice 9 (.string s) (some (.int .i64 1)) none none).run Tryd.prog w = .ok (.string (s.extract 1 s.size)) w := by
  have := run_slice_string_l (P := Tryd.prog) (w := w) 9 s Tryd.underlying9 .i64 1 (by omega) (by omega)
  simpa using this

set_option maxRecDepth 100000 in
set_option maxHeartbeats 4000000 in
theorem l8Some_any (R p : Nat) (w : World) (h : Src w R p) (hp : p ≤ 70000) :
    Calls Tryd.prog 32 #[.pointer (some ⟨R, 0, none⟩)] w fun e w' => ∃ v zs, e = .returned v ∧ OwnT w' w.heap.size v zs ∧ zs.length ≤ 7 ∧ (∀ x ∈ zs, x.size ≤ 20) ∧ (∃ p', p' ≤ p + 60 ∧ Src w' R p') ∧ w.grownBy w' (some R) := by
  have hlt := h.lt
  have G := Lib.hid (l8Good_any R p w h (by omega))
  have PK := Lib.hid (fun (W : World) (q : Nat) (hs : Src W R q) (hq : q ≤ 90000) => pick_any R q 24 W hs (by omega))
  clear h
  go_enter Tryd.func32, Tryd.ntmps32
  go_wp2_with fail
  refine G.out.mono ?_
  rintro e w1 ⟨v, zs, rfl, ho, hgv, ⟨q, hq, hs⟩, hg⟩
  obtain ⟨⟨hn1, hn6⟩, ⟨_, hw6⟩, hrow⟩ := gv_parts hgv
  have hsz : ∀ x ∈ zs, x.size ≤ 20 := fun x hx => by have := (hrow x hx).1; omega
  have hsz1 : ∀ x ∈ zs, 1 ≤ x.size := fun x hx => by have := (hrow x hx).1; have := (gv_parts hgv).2.1.1; omega
  have hsz6 : ∀ x ∈ zs, x.size ≤ 6 := fun x hx => by have := (hrow x hx).1; omega
  obtain ⟨g, c, rfl⟩ := ownT_some ho hn1
  obtain ⟨n, hn⟩ : ∃ n, n = zs.length := ⟨_, rfl⟩
  rw [← hn] at ho hn1 hn6 ⊢
  have HN := Lib.hid hn
  clear hgv hrow hw6 G hn
  go_wp2_with fail
  refine (PK.out _ _ hs (by omega)).mono ?_
  rintro e w2 ⟨⟨x, rfl, _⟩, hs2, hg2⟩
  have ho2 := ho.rowG hg2 hlt
  have hg2 := grown_trans2 hg hg2
  have hsw := hg2.size
  have HSZ := Lib.hid (And.intro hsz (And.intro hsz1 hsz6))
  clear ho hs hg hsz hsz1 hsz6 PK
  by_cases h0 : x = 0
  · subst h0
    have hb := ho2.at_base
    have hn0 : 0 < zs.length := by have := HN.out; omega
    obtain ⟨z, hz⟩ : ∃ z, z = zs[0]?.getD ByteArray.empty := ⟨_, rfl⟩
    have hz6 : z.size ≤ 6 ∧ z.size ≤ 20 := by
      have h6 := HSZ.out.2.2 z (by rw [hz, List.getElem?_eq_getElem hn0, Option.getD_some]; exact List.getElem_mem hn0)
      omega
    have CL : Hid (∀ W, w2.grownBy W (some R) → W.cell? ⟨g, 0, none⟩ = some (.string z) ∧ W.frozen? ⟨g, 0, none⟩ = false ∧ OwnT W w.heap.size (.slice (some ⟨g, 0, none⟩) n c) zs) := fun W hW => by
      have hoW := ho2.rowG hW hlt
      exact ⟨by rw [hz]; exact hoW.slot (k := 0) (by omega), hoW.free 0, hoW⟩
    have hbL : Below w2.heap.size w2 (w2.alloc (.cells #[.string ⟨#[46]⟩, .string ⟨#[120]⟩, .string ⟨#[46, 46, 46, 46, 46, 46, 46]⟩] 9)) := (Below.refl _ _).alloc (Nat.le_refl _) _
    have OF : Hid (∀ W : World, W.heap = (w2.alloc (.cells #[.string ⟨#[46]⟩, .string ⟨#[120]⟩, .string ⟨#[46, 46, 46, 46, 46, 46, 46]⟩] 9)).heap → Below w2.heap.size w2 W → Calls Tryd.prog 40 #[.pointer (some ⟨R, 0, none⟩), .slice (some ⟨w2.heap.size, 0, none⟩) 3 3] W fun e w' => ∃ y : ByteArray, e = .returned (.string y) ∧ y.size ≤ 7 ∧ Src w' R (q + 2) ∧ w'.cell? ⟨g, 0, none⟩ = some (.string z) ∧ w'.frozen? ⟨g, 0, none⟩ = false ∧ OwnT w' w.heap.size (.slice (some ⟨g, 0, none⟩) n c) zs ∧ w.grownBy w' (some R)) := fun W hW hbW => by
      have hL : OwnT W w2.heap.size (.slice (some ⟨w2.heap.size, 0, none⟩) 3 3) [⟨#[46]⟩, ⟨#[120]⟩, ⟨#[46, 46, 46, 46, 46, 46, 46]⟩] := by
        have := OwnT.lit w2 w2.heap.size [⟨#[46]⟩, ⟨#[120]⟩, ⟨#[46, 46, 46, 46, 46, 46, 46]⟩] (Nat.le_refl _) (by simp)
        unfold OwnT World.ownsRow at this ⊢
        rw [hW]
        exact this
      refine (of_any R (q + 1) w2.heap.size _ [⟨#[46]⟩, ⟨#[120]⟩, ⟨#[46, 46, 46, 46, 46, 46, 46]⟩] W (hs2.below hbW hs2.lt) (by omega) hL hs2.lt (by simp) (by simp)).mono fun e w' h => ?_
      obtain ⟨⟨j, hj, he⟩, hs', hg'⟩ := h
      have hg3 := grown_trans2 (grown_of_below R hbW) hg'
      obtain ⟨a1, a2, a3⟩ := CL.out w' hg3
      refine ⟨_, he, ?_, hs', a1, a2, a3, grown_trans2 hg2 hg3⟩
      have : j = 0 ∨ j = 1 ∨ j = 2 := by simp at hj; omega
      rcases this with rfl | rfl | rfl <;> decide
    have c0 := (CL.out w2 ⟨rfl, rfl, rfl, Nat.le_refl _, fun _ _ _ => rfl⟩).1
    have HBL := Lib.hid hbL
    have hgn : ¬ g = w2.heap.size := by omega
    have hgl : g < w2.heap.size := hb.2
    have hnn : 0 < n := by omega
    clear CL hs2 ho2 hg2 hbL hz
    go_wp2_with fail
    go_region_law (go_simp; (try go_at_call 40); refine (OF.out _ (by rfl) (by exact ⟨HBL.out.os, HBL.out.tape, HBL.out.output, HBL.out.size, HBL.out.block⟩)).mono ?_; rintro e w3 ⟨y, rfl, hy7, hs3, c3, f3, ho3, hg3⟩; have hA : ∀ W : World, (Op.stringOp .add z y).run Tryd.prog W = .ok (.string (z ++ y)) W := fun W => run_string_add_sum W _ _ (by omega); have hbz : Below w.heap.size w3 (w3.setCell ⟨g, 0, none⟩ (.string (z ++ y))) := (Below.refl w.heap.size w3).setCell (p := ⟨g, 0, none⟩) hb.1 _; have hzy : (z ++ y).size ≤ 20 := (by rw [ByteArray.size_append]; omega); have HF := Lib.hid (And.intro (ho3.set_ 0 (z ++ y)) (And.intro (hs3.below hbz hlt) (And.intro (grown_below hg3 hbz) hzy))); clear ho3 hs3 hg3 hbz hzy)
    all_goals
      go_wp2_with fail
      go_ret
      exact ⟨_, zs.set 0 (z ++ y), rfl, HF.out.1, by rw [List.length_set, ← HN.out]; omega, fun x hx => by
        rcases List.mem_or_eq_of_mem_set hx with hx | rfl
        · exact HSZ.out.1 x hx
        · exact HF.out.2.2.2, ⟨_, by omega, HF.out.2.1⟩, HF.out.2.2.1⟩
  by_cases h1 : x = 1
  · subst h1
    have hO := OwnT.lit w2 w.heap.size [] hsw (by simp)
    have hbE : Below w.heap.size w2 (w2.alloc (.cells #[] 9)) := (Below.refl _ _).alloc hsw _
    have HO := Lib.hid (And.intro hO (And.intro (hs2.below hbE hlt) (grown_below hg2 hbE)))
    clear hO hbE hs2 hg2 ho2
    go_wp2_with fail
    go_ret
    exact ⟨_, [], rfl, HO.out.1, by simp, by simp, ⟨_, by omega, HO.out.2.1⟩, HO.out.2.2⟩
  have q0 : ((x : Int) == 0) = false := by simp; omega
  have q1 : ((x : Int) == 1) = false := by simp; omega
  by_cases h2 : x = 2
  · subst h2
    clear q0 q1
    have HO0 : Hid (∃ ys : List ByteArray, OwnT w2 w.heap.size (.slice (some ⟨g, 0, none⟩) n c) ys ∧ ys.length = n ∧ ∀ x ∈ ys, x.size ≤ 20) := ⟨zs, ho2, HN.out.symm, HSZ.out.1⟩
    clear ho2
    go_wp2_with fail
    go_loopw [3] (fun v wr => ∃ (A : Nat) (m d : Nat), v = .slice (some ⟨A, 0, none⟩) m d ∧ 1 ≤ m ∧ m ≤ 7 ∧ Hid (∃ ys : List ByteArray, OwnT wr w.heap.size (.slice (some ⟨A, 0, none⟩) m d) ys ∧ ys.length = m ∧ ∀ x ∈ ys, x.size ≤ 20) ∧ Src wr R (q + 1) ∧ w.grownBy wr (some R)) (fun v _ => 7 - lenV v)
    case atStart => exact ⟨g, n, c, rfl, by omega, by omega, HO0, hs2, hg2⟩
    case round =>
      obtain ⟨A, m, d, rfl, hm1, hm7, HO, hs, hgr⟩ := hrel
      clear HO0 hs2 hg2
      by_cases hm : m < 7
      · have hmm : (m : Int) < 7 := by omega
        obtain ⟨ys, hoy, hly, hsy⟩ := HO.out
        have c0 := hoy.slot (k := 0) (by omega)
        have hz0 : (ys[0]?.getD ByteArray.empty).size ≤ 20 := by rw [List.getElem?_eq_getElem (by omega : 0 < ys.length), Option.getD_some]; exact hsy _ (List.getElem_mem (by omega))
        revert c0 hz0
        generalize ys[0]?.getD ByteArray.empty = z
        intro c0 hz0
        have hly2 : ys.length ≤ 1048576 := by omega
        have hsr := hgr.size
        have HY := Lib.hid (And.intro hly hsy)
        have hmi : (0 : Int) < (m : Int) := by omega
        clear hly hsy HO
        go_wp2_with (at_builtin; go_must (refine wpList_pushT rfl (.tmp 27) (.tmp 31) rfl wr w.heap.size (.slice (some ⟨A, 0, none⟩) m d) ys z rfl rfl hoy hly2 hsr ?_); intro v' w' ho' hg' _)
        have hbz : Below w.heap.size wr w' := (Below.refl _ _).grown hg' hsr (fun r e => (hoy.blockOf r e).1)
        have hs' := hs.below hbz hlt
        have hgz := grown_below hgr hbz
        have hl' : (ys ++ [z]).length = m + 1 := by rw [List.length_append, HY.out.1]; rfl
        obtain ⟨A', d', e'⟩ := ownT_some ho' (by omega)
        rw [hl'] at e'
        subst e'
        have HO' : Hid (∃ ys : List ByteArray, OwnT w' w.heap.size (.slice (some ⟨A', 0, none⟩) (m + 1) d') ys ∧ ys.length = m + 1 ∧ ∀ x ∈ ys, x.size ≤ 20) := ⟨_, ho', hl', fun x hx => by
          rcases List.mem_append.1 hx with hx | hx
          · exact HY.out.2 x hx
          · rw [List.mem_singleton.1 hx]; exact hz0⟩
        clear ho' hg' hoy hbz hs hgr hl'
        go_wp2_with fail
        go_roundw
        case rel => exact ⟨A', m + 1, d', rfl, by omega, by omega, HO', hs', hgz⟩
        case measure => simp [lenV]; omega
      · have hmm : ¬ (m : Int) < 7 := by omega
        obtain ⟨ys, hoy, hly, hsy⟩ := HO.out
        have HY := Lib.hid (And.intro hoy (And.intro hly hsy))
        clear hoy hly hsy HO
        go_wp2_with fail
        go_ret
        exact ⟨_, rfl, ys, HY.out.1, by have := HY.out.2.1; omega, HY.out.2.2, ⟨_, by omega, hs⟩, hgr⟩
  have q2 : ((x : Int) == 2) = false := by simp; omega
  by_cases h3 : x = 3
  · subst h3
    clear q0 q1 q2
    obtain ⟨k, rfl⟩ : ∃ k, n = k + 1 := ⟨n - 1, by omega⟩
    have ck := ho2.slot (k := k) (by omega)
    have fk := ho2.free k
    have hb := ho2.at_base
    have hkz : 1 ≤ (zs[k]?.getD ByteArray.empty).size ∧ (zs[k]?.getD ByteArray.empty).size ≤ 20 := by
      have hkl : k < zs.length := by have := HN.out; omega
      rw [List.getElem?_eq_getElem hkl, Option.getD_some]
      exact ⟨HSZ.out.2.1 _ (List.getElem_mem hkl), HSZ.out.1 _ (List.getElem_mem hkl)⟩
    revert ck hkz
    generalize zs[k]?.getD ByteArray.empty = z
    intro ck hkz
    have hcut := fun W => cut_from (s := z) hkz.1 W
    have h111 : (ByteArray.mk #[111]).size = 1 := rfl
    have hcs : (z.extract 1 z.size).size + 1 = z.size := by rw [ByteArray.size_extract]; omega
    have hq2 : (ByteArray.mk #[111] ++ z.extract 1 z.size).size ≤ 20 := by rw [ByteArray.size_append, h111]; omega
    revert hcut hcs hq2
    generalize z.extract 1 z.size = y
    intro hcut hcs hq2
    have hset := ho2.set_ k (ByteArray.mk #[111] ++ y)
    have hbz : Below w.heap.size w2 (w2.setCell ⟨g, k, none⟩ (.string (ByteArray.mk #[111] ++ y))) := (Below.refl w.heap.size w2).setCell (p := ⟨g, k, none⟩) hb.1 _
    have HX := Lib.hid (And.intro hset (And.intro (hs2.below hbz hlt) (grown_below hg2 hbz)))
    have HZ := Lib.hid (show ∀ x ∈ zs.set k (ByteArray.mk #[111] ++ y), x.size ≤ 20 from fun x hx => by
      rcases List.mem_or_eq_of_mem_set hx with hx | rfl
      · exact HSZ.out.1 x hx
      · exact hq2)
    have hk1 : ((k : Int) + 1) - 1 = (k : Int) := by omega
    clear hset hbz ho2 hs2 hg2 hb
    go_wp2_with fail
    go_ret
    exact ⟨_, _, rfl, HX.out.1, by rw [List.length_set, ← HN.out]; omega, HZ.out, ⟨_, by omega, HX.out.2.1⟩, HX.out.2.2⟩
  have q3 : ((x : Int) == 3) = false := by simp; omega
  go_wp2_with fail
  go_ret
  exact ⟨_, zs, rfl, ho2, by rw [← HN.out]; omega, HSZ.out.1, ⟨_, by omega, hs2⟩, hg2⟩
end Go.Proofs.YtecleelcnjhimaaDoor
