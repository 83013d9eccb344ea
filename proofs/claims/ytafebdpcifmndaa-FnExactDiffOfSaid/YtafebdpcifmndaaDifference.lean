/- How much an item is more than another one, of the program. -/
import Derived.Test.YtafebdpcifmndaaTelling
import Derived.Test.YtafebdpcifmndaaDiffer
import Derived.BigRegionIn
namespace Go.Proofs.Ytafebdpcifmndaa
open Go.RowKit Go.Shelf
attribute [local go_sem] Oper.semAt_some

set_option maxRecDepth 100000 in
set_option maxHeartbeats 4000000 in
theorem over_in (n : Nat) (hn : 3 ≤ n)
    (Q T J M N m Kp i : Nat) (sz ht : Nat → Nat) (u bs : List Int) (w : World) (h : TellSt w Q T J M N m sz ht u bs) (hK : w.cell? ⟨Kp, 0, none⟩ = some (.pointer (some ⟨Q, 0, none⟩))) (hby : ∀ k, k < bs.length → -16000 ≤ bs[k]?.getD 0 ∧ bs[k]?.getD 0 ≤ 16000) (hi : i < m) :
    CallsIn Fence.wide n Try.prog 183 #[.int .i64 (i : Int), .pointer (some ⟨Kp, 0, none⟩)] w fun e w' => e = .returned (.int .i64 (overI u bs i)) ∧ Below w.heap.size w w' := by
  have h1 : 1 ≤ n := by omega
  have hro : Fence.wide.round = none := rfl
  have h65 : Fence.wide.fn 162 := trivial
  have hlen := h.len
  have hlen2 := h.len2
  have hfv := h.fv
  have hb := fv_in hfv
  have hys := fv_path hfv (i := i) (by omega)
  have h16 := (fv_parts hfv).2.1
  have hyl := (fv_parts hfv).2.2.2 i (by omega)
  obtain ⟨ys, hY⟩ : ∃ ys, ys = way u u.length i := ⟨_, rfl⟩
  have hov : overI u bs i = overL bs ys := by rw [hY]; rfl
  rw [← hY] at hys hyl
  rw [hov]
  have hN := h.nd.nodes
  have hNl := h.nd.lt
  obtain ⟨⟨a1, a2⟩, _⟩ := boxTwo_cells h.at_
  obtain ⟨⟨i1, _⟩, _⟩ := h.items.cells hi
  rw [if_pos hi] at i1
  obtain ⟨⟨m1, _⟩, _⟩ := h.mem.cells hi
  rw [if_pos hi] at m1
  have him : (i : Int) < (m : Int) := by omega
  have hm16 : (m : Int) ≤ 16 := by omega
  have m1 : w.cell? ⟨M, i * 3, none⟩ = some (.pointer (some ⟨N, i * 2, none⟩)) := m1
  have a2b := fun (o : Obj) => cell_past o a2
  have i1b := fun (o : Obj) => cell_past o i1
  have m1b := fun (o : Obj) => cell_past o m1
  have Kb := fun (o : Obj) => cell_past o hK
  refine callsIn_of_wp_marks Try.func183 rfl trivial ?_ hro
  simp only [Try.ntmps183, List.size_toArray, List.length_cons, List.length_nil, Nat.reduceAdd, Nat.reduceSub, Array.replicate_succ, Array.replicate_zero, List.push_toArray, List.append_toArray, List.nil_append, List.cons_append]
  gi_wp2_with (gi_at_call 162; refine (wayUp_in _ (n - 1) trivial hro _ ⟨_, rfl⟩ _).mono ?_; rintro e w' ⟨rfl, rfl⟩)
  obtain ⟨W0, hW0, bL, bP, hBw, hs0⟩ := boxes2 w 3 (.int .i64 (overL bs [])) 128 (.pointer (some (nadr N i)))
  have hW0' : W0 = (w.alloc (.cells #[.int .i64 0] 3)).alloc (.cells #[.pointer (some ⟨N, i * 2, none⟩)] 128) := hW0
  rw [← hW0']
  clear hW0 hW0' a2b i1b m1b Kb
  have hKl := World.block_lt_of_cell? _ _ hK
  have hQl := h.lt
  have HT := Lib.hid h
  have HBY := Lib.hid hby
  have HK := Lib.hid hK
  refine wpIn_rangeFunc_seqOf hro h1 (gf := 184) (lb := #[.pointer (some ⟨w.heap.size + 1, 0, none⟩)]) rfl trivial (enters_of Try.func184 (by kernel_rfl) rfl)
    (up_seq Fence.wide (n - 1) trivial hro (by omega) (w.heap.size + 1) w.heap.size N i ys.length u W0 bP.cell (by omega) (hN.below hBw hNl) hNl (by omega) hb (by omega)) belowK_t (belowK_b (by omega)) (fun _ => rfl)
    (fun pre W => Boxed W w.heap.size 3 (.int .i64 (overL bs pre)) ∧ Below w.heap.size w W)
    (fun _ _ _ => False)
    (OwnFrom.and (Go.Own.from (boxed_own _ _ _) _) (ownFrom_below (by omega) (by omega)))
    (fun _ _ _ _ _ hs _ _ => hs)
    (fun pre W hp _ => by obtain ⟨o, hp⟩ := hp; exact path_end hys hp) ⟨bL, hBw⟩
    (fun x => { tmps := #[.int .i64 (i : Int), .pointer (some ⟨Kp, 0, none⟩), undef, .int .i64 0, .pointer (some ⟨w.heap.size, 0, none⟩), .pointer (some (nadr N x)), .pointer (some ⟨Q, 0, none⟩), .pointer (some ⟨Q, 0, none⟩), .pointer (some ⟨Q, 1, none⟩), .slice (some ⟨T, 0, none⟩) m m, .int .i64 (i : Int), .pointer (some ⟨T, i * 2, none⟩), .pointer (some ⟨T, i * 2, none⟩), .pointer (some ⟨M, i * 3, none⟩), .pointer (some ⟨M, i * 3, none⟩), .pointer (some ⟨M, i * 3, none⟩), .pointer (some ⟨N, i * 2, none⟩), .func (.func 184) #[] #[.pointer (some ⟨w.heap.size + 1, 0, none⟩)], .pointer (some (nadr N x)), undef, undef, undef, undef, undef, undef, undef, undef, undef, undef, undef, undef, undef, undef], defers := [] }) ?assign ?body ?done ?stop
  case assign =>
    intro l x W K hK
    gi_wp2
    exact hK
  case body =>
    rintro l pre x W ⟨hL, hBe⟩ ⟨o, hp⟩ hsz
    have hx : x < u.length := path_lt hb (fun j hj => by cases hj; omega) (path_last hp).1
    have hpl := path_end hys hp
    rw [List.length_append] at hpl
    have hpl2 : pre.length ≤ 16 := by simp at hpl; omega
    have hsl := overL_le HBY.out pre
    have cL := hL.cell
    have fL := hL.frozen
    have cN := ((hN.below hBe hNl) x hx).1
    have hTW := HT.out.below hBe HT.out.lt
    obtain ⟨⟨b1, b2⟩, _⟩ := boxTwo_cells hTW.at_
    obtain ⟨⟨_, j2⟩, _⟩ := hTW.items.cells (x := x) (by omega)
    rw [if_pos (by omega)] at j2
    have cK : W.cell? ⟨Kp, 0, none⟩ = some (.pointer (some ⟨Q, 0, none⟩)) := (hBe.cell (p := ⟨Kp, 0, none⟩) hKl).trans HK.out
    have hxm : (x : Int) < (m : Int) := by omega
    have hzl := HBY.out x (by omega)
    have hs := overL_snoc bs pre x
    obtain ⟨s, hse⟩ : ∃ s, s = overL bs pre := ⟨_, rfl⟩
    obtain ⟨z, hze⟩ : ∃ z, z = bs[x]?.getD 0 := ⟨_, rfl⟩
    rw [← hse] at hsl hs cL hL
    rw [← hze] at hzl hs j2
    have s1 : -256000 ≤ s := by omega
    have s2 : s ≤ 256000 := by omega
    obtain ⟨z1, z2⟩ := hzl
    have HS := Lib.hid hs
    have HL := Lib.hid hL
    have HBe := Lib.hid hBe
    clear hs hse hze hp hpl hpl2 hsl hL hBe hTW
    unfold nadr
    gi_wp2_with fail
    refine wpIn_region_tail 13 (by kernel_rfl) (by kernel_rfl) (by kernel_rfl) (by rintro ⟨_, _, h⟩; exact h) ?_
    simp only [List.take_succ_cons, List.take_zero, List.drop_succ_cons, List.drop_zero]
    repeat still_step
    refine wpStill_nil ?_
    go_wp2
    have hg := HBe.out.setCell (p := ⟨w.heap.size, 0, none⟩) (Nat.le_refl _) (.int .i64 (s + z))
    have hg2 := (Below.refl w.heap.size W).setCell (p := ⟨w.heap.size, 0, none⟩) (Nat.le_refl _) (.int .i64 (s + z))
    have hk : KeepsFrom W0.heap.size W (W.setCell ⟨w.heap.size, 0, none⟩ (.int .i64 (s + z))) := (KeepsOthers.setCell W _ _).from _
    refine ⟨⟨hk.1, hk.2⟩, ⟨hg2.os, hg2.tape, hg2.output, hg2.size, hg2.block⟩, ?_, ⟨hg.os, hg.tape, hg.output, hg.size, hg.block⟩⟩
    rw [HS.out]
    exact HL.out.set _
  case done =>
    rintro D zs W hD hS ⟨hL, hBe⟩ hK
    obtain rfl : zs = ys := path_uniq hS hys
    have cL := hL.cell
    gi_wp2
    refine ⟨by simp, .inl ⟨_, _, rfl, run_takeDeferred hK, ?_⟩⟩
    exact ⟨_, results_tmp rfl _ _ _, rfl, hBe.trans (belowK_b (w := w) (Nat.le_refl _) W D _ _ (by omega) hK rfl rfl)⟩
  case stop =>
    rintro D q pre W _ _ h _
    exact h.elim
theorem over_any (Q T J M N m Kp i : Nat) (sz ht : Nat → Nat) (u bs : List Int) (w : World) (h : TellSt w Q T J M N m sz ht u bs) (hK : w.cell? ⟨Kp, 0, none⟩ = some (.pointer (some ⟨Q, 0, none⟩))) (hby : ∀ k, k < bs.length → -16000 ≤ bs[k]?.getD 0 ∧ bs[k]?.getD 0 ≤ 16000) (hi : i < m) :
    Calls Try.prog 183 #[.int .i64 (i : Int), .pointer (some ⟨Kp, 0, none⟩)] w fun e w' => e = .returned (.int .i64 (overI u bs i)) ∧ Below w.heap.size w w' :=
  (callsIn_wide (n := 3)).1 (over_in 3 (by omega) Q T J M N m Kp i sz ht u bs w h hK hby hi)
theorem overI_le2 {u bs : List Int} (hv : fvB u = true) (hby : ∀ k, k < bs.length → -16000 ≤ bs[k]?.getD 0 ∧ bs[k]?.getD 0 ≤ 16000) {i : Nat} (hi : i < u.length) : -256000 ≤ overI u bs i ∧ overI u bs i ≤ 256000 := by
  obtain ⟨_, h16, _, hw⟩ := fv_parts hv
  have h1 := overL_le hby (way u u.length i)
  have h2 := hw i hi
  unfold overI
  omega
set_option maxHeartbeats 2000000 in
theorem difference_any (Q T J M N m a b : Nat) (sz ht : Nat → Nat) (u bs : List Int) (w : World) (h : TellSt w Q T J M N m sz ht u bs) (hby : ∀ k, k < bs.length → -16000 ≤ bs[k]?.getD 0 ∧ bs[k]?.getD 0 ≤ 16000) (ha : a < m) (hb : b < m) :
    Calls Try.prog 154 #[.pointer (some ⟨Q, 0, none⟩), .int .i64 (a : Int), .int .i64 (b : Int)] w fun e w' => e = .returned (.int .i64 (overI u bs b - overI u bs a)) ∧ Below w.heap.size w w' := by
  obtain ⟨W, hW⟩ : ∃ W, W = w.alloc (.cells #[.pointer (some ⟨Q, 0, none⟩)] 172) := ⟨_, rfl⟩
  have hbW : Below w.heap.size w W := by rw [hW]; exact (Below.refl _ _).alloc (Nat.le_refl _) _
  have hB : Boxed W w.heap.size 172 (.pointer (some ⟨Q, 0, none⟩)) := by rw [hW]; exact Boxed.new w _ _
  obtain ⟨P, hP⟩ : ∃ P, P = w.heap.size := ⟨_, rfl⟩
  rw [← hP] at hB
  have hlt := hB.lt
  have hlen := h.len
  have OA := overI_le2 h.fv hby (show a < u.length by omega)
  have OB := overI_le2 h.fv hby (show b < u.length by omega)
  obtain ⟨ov, hov⟩ : ∃ ov, ov = overI u bs := ⟨_, rfl⟩
  have OV : Hid (∀ (z : Nat), Hid (z < m) → ∀ w8, Below W.heap.size W w8 → Calls Try.prog 183 #[.int .i64 (z : Int), .pointer (some ⟨P, 0, none⟩)] w8 fun e w' => e = .returned (.int .i64 (ov z)) ∧ Below w8.heap.size w8 w') := fun z hz w8 h8 => by
    rw [hov]
    exact over_any Q T J M N m P z sz ht u bs w8 ((h.below hbW h.lt).below h8 (by have := h.lt; have := hbW.size; omega)) ((h8.cell (p := ⟨P, 0, none⟩) hlt).trans hB.cell) hby hz.out
  rw [← hov] at OA OB ⊢
  have HA := Lib.hid ha
  have HB := Lib.hid hb
  have HW := Lib.hid hbW
  have HE := Lib.hid (And.intro hW hP)
  obtain ⟨oa1, oa2⟩ := OA
  obtain ⟨ob1, ob2⟩ := OB
  have hwr : IntKind.i64.wrap (ov b - ov a) = ov b - ov a := IntWalk.i64_in _ (by omega)
  clear h hby ha hb hW hbW hB hP hlt hlen hov
  go_enter Try.func154, Try.ntmps154
  go_wp2_with fail
  rw [← HE.out.1, ← HE.out.2]
  refine (OV.out b HB W (Below.refl _ _)).mono ?_
  rintro e w1 ⟨rfl, hb1⟩
  have H1 := Lib.hid hb1
  clear hb1
  go_wp2_with fail
  refine (OV.out a HA w1 H1.out).mono ?_
  rintro e w2 ⟨rfl, hb2⟩
  have H2 := Lib.hid (Below.on HW.out (Below.on H1.out hb2))
  clear hb2
  go_wp2_with fail
  go_ret
  exact ⟨rfl, H2.out⟩
end Go.Proofs.Ytafebdpcifmndaa
