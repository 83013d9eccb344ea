/- The walk of the law on useful pairs in any order: for every row of bytes the law returns true and nothing that was there has turned. -/
import Derived.Test.YtfafgihfgdpclaaJoinAll
import Derived.Test.YtfafgihfgdpclaaSpecAll
import Derived.Test.YtfafgihfgdpclaaDraw11
import Derived.Test.YtfafgihfgdpclaaAnyOrder
import Derived.Deep.RegionHeld3
import Derived.IntWalk
namespace Go.Proofs.Ytfafgihfgdpclaa
open Go.RowKit

theorem OwnQ.empty2 (t : TypeId) (w : World) : OwnQ t ((w.alloc (.cells #[] t)).alloc (.cells #[] t)) w.heap.size (.slice (some ⟨w.heap.size, 0, none⟩) 0 0) [] ∧ OwnQ t ((w.alloc (.cells #[] t)).alloc (.cells #[] t)) w.heap.size (.slice (some ⟨w.heap.size + 1, 0, none⟩) 0 0) [] := by
  refine ⟨(OwnQ.empty t w _ (Nat.le_refl _)).alloc _, ?_⟩
  have := OwnQ.empty t (w.alloc (.cells #[] t)) w.heap.size (by simp)
  simpa using this
set_option maxRecDepth 100000 in
set_option maxHeartbeats 16000000 in
theorem fnAnyOrder (A0 : Option Addr) (n0 c0 : Nat) (z0 : List Int) (w : World) (h0 : Row .u8 w A0 n0 c0 z0) :
    Calls Try.prog 5 #[.slice A0 n0 c0] w fun e w' => e = .returned (.bool true) ∧ Below w.heap.size w w' := by
  by_cases hl0 : 1048576 < n0
  · clear h0
    go_enter Try.func5, Try.ntmps5
    go_wp2
    go_ret
    exact ⟨rfl, Below.refl _ _⟩
  obtain ⟨b0, hc0⟩ := h0.bt
  have D0 := Lib.hid (drawCount_any A0 n0 c0 w.heap.size z0 w b0 (Nat.le_refl _) hc0)
  clear h0 b0 hc0
  go_enter Try.func5, Try.ntmps5
  go_wp2_with fail
  refine D0.out.mono ?_
  rintro e w1 ⟨n, v, qs, rfl, hn17, hq, hlq, hb1⟩
  obtain ⟨A', c', rfl, hrq⟩ := hq.form
  obtain ⟨m, hm⟩ : ∃ m, m = qs.length := ⟨_, rfl⟩
  rw [← hm] at hrq hlq
  rw [← hm]
  clear hq D0
  have IC := Lib.hid (fun (w2 : World) (hb2 : Below w1.heap.size w1 w2) => implCount_any (n : Int) A' m c' w1.heap.size qs w2 (hrq.below hb2 (Nat.le_refl _)) hb2.size (by omega))
  have SC := Lib.hid (fun (w2 : World) (hb2 : Below w1.heap.size w1 w2) => specCount_any (n : Int) A' m c' w1.heap.size qs w2 (hrq.below hb2 (Nat.le_refl _)) hb2.size (by omega))
  cases hv : usB (n : Int) qs with
  | false =>
    have hz : ccN (n : Int) qs = -1 := by unfold ccN; rw [hv]; simp
    rw [hz] at IC SC
    clear hv hz hm hrq
    go_wp2_with fail
    refine (IC.out _ (by repeat (first | assumption | exact Below.refl _ _ | refine Below.on ?_ (by assumption)))).mono ?_
    rintro e w2 ⟨rfl, hb2⟩
    go_wp2_with fail
    refine (SC.out _ (by repeat (first | assumption | exact Below.refl _ _ | refine Below.on ?_ (by assumption)))).mono ?_
    rintro e w3 ⟨rfl, hb3⟩
    go_wp2_with fail
    refine (SC.out _ (by repeat (first | assumption | exact Below.refl _ _ | refine Below.on ?_ (by assumption)))).mono ?_
    rintro e w4 ⟨rfl, hb4⟩
    go_wp2_with fail
    go_ret
    exact ⟨rfl, (by repeat (first | assumption | exact Below.refl _ _ | refine Below.on ?_ (by assumption)))⟩
  | true =>
    obtain ⟨hn, hk⟩ := usB_parts hv
    obtain ⟨r1, r2⟩ := rev_rows hv
    have m1 := mirQ_rows hv
    obtain ⟨k1, k2⟩ := cc_rows hv
    have hm24 : m ≤ 24 := by have := (okQ_parts hk).1; omega
    have hcn : ccN (n : Int) qs = (n : Int) - ((usN (n : Int) qs).length : Int) := by rw [k1]; omega
    obtain ⟨z, hz⟩ : ∃ z, z = (usN (n : Int) qs).length := ⟨_, rfl⟩
    have hzn : z ≤ n := by omega
    rw [← hz] at hcn r2
    rw [hcn] at IC SC m1
    obtain ⟨rv, hrv⟩ : ∃ rv, rv = qs.reverse := ⟨_, rfl⟩
    obtain ⟨mv, hmv⟩ : ∃ mv, mv = mirQ (n : Int) qs := ⟨_, rfl⟩
    rw [← hrv] at r1 r2
    rw [← hmv] at m1
    have HRL : Hid (rv.length = m) := by show _ = _; rw [hrv, List.length_reverse, hm]
    have HML : Hid (mv.length = m) := by show _ = _; rw [hmv, mirQ_len, hm]
    have HRA : Hid (∀ j, j < m → rv[m - (j + 1)]?.getD (0, 0) = qs[j]?.getD (0, 0)) := fun j hj => by rw [hrv, hm]; exact rev_at (by omega)
    have HMA : Hid (∀ j, j < m → mv[m - (j + 1)]?.getD (0, 0) = ((n : Int) - 1 - (qs[j]?.getD (0, 0)).2, (n : Int) - 1 - (qs[j]?.getD (0, 0)).1)) := fun j hj => by rw [hmv, hm]; exact mirQ_at (by omega)
    have HRG : Hid (∀ j, j < m → (0 ≤ (qs[j]?.getD (0, 0)).1 ∧ (qs[j]?.getD (0, 0)).1 < (n : Int)) ∧ 0 ≤ (qs[j]?.getD (0, 0)).2 ∧ (qs[j]?.getD (0, 0)).2 < (n : Int)) := fun j hj => by
      rw [List.getElem?_eq_getElem (by omega)]
      exact (okQ_parts hk).2 _ (List.getElem_mem _)
    have US : Hid (∀ (A5 : Option Addr) (c5 : Nat) (w2 : World), RdQ w2 w2.heap.size A5 m rv → Calls Try.prog 31 #[.int .i64 (n : Int), .slice A5 m c5] w2 fun e w' => ∃ A c, e = .returned (.tuple #[.slice A z c, .bool true]) ∧ Below w2.heap.size w2 w') := fun A5 c5 w2 h5 => by
      have := rd2_of (implUseful_any (n : Int) A5 m c5 w2.heap.size rv w2 h5 (Nat.le_refl _) (by omega))
      rw [r1, r2] at this
      exact this.mono fun _ _ ⟨A, c, e, _, hb⟩ => ⟨A, c, e, hb⟩
    have CM : Hid (∀ (A5 : Option Addr) (c5 : Nat) (w2 : World), RdQ w2 w2.heap.size A5 m mv → Calls Try.prog 26 #[.int .i64 (n : Int), .slice A5 m c5] w2 fun e w' => e = .returned (.int .i64 ((n : Int) - (z : Int))) ∧ Below w2.heap.size w2 w') := fun A5 c5 w2 h5 => by
      have := implCount_any (n : Int) A5 m c5 w2.heap.size mv w2 h5 (Nat.le_refl _) (by omega)
      rw [m1] at this
      exact this
    have HQ := Lib.hid hrq
    have q1 : (((n : Int) - (z : Int)) != (n : Int) - (z : Int)) = false := by simp
    have q2 : ¬ ((n : Int) - (z : Int)) < 0 := by omega
    have q3 : ((z : Int) == (n : Int) - ((n : Int) - (z : Int))) = true := by rw [beq_iff_eq]; omega
    have q4 : (((n : Int) - (z : Int)) == (n : Int) - (z : Int)) = true := by simp
    have hnn := hn.2
    clear hv hn hk r1 r2 m1 k1 k2 hcn hz hrv hmv hm hrq
    go_wp2_with fail
    refine (IC.out _ (by repeat (first | assumption | exact Below.refl _ _ | refine Below.on ?_ (by assumption)))).mono ?_
    rintro e w2 ⟨rfl, hb2⟩
    go_wp2_with fail
    refine (SC.out _ (by repeat (first | assumption | exact Below.refl _ _ | refine Below.on ?_ (by assumption)))).mono ?_
    rintro e w4 ⟨rfl, hb4⟩
    obtain ⟨h5a, h5b⟩ := OwnQ.empty2 41 w4
    have HE : Hid (∃ A5 c5 A6 c6, (Value.slice (some ⟨w4.heap.size, 0, none⟩) 0 0) = .slice A5 (m - m) c5 ∧ (Value.slice (some ⟨w4.heap.size + 1, 0, none⟩) 0 0) = .slice A6 (m - m) c6 ∧ OwnQ 41 ((w4.alloc (.cells #[] 41)).alloc (.cells #[] 41)) w4.heap.size (.slice A5 (m - m) c5) (rv.take (m - m)) ∧ OwnQ 41 ((w4.alloc (.cells #[] 41)).alloc (.cells #[] 41)) w4.heap.size (.slice A6 (m - m) c6) (mv.take (m - m)) ∧ ∀ x, (Value.slice A5 (m - m) c5).ownBlock = some x → ∀ y, (Value.slice A6 (m - m) c6).ownBlock = some y → x ≠ y) := by
      refine ⟨some ⟨w4.heap.size, 0, none⟩, 0, some ⟨w4.heap.size + 1, 0, none⟩, 0, ?_⟩
      rw [Nat.sub_self]
      refine ⟨rfl, rfl, h5a, h5b, fun x hx y hy => ?_⟩
      simp [Value.ownBlock] at hx hy
      omega
    have hb5 : Below w4.heap.size w4 ((w4.alloc (.cells #[] 41)).alloc (.cells #[] 41)) := ((Below.refl _ _).alloc (Nat.le_refl _) _).alloc (by simp) _
    clear h5a h5b IC SC
    go_wp2_with fail
    go_loopw [6, 7, 8] (fun bv tv i wr => ∃ j : Nat, j ≤ m ∧ i = .int .i64 ((j : Int) - 1) ∧ Hid (∃ A5 c5 A6 c6, bv = .slice A5 (m - j) c5 ∧ tv = .slice A6 (m - j) c6 ∧ OwnQ 41 wr w4.heap.size (.slice A5 (m - j) c5) (rv.take (m - j)) ∧ OwnQ 41 wr w4.heap.size (.slice A6 (m - j) c6) (mv.take (m - j)) ∧ ∀ x, (Value.slice A5 (m - j) c5).ownBlock = some x → ∀ y, (Value.slice A6 (m - j) c6).ownBlock = some y → x ≠ y) ∧ Below w4.heap.size w4 wr) (fun _ _ i _ => (intOf i + 1).toNat)
    case atStart => exact ⟨m, Nat.le_refl _, rfl, HE, hb5⟩
    case round =>
      obtain ⟨j, hj, rfl, HB, hbe⟩ := hrel
      clear HE hb5
      obtain ⟨A5, c5, A6, c6, rfl, rfl, hob, hot, hdis⟩ := HB.out
      clear HB
      rcases (show j = 0 ∨ ∃ i, j = i + 1 from by cases j with | zero => exact .inl rfl | succ i => exact .inr ⟨i, rfl⟩) with rfl | ⟨i, rfl⟩
      · have e0 : (((0 : Nat) : Int) - 1) = -1 := by omega
        rw [e0]
        rw [Nat.sub_zero, List.take_of_length_le (by have := HRL.out; omega)] at hob
        rw [Nat.sub_zero, List.take_of_length_le (by have := HML.out; omega)] at hot
        rw [Nat.sub_zero]
        have HOB := Lib.hid hob.rd
        have HOT := Lib.hid hot.rd
        clear hob hot hdis e0
        go_wp2_with fail
        refine (US.out A5 c5 wr HOB.out).mono ?_
        rintro e w6 ⟨A7, c7, rfl, hb6⟩
        go_wp2_with fail
        refine (CM.out A6 c6 w6 (HOT.out.to hb6)).mono ?_
        rintro e w7 ⟨rfl, hb7⟩
        go_wp2_with fail
        go_ret
        exact ⟨rfl, (by repeat (first | assumption | exact Below.refl _ _ | refine Below.on ?_ (by assumption)))⟩
      · have e0 : (((i + 1 : Nat) : Int) - 1) = (i : Int) := by omega
        rw [e0]
        have hb1r : Below w1.heap.size w1 wr := (by repeat (first | assumption | exact Below.refl _ _ | refine Below.on ?_ (by assumption)))
        have hs14 : w1.heap.size ≤ w4.heap.size := by have h : Below w1.heap.size w1 w4 := (by repeat (first | assumption | exact Below.refl _ _ | refine Below.on ?_ (by assumption))); exact h.size
        obtain ⟨b0, off, rfl, hlb, hc1⟩ := (HQ.out.below hb1r (Nat.le_refl _)).2 (by omega)
        obtain ⟨g1, g2⟩ := hc1 i (by omega)
        have hkk : (i : Int) < (m : Int) := by omega
        have hi0 : 0 ≤ (i : Int) := by omega
        have hrg := HRG.out i (by omega)
        obtain ⟨a, ha⟩ : ∃ a, a = (qs[i]?.getD (0, 0)).1 := ⟨_, rfl⟩
        obtain ⟨b, hb⟩ : ∃ b, b = (qs[i]?.getD (0, 0)).2 := ⟨_, rfl⟩
        rw [← ha, ← hb] at hrg
        obtain ⟨⟨ha0, han⟩, hb0, hbn⟩ := hrg
        have HTR : Hid (rv.take (m - i) = rv.take (m - (i + 1)) ++ [(a, b)]) := by
          show _ = _
          have := take_snoc (ps := rv) (k := m - (i + 1)) (by have := HRL.out; omega) (0, 0)
          rw [HRA.out i (by omega), show qs[i]?.getD (0, 0) = (a, b) by rw [ha, hb], show m - (i + 1) + 1 = m - i by omega] at this
          exact this
        have HTM : Hid (mv.take (m - i) = mv.take (m - (i + 1)) ++ [((n : Int) - 1 - b, (n : Int) - 1 - a)]) := by
          show _ = _
          have := take_snoc (ps := mv) (k := m - (i + 1)) (by have := HML.out; omega) (0, 0)
          rw [HMA.out i (by omega), ← ha, ← hb, show m - (i + 1) + 1 = m - i by omega] at this
          exact this
        rw [← ha] at g1
        rw [← hb] at g2
        have hlen1 : (rv.take (m - (i + 1))).length ≤ 1048576 := by rw [List.length_take]; omega
        have hlen2 : (mv.take (m - (i + 1))).length ≤ 1048576 := by rw [List.length_take]; omega
        have hs4 : w4.heap.size ≤ wr.heap.size := hbe.size
        have hblk := hob.blockOf
        have hblt := hot.blockOf
        have HDIS := Lib.hid hdis
        have HOT := Lib.hid hot
        clear hc1 ha hb hb1r e0 hdis hot
        go_wp2_with (at_builtin; go_must (refine wpList_pushQ rfl (.tmp 45) (.tmp 50) rfl wr w4.heap.size (.slice A5 (m - (i + 1)) c5) (rv.take (m - (i + 1))) a b rfl rfl hob hlen1 hs4 ?_); intro v' w6 ho6 hg6 hrow6; obtain ⟨A7, c7, rfl, _⟩ := ho6.form)
        have hne : ∀ q, (Value.slice A5 (m - (i + 1)) c5).ownBlock = some q → b0 ≠ q := fun q hq e => by have := (hblk q hq).1; omega
        have g3 := cell_grown hg6 g1 hne
        have g4 := cell_grown hg6 g2 hne
        have hb6 : Below w4.heap.size w4 w6 := hbe.grown hg6 hs4 (fun r e => (hblk r e).1)
        have hot6 : OwnQ 41 w6 w4.heap.size (.slice A6 (m - (i + 1)) c6) (mv.take (m - (i + 1))) := HOT.out.kept hg6 (by
          cases hb : (Value.slice A6 (m - (i + 1)) c6).ownBlock with
          | none => exact .inl rfl
          | some y => exact .inr fun e => HDIS.out y e.symm y hb rfl)
        have hl6 : min (m - (i + 1)) rv.length + 1 = m - i := by have := HRL.out; omega
        rw [List.length_append, List.length_singleton, List.length_take, hl6, ← HTR.out] at ho6
        rw [List.length_append, List.length_singleton, List.length_take, hl6] at hrow6
        have hdis6 : ∀ x, (Value.slice A7 (m - i) c7).ownBlock = some x → ∀ y, (Value.slice A6 (m - (i + 1)) c6).ownBlock = some y → x ≠ y := fun x hx y hy e => by
          rcases hrow6 with hrow | ⟨g, hg, hge⟩
          · exact HDIS.out x (hrow ▸ hx) y hy e
          · rw [hg] at hx
            injection hx with hx
            have := (hblt y hy).2
            omega
        have HO6 := Lib.hid ho6
        have HD6 := Lib.hid hdis6
        have hs46 : w4.heap.size ≤ w6.heap.size := hb6.size
        have hbx6 := ho6.blockOf
        have hblt6 := hot6.blockOf
        have hne2 : ∀ q, (Value.slice A6 (m - (i + 1)) c6).ownBlock = some q → b0 ≠ q := fun q hq e => by have := (hblt6 q hq).1; omega
        clear g1 g2 hg6 ho6 hdis6 hrow6 hob HOT HDIS hbe hblk hblt hne
        rw [hl6]
        have x1 : IntKind.i64.wrap ((n : Int) - 1) = (n : Int) - 1 := IntWalk.i64_in _ (by omega)
        have x2 : IntKind.i64.wrap ((n : Int) - 1 - b) = (n : Int) - 1 - b := IntWalk.i64_in _ (by omega)
        have x3 : IntKind.i64.wrap ((n : Int) - 1 - a) = (n : Int) - 1 - a := IntWalk.i64_in _ (by omega)
        go_region_held3 (fun w' => w'.cell? ⟨b0, off + i * 2, none⟩ = some (.int .i64 a) ∧ w'.cell? ⟨b0, off + i * 2 + 1, none⟩ = some (.int .i64 b))
          (first | assumption | exact ⟨by assumption, by assumption⟩ | exact cells2_drew ⟨by assumption, by assumption⟩ | exact cells2_alloc (by assumption) | exact cells2_alloc (cells2_drew ⟨by assumption, by assumption⟩))
          ((refine step_pushQ (by rfl) (.tmp 52) (.tmp 70) (by rfl) w6.drew _ w4.heap.size (.slice A6 (m - (i + 1)) c6) (mv.take (m - (i + 1))) ((n : Int) - 1 - b) ((n : Int) - 1 - a) (by rfl) (by rfl) (by rfl) hot6 hlen2 hs46 ?_; intro v' w8 ho8 hg8 hrow8; obtain ⟨A9, c9, rfl, _⟩ := ho8.form; have hS6 := And.intro (cell_grown hg8 g3 hne2) (cell_grown hg8 g4 hne2)))
        clear x1 x2 x3 g3 g4
        have hb8 : Below w4.heap.size w4 w8 := (below_drew1 hb6).grown hg8 hs46 (fun r e => (hblt6 r e).1)
        have hl8 : min (m - (i + 1)) mv.length + 1 = m - i := by have := HML.out; omega
        rw [List.length_append, List.length_singleton, List.length_take, hl8, ← HTM.out] at ho8
        rw [List.length_append, List.length_singleton, List.length_take, hl8] at hrow8
        have hob8 : OwnQ 41 w8 w4.heap.size (.slice A7 (m - i) c7) (rv.take (m - i)) := OwnQ.kept (w := w6.drew) HO6.out hg8 (by
          cases hb : (Value.slice A7 (m - i) c7).ownBlock with
          | none => exact .inl rfl
          | some x => exact .inr fun e => HD6.out x hb x e.symm rfl)
        have HN : Hid (∃ A5 c5 A6 c6, (Value.slice A7 (m - i) c7) = .slice A5 (m - i) c5 ∧ (Value.slice A9 (m - i) c9) = .slice A6 (m - i) c6 ∧ OwnQ 41 w8 w4.heap.size (.slice A5 (m - i) c5) (rv.take (m - i)) ∧ OwnQ 41 w8 w4.heap.size (.slice A6 (m - i) c6) (mv.take (m - i)) ∧ ∀ x, (Value.slice A5 (m - i) c5).ownBlock = some x → ∀ y, (Value.slice A6 (m - i) c6).ownBlock = some y → x ≠ y) := ⟨A7, c7, A9, c9, rfl, rfl, hob8, ho8, fun x hx y hy e => by
          rcases hrow8 with hrow | ⟨g, hg, hge⟩
          · exact HD6.out x hx y (hrow ▸ hy) e
          · rw [hg] at hy
            injection hy with hy
            have := (hbx6 x hx).2
            have : w6.drew.heap.size = w6.heap.size := rfl
            omega⟩
        clear ho8 hg8 hob8 hrow8 HO6 HD6 HTR HTM hb6
        rw [hl8]
        go_wp2
        go_roundw
        case rel => exact ⟨i, by omega, rfl, HN, hb8⟩
        case measure => simp [intOf]
end Go.Proofs.Ytfafgihfgdpclaa
