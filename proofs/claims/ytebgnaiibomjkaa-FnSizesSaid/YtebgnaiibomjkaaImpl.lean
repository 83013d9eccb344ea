/- The program's functions of chapter 1 that answer a number or a truth: nodeOf, ForestValid, RootOf, Together, DeepestOf. Condition: lengths up to 1048576. -/
import Derived.Test.YtebgnaiibomjkaaNodes
import Derived.WalkSpells
import Derived.WalkLawsBesides
namespace Go.Proofs.Ytebgnaiibomjkaa
open Go.RowKit

set_option maxRecDepth 100000 in
set_option maxHeartbeats 1000000 in
theorem implValid_any (A : Option Addr) (n c B0 : Nat) (zs : List Int) (w : World) (h : Rd w B0 A n zs) (hB0 : B0 ≤ w.heap.size) (hb : n ≤ 1048576) :
    Calls Try.prog 22 #[.slice A n c] w fun e w' => e = .returned (.bool (fvB zs)) ∧ Below w.heap.size w w' := by
  have R := Lib.hid (nodesOf_any A n c B0 zs w h hB0 hb)
  go_enter Try.func22, Try.ntmps22
  go_wp2_with fail
  refine R.out.mono ?_
  rintro e w1 ⟨hb1, ⟨hv, rfl⟩ | ⟨hv, rfl, _, _⟩⟩
  · have HV := Lib.hid hv
    clear hv
    go_wp2
    go_ret
    exact ⟨ret_bool HV.out.symm, hb1⟩
  · have HV := Lib.hid hv
    clear hv
    go_wp2
    go_ret
    exact ⟨ret_bool HV.out.symm, hb1⟩

set_option maxRecDepth 100000 in
set_option maxHeartbeats 1000000 in
theorem nodeOf_any (A : Option Addr) (n c B0 : Nat) (zs : List Int) (i : Int) (w : World) (h : Rd w B0 A n zs) (hB0 : B0 ≤ w.heap.size) (hb : n ≤ 1048576) :
    Calls Try.prog 66 #[.slice A n c, .int .i64 i] w fun e w' => Below w.heap.size w w' ∧
      ((itemB zs i = false ∧ e = .returned (.pointer none)) ∨ (∃ j : Nat, i = j ∧ itemB zs i = true ∧ e = .returned (.pointer (some ⟨w.heap.size, j * 2, none⟩)) ∧ Nodes w' w.heap.size zs ∧ w.heap.size < w'.heap.size)) := by
  have R := Lib.hid (nodesOf_any A n c B0 zs w h hB0 hb)
  have l1 := h.1
  have L1 : zs.length ≤ n := by omega
  have L3 : n ≤ zs.length := by omega
  clear l1
  have hq := fun (w : World) (a : Option Addr) (n c : Nat) => Lib.run_eql_slice_nil (P := Try.prog) w 84 89 a n c 0 0 Try.underlying84
  go_enter Try.func66, Try.ntmps66
  go_wp2_with fail
  refine R.out.mono ?_
  rintro e w1 ⟨hb1, ⟨hv, rfl⟩ | ⟨hv, rfl, hN, hlt⟩⟩
  · have HV := Lib.hid (item_no (i := i) hv)
    clear hv
    go_wp2
    go_ret
    exact ⟨hb1, .inl ⟨HV.out, rfl⟩⟩
  · by_cases hi : 0 ≤ i ∧ i < (n : Int)
    · have HV := Lib.hid (item_of (i := i) hv hi.1 (by omega))
      have hd : decide (0 ≤ i ∧ i < (n : Int)) = true := by simpa using hi
      obtain ⟨j, rfl⟩ := Int.eq_ofNat_of_zero_le hi.1
      have hj : j < n := by omega
      clear hv hi
      go_wp2_with (go_at_call 106; refine (hasItem_any _ _ _ _ _ hb).mono ?_; rintro e w' ⟨rfl, rfl⟩)
      go_ret
      exact ⟨hb1, .inr ⟨j, rfl, HV.out, rfl, hN, hlt⟩⟩
    · have HV := Lib.hid (item_out (up := zs) (i := i) (by omega))
      have hd : decide (0 ≤ i ∧ i < (n : Int)) = false := by simpa using hi
      clear hv hi
      go_wp2_with (go_at_call 106; refine (hasItem_any _ _ _ _ _ hb).mono ?_; rintro e w' ⟨rfl, rfl⟩)
      go_ret
      exact ⟨hb1, .inl ⟨HV.out, rfl⟩⟩

set_option maxRecDepth 100000 in
set_option maxHeartbeats 1000000 in
theorem implRoot_any (A : Option Addr) (n c B0 : Nat) (zs : List Int) (i : Int) (w : World) (h : Rd w B0 A n zs) (hB0 : B0 ≤ w.heap.size) (hb : n ≤ 1048576) :
    Calls Try.prog 21 #[.slice A n c, .int .i64 i] w fun e w' => e = .returned (.int .i64 (rootN zs i)) ∧ Below w.heap.size w w' := by
  have R := Lib.hid (nodeOf_any A n c B0 zs i w h hB0 hb)
  go_enter Try.func21, Try.ntmps21
  go_wp2_with fail
  refine R.out.mono ?_
  rintro e w1 ⟨hb1, ⟨hv, rfl⟩ | ⟨j, rfl, hv, rfl, hN, hlt⟩⟩
  · have HV := Lib.hid (rootN_no hv)
    clear hv
    go_wp2
    go_ret
    exact ⟨ret_int HV.out.symm, hb1⟩
  · have hj := (item_lt hv).2
    have hfv := item_fv hv
    have hr := root_is hfv (i := j) (by omega)
    have HV := Lib.hid (rootN_yes hv)
    have R2 := root_any w.heap.size j (way zs zs.length j) zs w1 hN hlt (fv_in hfv) (by omega) (fv_path hfv (by omega))
    unfold nadr at R2
    have R2 := Lib.hid R2
    have hrl := hr.1
    clear hv hfv hr
    go_wp2_with fail
    refine R2.out.mono ?_
    rintro e w2 ⟨rfl, hb2⟩
    have hc := ((hN.below hb2 hlt) _ hrl).1
    have hsz := hb1.size
    have hc' : w2.cell? ⟨w.heap.size, lastOf j (way zs zs.length j) * 2, none⟩ = some (.int .i64 (rootI zs j : Int)) := hc
    go_wp2
    go_ret
    exact ⟨ret_int HV.out.symm, hb1.trans (hb2.mono hsz)⟩

set_option maxRecDepth 100000 in
set_option maxHeartbeats 1000000 in
theorem implTog_any (A : Option Addr) (n c B0 : Nat) (zs : List Int) (a b : Int) (w : World) (h : Rd w B0 A n zs) (hB0 : B0 ≤ w.heap.size) (hb : n ≤ 1048576) :
    Calls Try.prog 20 #[.slice A n c, .int .i64 a, .int .i64 b] w fun e w' => e = .returned (.bool (togB zs a b)) ∧ Below w.heap.size w w' := by
  have R := implRoot_any A n c B0 zs a w h hB0 hb
  have R2 := Lib.hid (fun (w1 : World) (hb1 : Below w.heap.size w w1) => implRoot_any A n c B0 zs b w1 (h.below hb1 hB0) (Nat.le_trans hB0 hb1.size) hb)
  cases hv : itemB zs a with
  | false =>
    have HV := Lib.hid (togB_no (b := b) hv)
    rw [rootN_no hv] at R
    have R := Lib.hid R
    clear hv
    go_enter Try.func20, Try.ntmps20
    go_wp2_with fail
    refine R.out.mono ?_
    rintro e w1 ⟨rfl, hb1⟩
    go_wp2_with fail
    go_ret
    exact ⟨ret_bool HV.out.symm, hb1⟩
  | true =>
    have HV := Lib.hid (togB_yes (b := b) hv)
    have h0 := rootN_nonneg hv
    have R := Lib.hid R
    clear hv
    go_enter Try.func20, Try.ntmps20
    go_wp2_with fail
    refine R.out.mono ?_
    rintro e w1 ⟨rfl, hb1⟩
    go_wp2_with fail
    refine (R2.out w1 hb1).mono ?_
    rintro e w2 ⟨rfl, hb2⟩
    go_wp2_with fail
    go_ret
    exact ⟨ret_bool HV.out.symm, hb1.trans (hb2.mono hb1.size)⟩

set_option maxRecDepth 100000 in
set_option maxHeartbeats 1000000 in
theorem implDeep_any (A : Option Addr) (n c B0 : Nat) (zs : List Int) (w : World) (h : Rd w B0 A n zs) (hB0 : B0 ≤ w.heap.size) (hb : n ≤ 1048576) :
    Calls Try.prog 23 #[.slice A n c] w fun e w' => e = .returned (.int .i64 (deepN zs)) ∧ Below w.heap.size w w' := by
  have R := Lib.hid (nodesOf_any A n c B0 zs w h hB0 hb)
  have l1 := h.1
  have L1 : zs.length ≤ n := by omega
  have L3 : n ≤ zs.length := by omega
  clear l1
  go_enter Try.func23, Try.ntmps23
  go_wp2_with fail
  refine R.out.mono ?_
  rintro e w1 ⟨hb1, ⟨hv, rfl⟩ | ⟨hv, rfl, hN, hlt⟩⟩
  · have hdn : deepN zs = -1 := by unfold deepN; rw [hv]; simp
    have HV := Lib.hid hdn
    clear hv hdn
    go_wp2
    refine wp_loop_rounds 1 ?_
    rw [rounds_succ]
    go_wp2
    go_ret
    exact ⟨ret_int HV.out.symm, hb1⟩
  · have hdn : deepN zs = (deepTo zs n : Int) := by unfold deepN; rw [if_pos hv, show zs.length = n by omega]
    have hpos := (fv_parts hv).1
    have hn16 := (fv_parts hv).2.1
    have HV := Lib.hid hdn
    have HF := Lib.hid hv
    clear hdn hv
    go_wp2
    go_loopw [3, 10] (fun d i wr => ∃ k : Nat, k ≤ n ∧ i = .int .i64 k ∧ (∃ q : Int, d = .int .i64 q ∧ -1 ≤ q ∧ q ≤ 1048576 ∧ ((k = 0 ∧ q = -1) ∨ (0 < k ∧ q = (deepTo zs k : Int)))) ∧ Nodes wr w.heap.size zs ∧ Below w.heap.size w wr ∧ w.heap.size < wr.heap.size) (fun _ i _ => n - (intOf i).toNat)
    case atStart => exact ⟨0, Nat.zero_le _, rfl, ⟨-1, rfl, by omega, by omega, .inl ⟨rfl, rfl⟩⟩, hN, hb1, hlt⟩
    case round =>
      obtain ⟨k, hk, rfl, ⟨q, rfl, hq1, hq2, hq⟩, hNr, hber, hBr⟩ := hrel
      clear hN hlt hb1
      have HQ := Lib.hid hq
      clear hq
      by_cases hlt : k < n
      · have hfv := HF.out
        have hwl := way_len zs zs.length k
        have R := depth_any w.heap.size k (way zs zs.length k) zs wr hNr hBr (fv_in hfv) (by omega) (fv_path hfv (by omega)) (by omega)
        unfold nadr at R
        obtain ⟨dd, hdd⟩ : ∃ dd : Nat, dd = (way zs zs.length k).length - 1 := ⟨_, rfl⟩
        rw [← hdd] at R
        have hd16 : dd ≤ 16 := by omega
        have HD := Lib.hid hdd
        have R := Lib.hid R
        clear hfv hwl hdd
        have hmax : max q (dd : Int) = (deepTo zs (k + 1) : Int) := by
          rw [deepTo_succ]
          unfold wayOf
          rw [← HD.out]
          rcases HQ.out with ⟨h1, h2⟩ | ⟨h1, h2⟩
          · subst h1
            subst h2
            simp [deepTo]
            omega
          · omega
        have HM := Lib.hid hmax
        clear hmax
        by_cases hle : q < (dd : Int)
        all_goals
          go_wp2_with (go_at_call 68; refine R.out.mono ?_; rintro e w' ⟨rfl, hb5⟩)
          have hsz5 := hb5.size
          go_roundw
          case rel => exact ⟨k + 1, by omega, by go_num, ⟨_, rfl, by omega, by omega, .inr ⟨by omega, by rw [← HM.out]; omega⟩⟩, hNr.below hb5 hBr, hber.trans (hb5.mono (by omega)), by omega⟩
          case measure => simp [intOf]; omega
      · obtain rfl : k = n := by omega
        have hfin : q = deepN zs := by
          rw [HV.out]
          rcases HQ.out with ⟨h1, _⟩ | ⟨_, h2⟩
          · omega
          · exact h2
        have HE := Lib.hid hfin
        clear hfin
        go_wp2
        go_ret
        exact ⟨ret_int HE.out, hber⟩
end Go.Proofs.Ytebgnaiibomjkaa

namespace Go.Proofs.Ytebgnaiibomjkaa
open Go.RowKit Go.Shelf
attribute [local go_sem] Oper.semAt_some

/-- A box that holds a slice of the call's own. -/
def Held (W : World) (B base : Nat) (zs : List Int) : Prop := ∃ A c, Boxed W B 23 (.slice A zs.length c) ∧ Go.Proofs.Ytebgnaiibomjkaa.Own W base (.slice A zs.length c) zs
theorem held_from {β : Type} (B base B' : Nat) (f : β → List Int) : OwnFrom B' (fun s W => Held W B base (f s)) := by
  rintro s W W' row ⟨A, c, hb, ho⟩ hg hr
  refine ⟨A, c, Go.Own.from (boxed_own B 23 (fun _ : β => Value.slice A (f s).length c)) B' s W W' row hb hg hr, ho.kept hg ?_⟩
  rcases ho.2 with ⟨hv, _⟩ | ⟨g, cap, cur, hv, _, hh, _⟩
  · left; rw [hv]; rfl
  · right
    rw [hv]
    intro e
    obtain ⟨_, o, ho', hc⟩ := hr g e.symm
    rw [hh] at ho'
    injection ho' with ho'
    subst ho'
    simp [Obj.isCells] at hc

theorem held_row {W : World} {base : Nat} {v : Value} {zs : List Int} (ho : Go.Proofs.Ytebgnaiibomjkaa.Own W base v zs) : ∀ r o, v.ownBlock = some r → W.heap[r]? = some o → o.isCells = true := by
  intro r o hr hw
  rcases ho.2 with ⟨hv, _⟩ | ⟨g, cap, cur, hv, _, hh, _⟩
  · rw [hv] at hr; cases hr
  · rw [hv] at hr
    have : g = r := by simpa [Value.ownBlock] using hr
    subst this
    rw [hh] at hw
    injection hw with hw
    subst hw
    rfl
theorem own_setBox {W : World} {base B : Nat} {v u u' : Value} {zs : List Int} (ho : Go.Proofs.Ytebgnaiibomjkaa.Own W base v zs) (hb : Boxed W B 23 u) : Go.Proofs.Ytebgnaiibomjkaa.Own (W.setCell ⟨B, 0, none⟩ u') base v zs :=
  ownsRow_setCell_other ho (fun e => Boxed.not_row hb (by decide) ho e.symm) _

end Go.Proofs.Ytebgnaiibomjkaa