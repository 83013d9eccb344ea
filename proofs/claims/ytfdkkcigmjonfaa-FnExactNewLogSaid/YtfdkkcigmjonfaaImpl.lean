/- The program's functions of chapter 1 that answer a number or a truth: nodeOf, ForestValid, RootOf, Together, DeepestOf. Condition: lengths up to 1048576. -/
import Derived.Test.YtfdkkcigmjonfaaNodes
import Derived.WalkSpells
import Derived.WalkLawsBesides
namespace Go.Proofs.Ytfdkkcigmjonfaa
open Go.RowKit

set_option maxRecDepth 100000 in
set_option maxHeartbeats 1000000 in
theorem implValid_any (A : Option Addr) (n c B0 : Nat) (zs : List Int) (w : World) (h : Rd w B0 A n zs) (hB0 : B0 ≤ w.heap.size) (hb : n ≤ 1048576) :
    Calls Try.prog 39 #[.slice A n c] w fun e w' => e = .returned (.bool (fvB zs)) ∧ Below w.heap.size w w' := by
  have R := Lib.hid (nodesOf_any A n c B0 zs w h hB0 hb)
  go_enter Try.func39, Try.ntmps39
  go_wp2_with fail
  refine R.out.mono ?_
  rintro e w1 ⟨hb1, ⟨hv, rfl⟩ | ⟨hv, rfl, _, _⟩⟩
  · have HV := Lib.hid hv
    clear hv
    go_wp2
    go_ret
    exact ⟨ret_bool HV.out.symm, hb1⟩
  · have HV := Lib.hid hv
    clear hv
    go_wp2
    go_ret
    exact ⟨ret_bool HV.out.symm, hb1⟩

set_option maxRecDepth 100000 in
set_option maxHeartbeats 1000000 in
theorem nodeOf_any (A : Option Addr) (n c B0 : Nat) (zs : List Int) (i : Int) (w : World) (h : Rd w B0 A n zs) (hB0 : B0 ≤ w.heap.size) (hb : n ≤ 1048576) :
    Calls Try.prog 110 #[.slice A n c, .int .i64 i] w fun e w' => Below w.heap.size w w' ∧
      ((itemB zs i = false ∧ e = .returned (.pointer none)) ∨ (∃ j : Nat, i = j ∧ itemB zs i = true ∧ e = .returned (.pointer (some ⟨w.heap.size, j * 2, none⟩)) ∧ Nodes w' w.heap.size zs ∧ w.heap.size < w'.heap.size)) := by
  have R := Lib.hid (nodesOf_any A n c B0 zs w h hB0 hb)
  have l1 := h.1
  have L1 : zs.length ≤ n := by omega
  have L3 : n ≤ zs.length := by omega
  clear l1
  have hq := fun (w : World) (a : Option Addr) (n c : Nat) => Lib.run_eql_slice_nil (P := Try.prog) w 118 123 a n c 0 0 Try.underlying118
  go_enter Try.func110, Try.ntmps110
  go_wp2_with fail
  refine R.out.mono ?_
  rintro e w1 ⟨hb1, ⟨hv, rfl⟩ | ⟨hv, rfl, hN, hlt⟩⟩
  · have HV := Lib.hid (item_no (i := i) hv)
    clear hv
    go_wp2
    go_ret
    exact ⟨hb1, .inl ⟨HV.out, rfl⟩⟩
  · by_cases hi : 0 ≤ i ∧ i < (n : Int)
    · have HV := Lib.hid (item_of (i := i) hv hi.1 (by omega))
      have hd : decide (0 ≤ i ∧ i < (n : Int)) = true := by simpa using hi
      obtain ⟨j, rfl⟩ := Int.eq_ofNat_of_zero_le hi.1
      have hj : j < n := by omega
      clear hv hi
      go_wp2_with (go_at_call 149; refine (hasItem_any _ _ _ _ _ hb).mono ?_; rintro e w' ⟨rfl, rfl⟩)
      go_ret
      exact ⟨hb1, .inr ⟨j, rfl, HV.out, rfl, hN, hlt⟩⟩
    · have HV := Lib.hid (item_out (up := zs) (i := i) (by omega))
      have hd : decide (0 ≤ i ∧ i < (n : Int)) = false := by simpa using hi
      clear hv hi
      go_wp2_with (go_at_call 149; refine (hasItem_any _ _ _ _ _ hb).mono ?_; rintro e w' ⟨rfl, rfl⟩)
      go_ret
      exact ⟨hb1, .inl ⟨HV.out, rfl⟩⟩

set_option maxRecDepth 100000 in
set_option maxHeartbeats 1000000 in
theorem implRoot_any (A : Option Addr) (n c B0 : Nat) (zs : List Int) (i : Int) (w : World) (h : Rd w B0 A n zs) (hB0 : B0 ≤ w.heap.size) (hb : n ≤ 1048576) :
    Calls Try.prog 38 #[.slice A n c, .int .i64 i] w fun e w' => e = .returned (.int .i64 (rootN zs i)) ∧ Below w.heap.size w w' := by
  have R := Lib.hid (nodeOf_any A n c B0 zs i w h hB0 hb)
  go_enter Try.func38, Try.ntmps38
  go_wp2_with fail
  refine R.out.mono ?_
  rintro e w1 ⟨hb1, ⟨hv, rfl⟩ | ⟨j, rfl, hv, rfl, hN, hlt⟩⟩
  · have HV := Lib.hid (rootN_no hv)
    clear hv
    go_wp2
    go_ret
    exact ⟨ret_int HV.out.symm, hb1⟩
  · have hj := (item_lt hv).2
    have hfv := item_fv hv
    have hr := root_is hfv (i := j) (by omega)
    have HV := Lib.hid (rootN_yes hv)
    have R2 := root_any w.heap.size j (way zs zs.length j) zs w1 hN hlt (fv_in hfv) (by omega) (fv_path hfv (by omega))
    unfold nadr at R2
    have R2 := Lib.hid R2
    have hrl := hr.1
    clear hv hfv hr
    go_wp2_with fail
    refine R2.out.mono ?_
    rintro e w2 ⟨rfl, hb2⟩
    have hc := ((hN.below hb2 hlt) _ hrl).1
    have hsz := hb1.size
    have hc' : w2.cell? ⟨w.heap.size, lastOf j (way zs zs.length j) * 2, none⟩ = some (.int .i64 (rootI zs j : Int)) := hc
    go_wp2
    go_ret
    exact ⟨ret_int HV.out.symm, hb1.trans (hb2.mono hsz)⟩

set_option maxRecDepth 100000 in
set_option maxHeartbeats 1000000 in
theorem implTog_any (A : Option Addr) (n c B0 : Nat) (zs : List Int) (a b : Int) (w : World) (h : Rd w B0 A n zs) (hB0 : B0 ≤ w.heap.size) (hb : n ≤ 1048576) :
    Calls Try.prog 37 #[.slice A n c, .int .i64 a, .int .i64 b] w fun e w' => e = .returned (.bool (togB zs a b)) ∧ Below w.heap.size w w' := by
  have R := implRoot_any A n c B0 zs a w h hB0 hb
  have R2 := Lib.hid (fun (w1 : World) (hb1 : Below w.heap.size w w1) => implRoot_any A n c B0 zs b w1 (h.below hb1 hB0) (Nat.le_trans hB0 hb1.size) hb)
  cases hv : itemB zs a with
  | false =>
    have HV := Lib.hid (togB_no (b := b) hv)
    rw [rootN_no hv] at R
    have R := Lib.hid R
    clear hv
    go_enter Try.func37, Try.ntmps37
    go_wp2_with fail
    refine R.out.mono ?_
    rintro e w1 ⟨rfl, hb1⟩
    go_wp2_with fail
    go_ret
    exact ⟨ret_bool HV.out.symm, hb1⟩
  | true =>
    have HV := Lib.hid (togB_yes (b := b) hv)
    have h0 := rootN_nonneg hv
    have R := Lib.hid R
    clear hv
    go_enter Try.func37, Try.ntmps37
    go_wp2_with fail
    refine R.out.mono ?_
    rintro e w1 ⟨rfl, hb1⟩
    go_wp2_with fail
    refine (R2.out w1 hb1).mono ?_
    rintro e w2 ⟨rfl, hb2⟩
    go_wp2_with fail
    go_ret
    exact ⟨ret_bool HV.out.symm, hb1.trans (hb2.mono hb1.size)⟩

set_option maxRecDepth 100000 in
set_option maxHeartbeats 1000000 in
theorem implDeep_any (A : Option Addr) (n c B0 : Nat) (zs : List Int) (w : World) (h : Rd w B0 A n zs) (hB0 : B0 ≤ w.heap.size) (hb : n ≤ 1048576) :
    Calls Try.prog 40 #[.slice A n c] w fun e w' => e = .returned (.int .i64 (deepN zs)) ∧ Below w.heap.size w w' := by
  have R := Lib.hid (nodesOf_any A n c B0 zs w h hB0 hb)
  have l1 := h.1
  have L1 : zs.length ≤ n := by omega
  have L3 : n ≤ zs.length := by omega
  clear l1
  go_enter Try.func40, Try.ntmps40
  go_wp2_with fail
  refine R.out.mono ?_
  rintro e w1 ⟨hb1, ⟨hv, rfl⟩ | ⟨hv, rfl, hN, hlt⟩⟩
  · have hdn : deepN zs = -1 := by unfold deepN; rw [hv]; simp
    have HV := Lib.hid hdn
    clear hv hdn
    go_wp2
    refine wp_loop_rounds 1 ?_
    rw [rounds_succ]
    go_wp2
    go_ret
    exact ⟨ret_int HV.out.symm, hb1⟩
  · have hdn : deepN zs = (deepTo zs n : Int) := by unfold deepN; rw [if_pos hv, show zs.length = n by omega]
    have hpos := (fv_parts hv).1
    have hn16 := (fv_parts hv).2.1
    have HV := Lib.hid hdn
    have HF := Lib.hid hv
    clear hdn hv
    go_wp2
    go_loopw [3, 10] (fun d i wr => ∃ k : Nat, k ≤ n ∧ i = .int .i64 k ∧ (∃ q : Int, d = .int .i64 q ∧ -1 ≤ q ∧ q ≤ 1048576 ∧ ((k = 0 ∧ q = -1) ∨ (0 < k ∧ q = (deepTo zs k : Int)))) ∧ Nodes wr w.heap.size zs ∧ Below w.heap.size w wr ∧ w.heap.size < wr.heap.size) (fun _ i _ => n - (intOf i).toNat)
    case atStart => exact ⟨0, Nat.zero_le _, rfl, ⟨-1, rfl, by omega, by omega, .inl ⟨rfl, rfl⟩⟩, hN, hb1, hlt⟩
    case round =>
      obtain ⟨k, hk, rfl, ⟨q, rfl, hq1, hq2, hq⟩, hNr, hber, hBr⟩ := hrel
      clear hN hlt hb1
      have HQ := Lib.hid hq
      clear hq
      by_cases hlt : k < n
      · have hfv := HF.out
        have hwl := way_len zs zs.length k
        have R := depth_any w.heap.size k (way zs zs.length k) zs wr hNr hBr (fv_in hfv) (by omega) (fv_path hfv (by omega)) (by omega)
        unfold nadr at R
        obtain ⟨dd, hdd⟩ : ∃ dd : Nat, dd = (way zs zs.length k).length - 1 := ⟨_, rfl⟩
        rw [← hdd] at R
        have hd16 : dd ≤ 16 := by omega
        have HD := Lib.hid hdd
        have R := Lib.hid R
        clear hfv hwl hdd
        have hmax : max q (dd : Int) = (deepTo zs (k + 1) : Int) := by
          rw [deepTo_succ]
          unfold wayOf
          rw [← HD.out]
          rcases HQ.out with ⟨h1, h2⟩ | ⟨h1, h2⟩
          · subst h1
            subst h2
            simp [deepTo]
            omega
          · omega
        have HM := Lib.hid hmax
        clear hmax
        by_cases hle : q < (dd : Int)
        all_goals
          go_wp2_with (go_at_call 112; refine R.out.mono ?_; rintro e w' ⟨rfl, hb5⟩)
          have hsz5 := hb5.size
          go_roundw
          case rel => exact ⟨k + 1, by omega, by go_num, ⟨_, rfl, by omega, by omega, .inr ⟨by omega, by rw [← HM.out]; omega⟩⟩, hNr.below hb5 hBr, hber.trans (hb5.mono (by omega)), by omega⟩
          case measure => simp [intOf]; omega
      · obtain rfl : k = n := by omega
        have hfin : q = deepN zs := by
          rw [HV.out]
          rcases HQ.out with ⟨h1, _⟩ | ⟨_, h2⟩
          · omega
          · exact h2
        have HE := Lib.hid hfin
        clear hfin
        go_wp2
        go_ret
        exact ⟨ret_int HE.out, hber⟩
end Go.Proofs.Ytfdkkcigmjonfaa

namespace Go.Proofs.Ytfdkkcigmjonfaa
open Go.RowKit Go.Shelf
attribute [local go_sem] Oper.semAt_some

/-- A box that holds a slice of the call's own. -/
def Held (W : World) (B base : Nat) (zs : List Int) : Prop := ∃ A c, Boxed W B 23 (.slice A zs.length c) ∧ Go.Proofs.Ytfdkkcigmjonfaa.Own W base (.slice A zs.length c) zs
theorem held_from {β : Type} (B base B' : Nat) (f : β → List Int) : OwnFrom B' (fun s W => Held W B base (f s)) := by
  rintro s W W' row ⟨A, c, hb, ho⟩ hg hr
  refine ⟨A, c, Go.Own.from (boxed_own B 23 (fun _ : β => Value.slice A (f s).length c)) B' s W W' row hb hg hr, ho.kept hg ?_⟩
  rcases ho.2 with ⟨hv, _⟩ | ⟨g, cap, cur, hv, _, hh, _⟩
  · left; rw [hv]; rfl
  · right
    rw [hv]
    intro e
    obtain ⟨_, o, ho', hc⟩ := hr g e.symm
    rw [hh] at ho'
    injection ho' with ho'
    subst ho'
    simp [Obj.isCells] at hc

theorem held_row {W : World} {base : Nat} {v : Value} {zs : List Int} (ho : Go.Proofs.Ytfdkkcigmjonfaa.Own W base v zs) : ∀ r o, v.ownBlock = some r → W.heap[r]? = some o → o.isCells = true := by
  intro r o hr hw
  rcases ho.2 with ⟨hv, _⟩ | ⟨g, cap, cur, hv, _, hh, _⟩
  · rw [hv] at hr; cases hr
  · rw [hv] at hr
    have : g = r := by simpa [Value.ownBlock] using hr
    subst this
    rw [hh] at hw
    injection hw with hw
    subst hw
    rfl
theorem own_setBox {W : World} {base B : Nat} {v u u' : Value} {zs : List Int} (ho : Go.Proofs.Ytfdkkcigmjonfaa.Own W base v zs) (hb : Boxed W B 23 u) : Go.Proofs.Ytfdkkcigmjonfaa.Own (W.setCell ⟨B, 0, none⟩ u') base v zs :=
  ownsRow_setCell_other ho (fun e => Boxed.not_row hb (by decide) ho e.symm) _

set_option maxRecDepth 100000 in
set_option maxHeartbeats 2000000 in
theorem implWay_in (F : Fence) (n : Nat) (hF : ∀ f, F.fn f) (hro : F.round = none) (hn : 4 ≤ n) (A : Option Addr) (m c : Nat) (zs : List Int) (i : Int) (w : World)
    (R : CallsIn F (n - 1) Try.prog 110 #[.slice A m c, .int .i64 i] w fun e w' => Below w.heap.size w w' ∧
      ((itemB zs i = false ∧ e = .returned (.pointer none)) ∨ (∃ j : Nat, i = j ∧ itemB zs i = true ∧ e = .returned (.pointer (some ⟨w.heap.size, j * 2, none⟩)) ∧ Nodes w' w.heap.size zs ∧ w.heap.size < w'.heap.size))) :
    CallsIn F n Try.prog 58 #[.slice A m c, .int .i64 i] w fun e w' => ∃ v, e = .returned (.tuple #[v, .bool (itemB zs i)]) ∧ Go.Proofs.Ytfdkkcigmjonfaa.Own w' w.heap.size v (ints (wayN zs i)) ∧ Below w.heap.size w w' := by
  have h1 : 1 ≤ n := by omega
  have R := Lib.hid R
  refine callsIn_of_wp_marks Try.func58 rfl (hF _) ?_ hro
  simp only [Try.ntmps58, List.size_toArray, List.length_cons, List.length_nil, Nat.reduceAdd, Nat.reduceSub, Array.replicate_succ, Array.replicate_zero, List.push_toArray, List.append_toArray, List.nil_append, List.cons_append]
  gi_wp2_with fail
  refine R.out.mono ?_
  rintro e w1 ⟨hb1, ⟨hv, rfl⟩ | ⟨j, rfl, hv, rfl, hN, hlt⟩⟩
  · have hw := wayN_no hv
    have HV := Lib.hid (And.intro hv hw)
    clear hv hw
    gi_wp2
    refine ⟨_, results_tmp2 rfl _ _ _, ?_⟩
    rw [HV.out.1, HV.out.2]
    exact ⟨_, rfl, World.ownsRow_nil _ _ _ _, hb1⟩
  · have hj := (item_lt hv).2
    have hfv := item_fv hv
    have hw : wayN zs (j : Int) = way zs zs.length j := wayN_yes hv
    have hys := fv_path hfv (i := j) (by omega)
    have hIn := fv_in hfv
    have h16 := (fv_parts hfv).2.1
    have hwl := way_len zs zs.length j
    obtain ⟨ys, hYs⟩ : ∃ ys, ys = way zs zs.length j := ⟨_, rfl⟩
    rw [← hYs] at hw hys hwl
    have HV := Lib.hid (And.intro hv hw)
    clear hv hw hfv hYs
    gi_wp2_with (gi_at_call 139; refine (wayUp_in _ (n - 1) (hF _) hro _ ⟨_, rfl⟩ _).mono ?_; rintro e w' ⟨rfl, rfl⟩)
    obtain ⟨W0, hW0, bL, bP, hBw, hs0⟩ := boxes2 w1 23 (.slice none 0 0) 120 (.pointer (some ⟨w.heap.size, j * 2, none⟩))
    rw [← hW0]
    clear hW0
    have hsz1 := hb1.size
    refine wpIn_rangeFunc_seqOf hro h1 (gf := 182) (lb := #[.pointer (some ⟨w1.heap.size + 1, 0, none⟩)]) rfl (hF _) (enters_of Try.func182 (by kernel_rfl) rfl)
      (up_seq F (n - 1) (hF _) hro (by omega) (w1.heap.size + 1) w1.heap.size w.heap.size j ys.length zs W0 bP.cell (by omega) (hN.below hBw hlt) hlt (by omega) hIn (by omega)) belowK_t (belowK_b (by omega)) (fun _ => rfl)
      (fun pre W => Held W w1.heap.size w1.heap.size (ints pre) ∧ Below w1.heap.size w1 W)
      (fun _ _ _ => False)
      (OwnFrom.and (held_from _ _ _ ints) (ownFrom_below (by omega) (by omega)))
      (fun _ _ _ _ _ hs _ _ => hs)
      (fun pre W hp _ => by obtain ⟨o, hp⟩ := hp; exact path_end hys hp) ⟨⟨none, 0, bL, World.ownsRow_nil _ _ _ _⟩, hBw⟩
      (fun x => { tmps := #[.slice A m c, .int .i64 (j : Int), undef, undef, .slice none 0 0, .bool false, .pointer (some ⟨w.heap.size, j * 2, none⟩), .pointer (some ⟨w1.heap.size, 0, none⟩), .pointer (some (nadr w.heap.size x)), .slice A m c, .int .i64 (j : Int), .pointer (some ⟨w.heap.size, j * 2, none⟩), .pointer (some ⟨w.heap.size, j * 2, none⟩), .bool false, .pointer (some ⟨w.heap.size, j * 2, none⟩), .func (.func 182) #[] #[.pointer (some ⟨w1.heap.size + 1, 0, none⟩)], .pointer (some (nadr w.heap.size x)), undef, undef, undef, undef, undef, undef, undef, undef], defers := [] }) ?assign ?body ?done ?stop
    case assign =>
      intro l x W K hK
      gi_wp2
      exact hK
    case body =>
      rintro l pre x W ⟨⟨A2, c2, hL, ho⟩, hBe⟩ ⟨o, hp⟩ hsz
      have hx : x < zs.length := path_lt hIn (fun k hk => by cases hk; omega) (path_last hp).1
      have hpl := path_end hys hp
      rw [List.length_append] at hpl
      have cL := hL.cell
      have fL := hL.frozen
      have cN := ((hN.below hBe hlt) x hx).1
      have cL5 := cell_past (.cells #[.int .i64 (x : Int)] 3) cL
      unfold nadr
      gi_wp2_with fail
      refine wpIn_region_any (by kernel_rfl) ?_
      have hsz' : w1.heap.size ≤ W.drew.heap.size := hBe.size
      refine wpAnyIn_ready (rs := [0, 1]) (by kernel_rfl) (by simp) (AllReadyIn.cons rfl ?_ (AllReadyIn.cons rfl ?_ AllReadyIn.nil))
      · intro K' hK'
        go_simp
        refine hK' _ _ ?_
        clear hK' K'
        refine wpAnyIn_ready (rs := [1]) (by kernel_rfl) (by simp) (AllReadyIn.cons rfl ?_ AllReadyIn.nil)
        intro K' hK'
        go_simp
        refine hK' _ _ ?_
        clear hK' K'
        refine wpAnyIn_ready (rs := [2]) (by kernel_rfl) (by simp) (AllReadyIn.cons rfl ?_ AllReadyIn.nil)
        intro K' hK'
        go_simp
        refine hK' _ _ ?_
        clear hK' K'
        refine wpAnyIn_ready (rs := [3]) (by kernel_rfl) (by simp) (AllReadyIn.cons rfl ?_ AllReadyIn.nil)
        intro K' hK'
        go_simp
        refine hK' _ _ ?_
        clear hK' K'
        refine wpAnyIn_ready (rs := [4]) (by kernel_rfl) (by simp) (AllReadyIn.cons rfl ?_ AllReadyIn.nil)
        intro K' hK'
        go_simp
        refine hK' _ _ ?_
        clear hK' K'
        refine wpAnyIn_ready (rs := [5]) (by kernel_rfl) (by simp) (AllReadyIn.cons rfl ?_ AllReadyIn.nil)
        intro K' hK'
        go_simp
        refine hK' _ _ ?_
        clear hK' K'
        refine wpAnyIn_ready (rs := [6]) (by kernel_rfl) (by simp) (AllReadyIn.cons rfl ?_ AllReadyIn.nil)
        intro K' hK'
        refine stepIn_push rfl (.tmp 17) (.tmp 22) rfl W.drew _ w1.heap.size (.slice A2 (ints pre).length c2) (ints pre) (x : Int) rfl rfl rfl ho (by rw [ints_len]; omega) hsz' ?_
        intro v' w' ho' hg' _
        obtain ⟨A3, c3, rfl, _⟩ := ho'.form
        refine hK' _ _ ?_
        clear hK' K'
        have hL' : Boxed w' w1.heap.size 23 (.slice A2 (ints pre).length c2) := Boxed.kept (W := W.drew) hL hg' (Boxed.not_row (W := W.drew) hL (by decide) ho)
        have cL' := hL'.cell
        have fL' := hL'.frozen
        have hk1 : KeepsOthers W w' := KeepsOthers.of_grownBy (W := W) ⟨hg'.os, hg'.tape, hg'.output, hg'.size, hg'.block⟩ (held_row ho)
        have hb2 : Below w1.heap.size W w' := below_row ⟨hg'.os, hg'.tape, hg'.output, hg'.size, hg'.block⟩ hBe.size (fun r e => (ho.blockOf r e).1)
        refine wpAnyIn_ready (rs := [7]) (by kernel_rfl) (by simp) (AllReadyIn.cons rfl ?_ AllReadyIn.nil)
        intro K' hK'
        go_simp
        refine hK' _ _ ?_
        clear hK' K'
        refine wpAnyIn_done (by kernel_rfl) ?_ _
        have ho2 : Go.Proofs.Ytfdkkcigmjonfaa.Own w' w1.heap.size (.slice A3 (ints (pre ++ [x])).length c3) (ints (pre ++ [x])) := by rw [ints_snoc]; exact ho'
        have e2 : Value.slice A3 ((ints pre).length + 1) c3 = Value.slice A3 (ints (pre ++ [x])).length c3 := by rw [ints_snoc]; simp
        rw [e2]
        exact ⟨(hk1.trans (KeepsOthers.setCell _ _ _)).from _, hb2.setCell (p := ⟨w1.heap.size, 0, none⟩) (Nat.le_refl _) _, ⟨A3, c3, hL'.set _, own_setBox ho2 hL'⟩, (hBe.trans hb2).setCell (p := ⟨w1.heap.size, 0, none⟩) (Nat.le_refl _) _⟩
      · intro K' hK'
        go_simp
        refine hK' _ _ ?_
        clear hK' K'
        refine wpAnyIn_ready (rs := [0, 2]) (by kernel_rfl) (by simp) (AllReadyIn.cons rfl ?_ (AllReadyIn.cons rfl ?_ AllReadyIn.nil))
        · intro K' hK'
          go_simp
          refine hK' _ _ ?_
          clear hK' K'
          refine wpAnyIn_ready (rs := [2]) (by kernel_rfl) (by simp) (AllReadyIn.cons rfl ?_ AllReadyIn.nil)
          intro K' hK'
          go_simp
          refine hK' _ _ ?_
          clear hK' K'
          refine wpAnyIn_ready (rs := [3]) (by kernel_rfl) (by simp) (AllReadyIn.cons rfl ?_ AllReadyIn.nil)
          intro K' hK'
          go_simp
          refine hK' _ _ ?_
          clear hK' K'
          refine wpAnyIn_ready (rs := [4]) (by kernel_rfl) (by simp) (AllReadyIn.cons rfl ?_ AllReadyIn.nil)
          intro K' hK'
          go_simp
          refine hK' _ _ ?_
          clear hK' K'
          refine wpAnyIn_ready (rs := [5]) (by kernel_rfl) (by simp) (AllReadyIn.cons rfl ?_ AllReadyIn.nil)
          intro K' hK'
          go_simp
          refine hK' _ _ ?_
          clear hK' K'
          refine wpAnyIn_ready (rs := [6]) (by kernel_rfl) (by simp) (AllReadyIn.cons rfl ?_ AllReadyIn.nil)
          intro K' hK'
          refine stepIn_push rfl (.tmp 17) (.tmp 22) rfl W.drew _ w1.heap.size (.slice A2 (ints pre).length c2) (ints pre) (x : Int) rfl rfl rfl ho (by rw [ints_len]; omega) hsz' ?_
          intro v' w' ho' hg' _
          obtain ⟨A3, c3, rfl, _⟩ := ho'.form
          refine hK' _ _ ?_
          clear hK' K'
          have hL' : Boxed w' w1.heap.size 23 (.slice A2 (ints pre).length c2) := Boxed.kept (W := W.drew) hL hg' (Boxed.not_row (W := W.drew) hL (by decide) ho)
          have cL' := hL'.cell
          have fL' := hL'.frozen
          have hk1 : KeepsOthers W w' := KeepsOthers.of_grownBy (W := W) ⟨hg'.os, hg'.tape, hg'.output, hg'.size, hg'.block⟩ (held_row ho)
          have hb2 : Below w1.heap.size W w' := below_row ⟨hg'.os, hg'.tape, hg'.output, hg'.size, hg'.block⟩ hBe.size (fun r e => (ho.blockOf r e).1)
          refine wpAnyIn_ready (rs := [7]) (by kernel_rfl) (by simp) (AllReadyIn.cons rfl ?_ AllReadyIn.nil)
          intro K' hK'
          go_simp
          refine hK' _ _ ?_
          clear hK' K'
          refine wpAnyIn_done (by kernel_rfl) ?_ _
          have ho2 : Go.Proofs.Ytfdkkcigmjonfaa.Own w' w1.heap.size (.slice A3 (ints (pre ++ [x])).length c3) (ints (pre ++ [x])) := by rw [ints_snoc]; exact ho'
          have e2 : Value.slice A3 ((ints pre).length + 1) c3 = Value.slice A3 (ints (pre ++ [x])).length c3 := by rw [ints_snoc]; simp
          rw [e2]
          exact ⟨(hk1.trans (KeepsOthers.setCell _ _ _)).from _, hb2.setCell (p := ⟨w1.heap.size, 0, none⟩) (Nat.le_refl _) _, ⟨A3, c3, hL'.set _, own_setBox ho2 hL'⟩, (hBe.trans hb2).setCell (p := ⟨w1.heap.size, 0, none⟩) (Nat.le_refl _) _⟩
        · intro K' hK'
          go_simp
          refine hK' _ _ ?_
          clear hK' K'
          refine wpAnyIn_ready (rs := [0, 3]) (by kernel_rfl) (by simp) (AllReadyIn.cons rfl ?_ (AllReadyIn.cons rfl ?_ AllReadyIn.nil))
          · intro K' hK'
            go_simp
            refine hK' _ _ ?_
            clear hK' K'
            refine wpAnyIn_ready (rs := [3]) (by kernel_rfl) (by simp) (AllReadyIn.cons rfl ?_ AllReadyIn.nil)
            intro K' hK'
            go_simp
            refine hK' _ _ ?_
            clear hK' K'
            refine wpAnyIn_ready (rs := [4]) (by kernel_rfl) (by simp) (AllReadyIn.cons rfl ?_ AllReadyIn.nil)
            intro K' hK'
            go_simp
            refine hK' _ _ ?_
            clear hK' K'
            refine wpAnyIn_ready (rs := [5]) (by kernel_rfl) (by simp) (AllReadyIn.cons rfl ?_ AllReadyIn.nil)
            intro K' hK'
            go_simp
            refine hK' _ _ ?_
            clear hK' K'
            refine wpAnyIn_ready (rs := [6]) (by kernel_rfl) (by simp) (AllReadyIn.cons rfl ?_ AllReadyIn.nil)
            intro K' hK'
            refine stepIn_push rfl (.tmp 17) (.tmp 22) rfl W.drew _ w1.heap.size (.slice A2 (ints pre).length c2) (ints pre) (x : Int) rfl rfl rfl ho (by rw [ints_len]; omega) hsz' ?_
            intro v' w' ho' hg' _
            obtain ⟨A3, c3, rfl, _⟩ := ho'.form
            refine hK' _ _ ?_
            clear hK' K'
            have hL' : Boxed w' w1.heap.size 23 (.slice A2 (ints pre).length c2) := Boxed.kept (W := W.drew) hL hg' (Boxed.not_row (W := W.drew) hL (by decide) ho)
            have cL' := hL'.cell
            have fL' := hL'.frozen
            have hk1 : KeepsOthers W w' := KeepsOthers.of_grownBy (W := W) ⟨hg'.os, hg'.tape, hg'.output, hg'.size, hg'.block⟩ (held_row ho)
            have hb2 : Below w1.heap.size W w' := below_row ⟨hg'.os, hg'.tape, hg'.output, hg'.size, hg'.block⟩ hBe.size (fun r e => (ho.blockOf r e).1)
            refine wpAnyIn_ready (rs := [7]) (by kernel_rfl) (by simp) (AllReadyIn.cons rfl ?_ AllReadyIn.nil)
            intro K' hK'
            go_simp
            refine hK' _ _ ?_
            clear hK' K'
            refine wpAnyIn_done (by kernel_rfl) ?_ _
            have ho2 : Go.Proofs.Ytfdkkcigmjonfaa.Own w' w1.heap.size (.slice A3 (ints (pre ++ [x])).length c3) (ints (pre ++ [x])) := by rw [ints_snoc]; exact ho'
            have e2 : Value.slice A3 ((ints pre).length + 1) c3 = Value.slice A3 (ints (pre ++ [x])).length c3 := by rw [ints_snoc]; simp
            rw [e2]
            exact ⟨(hk1.trans (KeepsOthers.setCell _ _ _)).from _, hb2.setCell (p := ⟨w1.heap.size, 0, none⟩) (Nat.le_refl _) _, ⟨A3, c3, hL'.set _, own_setBox ho2 hL'⟩, (hBe.trans hb2).setCell (p := ⟨w1.heap.size, 0, none⟩) (Nat.le_refl _) _⟩
          · intro K' hK'
            go_simp
            refine hK' _ _ ?_
            clear hK' K'
            refine wpAnyIn_ready (rs := [0, 4]) (by kernel_rfl) (by simp) (AllReadyIn.cons rfl ?_ (AllReadyIn.cons rfl ?_ AllReadyIn.nil))
            · intro K' hK'
              go_simp
              refine hK' _ _ ?_
              clear hK' K'
              refine wpAnyIn_ready (rs := [4]) (by kernel_rfl) (by simp) (AllReadyIn.cons rfl ?_ AllReadyIn.nil)
              intro K' hK'
              go_simp
              refine hK' _ _ ?_
              clear hK' K'
              refine wpAnyIn_ready (rs := [5]) (by kernel_rfl) (by simp) (AllReadyIn.cons rfl ?_ AllReadyIn.nil)
              intro K' hK'
              go_simp
              refine hK' _ _ ?_
              clear hK' K'
              refine wpAnyIn_ready (rs := [6]) (by kernel_rfl) (by simp) (AllReadyIn.cons rfl ?_ AllReadyIn.nil)
              intro K' hK'
              refine stepIn_push rfl (.tmp 17) (.tmp 22) rfl W.drew _ w1.heap.size (.slice A2 (ints pre).length c2) (ints pre) (x : Int) rfl rfl rfl ho (by rw [ints_len]; omega) hsz' ?_
              intro v' w' ho' hg' _
              obtain ⟨A3, c3, rfl, _⟩ := ho'.form
              refine hK' _ _ ?_
              clear hK' K'
              have hL' : Boxed w' w1.heap.size 23 (.slice A2 (ints pre).length c2) := Boxed.kept (W := W.drew) hL hg' (Boxed.not_row (W := W.drew) hL (by decide) ho)
              have cL' := hL'.cell
              have fL' := hL'.frozen
              have hk1 : KeepsOthers W w' := KeepsOthers.of_grownBy (W := W) ⟨hg'.os, hg'.tape, hg'.output, hg'.size, hg'.block⟩ (held_row ho)
              have hb2 : Below w1.heap.size W w' := below_row ⟨hg'.os, hg'.tape, hg'.output, hg'.size, hg'.block⟩ hBe.size (fun r e => (ho.blockOf r e).1)
              refine wpAnyIn_ready (rs := [7]) (by kernel_rfl) (by simp) (AllReadyIn.cons rfl ?_ AllReadyIn.nil)
              intro K' hK'
              go_simp
              refine hK' _ _ ?_
              clear hK' K'
              refine wpAnyIn_done (by kernel_rfl) ?_ _
              have ho2 : Go.Proofs.Ytfdkkcigmjonfaa.Own w' w1.heap.size (.slice A3 (ints (pre ++ [x])).length c3) (ints (pre ++ [x])) := by rw [ints_snoc]; exact ho'
              have e2 : Value.slice A3 ((ints pre).length + 1) c3 = Value.slice A3 (ints (pre ++ [x])).length c3 := by rw [ints_snoc]; simp
              rw [e2]
              exact ⟨(hk1.trans (KeepsOthers.setCell _ _ _)).from _, hb2.setCell (p := ⟨w1.heap.size, 0, none⟩) (Nat.le_refl _) _, ⟨A3, c3, hL'.set _, own_setBox ho2 hL'⟩, (hBe.trans hb2).setCell (p := ⟨w1.heap.size, 0, none⟩) (Nat.le_refl _) _⟩
            · intro K' hK'
              go_simp
              refine hK' _ _ ?_
              clear hK' K'
              refine wpAnyIn_ready (rs := [0, 5]) (by kernel_rfl) (by simp) (AllReadyIn.cons rfl ?_ (AllReadyIn.cons rfl ?_ AllReadyIn.nil))
              · intro K' hK'
                go_simp
                refine hK' _ _ ?_
                clear hK' K'
                refine wpAnyIn_ready (rs := [5]) (by kernel_rfl) (by simp) (AllReadyIn.cons rfl ?_ AllReadyIn.nil)
                intro K' hK'
                go_simp
                refine hK' _ _ ?_
                clear hK' K'
                refine wpAnyIn_ready (rs := [6]) (by kernel_rfl) (by simp) (AllReadyIn.cons rfl ?_ AllReadyIn.nil)
                intro K' hK'
                refine stepIn_push rfl (.tmp 17) (.tmp 22) rfl W.drew _ w1.heap.size (.slice A2 (ints pre).length c2) (ints pre) (x : Int) rfl rfl rfl ho (by rw [ints_len]; omega) hsz' ?_
                intro v' w' ho' hg' _
                obtain ⟨A3, c3, rfl, _⟩ := ho'.form
                refine hK' _ _ ?_
                clear hK' K'
                have hL' : Boxed w' w1.heap.size 23 (.slice A2 (ints pre).length c2) := Boxed.kept (W := W.drew) hL hg' (Boxed.not_row (W := W.drew) hL (by decide) ho)
                have cL' := hL'.cell
                have fL' := hL'.frozen
                have hk1 : KeepsOthers W w' := KeepsOthers.of_grownBy (W := W) ⟨hg'.os, hg'.tape, hg'.output, hg'.size, hg'.block⟩ (held_row ho)
                have hb2 : Below w1.heap.size W w' := below_row ⟨hg'.os, hg'.tape, hg'.output, hg'.size, hg'.block⟩ hBe.size (fun r e => (ho.blockOf r e).1)
                refine wpAnyIn_ready (rs := [7]) (by kernel_rfl) (by simp) (AllReadyIn.cons rfl ?_ AllReadyIn.nil)
                intro K' hK'
                go_simp
                refine hK' _ _ ?_
                clear hK' K'
                refine wpAnyIn_done (by kernel_rfl) ?_ _
                have ho2 : Go.Proofs.Ytfdkkcigmjonfaa.Own w' w1.heap.size (.slice A3 (ints (pre ++ [x])).length c3) (ints (pre ++ [x])) := by rw [ints_snoc]; exact ho'
                have e2 : Value.slice A3 ((ints pre).length + 1) c3 = Value.slice A3 (ints (pre ++ [x])).length c3 := by rw [ints_snoc]; simp
                rw [e2]
                exact ⟨(hk1.trans (KeepsOthers.setCell _ _ _)).from _, hb2.setCell (p := ⟨w1.heap.size, 0, none⟩) (Nat.le_refl _) _, ⟨A3, c3, hL'.set _, own_setBox ho2 hL'⟩, (hBe.trans hb2).setCell (p := ⟨w1.heap.size, 0, none⟩) (Nat.le_refl _) _⟩
              · intro K' hK'
                go_simp
                refine hK' _ _ ?_
                clear hK' K'
                refine wpAnyIn_ready (rs := [0]) (by kernel_rfl) (by simp) (AllReadyIn.cons rfl ?_ AllReadyIn.nil)
                intro K' hK'
                go_simp
                refine hK' _ _ ?_
                clear hK' K'
                refine wpAnyIn_ready (rs := [6]) (by kernel_rfl) (by simp) (AllReadyIn.cons rfl ?_ AllReadyIn.nil)
                intro K' hK'
                refine stepIn_push rfl (.tmp 17) (.tmp 22) rfl W.drew _ w1.heap.size (.slice A2 (ints pre).length c2) (ints pre) (x : Int) rfl rfl rfl ho (by rw [ints_len]; omega) hsz' ?_
                intro v' w' ho' hg' _
                obtain ⟨A3, c3, rfl, _⟩ := ho'.form
                refine hK' _ _ ?_
                clear hK' K'
                have hL' : Boxed w' w1.heap.size 23 (.slice A2 (ints pre).length c2) := Boxed.kept (W := W.drew) hL hg' (Boxed.not_row (W := W.drew) hL (by decide) ho)
                have cL' := hL'.cell
                have fL' := hL'.frozen
                have hk1 : KeepsOthers W w' := KeepsOthers.of_grownBy (W := W) ⟨hg'.os, hg'.tape, hg'.output, hg'.size, hg'.block⟩ (held_row ho)
                have hb2 : Below w1.heap.size W w' := below_row ⟨hg'.os, hg'.tape, hg'.output, hg'.size, hg'.block⟩ hBe.size (fun r e => (ho.blockOf r e).1)
                refine wpAnyIn_ready (rs := [7]) (by kernel_rfl) (by simp) (AllReadyIn.cons rfl ?_ AllReadyIn.nil)
                intro K' hK'
                go_simp
                refine hK' _ _ ?_
                clear hK' K'
                refine wpAnyIn_done (by kernel_rfl) ?_ _
                have ho2 : Go.Proofs.Ytfdkkcigmjonfaa.Own w' w1.heap.size (.slice A3 (ints (pre ++ [x])).length c3) (ints (pre ++ [x])) := by rw [ints_snoc]; exact ho'
                have e2 : Value.slice A3 ((ints pre).length + 1) c3 = Value.slice A3 (ints (pre ++ [x])).length c3 := by rw [ints_snoc]; simp
                rw [e2]
                exact ⟨(hk1.trans (KeepsOthers.setCell _ _ _)).from _, hb2.setCell (p := ⟨w1.heap.size, 0, none⟩) (Nat.le_refl _) _, ⟨A3, c3, hL'.set _, own_setBox ho2 hL'⟩, (hBe.trans hb2).setCell (p := ⟨w1.heap.size, 0, none⟩) (Nat.le_refl _) _⟩
    case done =>
      rintro D xs W hD hS ⟨⟨A2, c2, hL, ho⟩, hBe⟩ hK
      obtain rfl : xs = ys := path_uniq hS hys
      have cL := hL.cell
      gi_wp2
      refine ⟨by simp, .inl ⟨_, _, rfl, run_takeDeferred hK, ?_⟩⟩
      refine ⟨_, results_tmp2 rfl _ _ _, ?_⟩
      rw [HV.out.1, HV.out.2]
      have hb3 := belowK_b (w := w1) (n₀ := w1.heap.size) (Nat.le_refl _) W D _ (.deferred none) (by omega) hK rfl rfl
      have hk : Go.Proofs.Ytfdkkcigmjonfaa.Own (W.putObj D (.deferred none)) w1.heap.size (.slice A2 (ints xs).length c2) (ints xs) := by
        refine ho.kept (grownBy_putObj' W D (.deferred none)) ?_
        cases hb : (Value.slice A2 (ints xs).length c2).ownBlock with
        | none => exact .inl rfl
        | some r =>
          refine .inr fun e => ?_
          injection e with e
          subst e
          have := held_row ho r _ hb hK
          simp [Obj.isCells] at this
      exact ⟨_, rfl, hk.less hsz1, hb1.trans ((hBe.trans hb3).mono (by omega))⟩
    case stop =>
      rintro D q pre W _ _ h _
      exact h.elim

theorem implWay_any (A : Option Addr) (n c B0 : Nat) (zs : List Int) (i : Int) (w : World) (h : Rd w B0 A n zs) (hB0 : B0 ≤ w.heap.size) (hb : n ≤ 1048576) :
    Calls Try.prog 58 #[.slice A n c, .int .i64 i] w fun e w' => ∃ v, e = .returned (.tuple #[v, .bool (itemB zs i)]) ∧ Go.Proofs.Ytfdkkcigmjonfaa.Own w' w.heap.size v (ints (wayN zs i)) ∧ Below w.heap.size w w' :=
  (callsIn_wide (n := 4)).1 (implWay_in Fence.wide 4 (fun _ => trivial) rfl (by omega) A n c zs i w (callsIn_wide.2 (nodeOf_any A n c B0 zs i w h hB0 hb)))
end Go.Proofs.Ytfdkkcigmjonfaa
