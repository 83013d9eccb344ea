/- TurnGrid, of the program and of the model. Condition: lengths up to 1048576. -/
import Derived.Test.YtecleelcnjhimaaDoorGridV
import Derived.Maps.AppendAt
namespace Go.Proofs.YtecleelcnjhimaaDoor
open Go.RowKit Go.Shelf

/-- The cells of column j in the first k rows. -/
def colN (xs : List ByteArray) (j : Nat) : Nat → ByteArray
  | 0 => ⟨#[]⟩
  | k + 1 => colN xs j k ++ (xs[k]?.getD ByteArray.empty).extract j (j + 1)
def wideN (xs : List ByteArray) : Nat := (xs[0]?.getD ByteArray.empty).size
/-- The columns of the first k rows. -/
def turnL (xs : List ByteArray) (k : Nat) : List ByteArray := (List.range (wideN xs)).map fun j => colN xs j k
/-- What TurnGrid answers. -/
def turnN (xs : List ByteArray) : List ByteArray := if gvB xs = true then turnL xs xs.length else []
theorem turnN_yes {xs : List ByteArray} (h : gvB xs = true) : turnN xs = turnL xs xs.length := by unfold turnN; rw [if_pos h]
theorem turnN_no {xs : List ByteArray} (h : gvB xs = false) : turnN xs = [] := by unfold turnN; rw [h]; simp
theorem turnL_len (xs : List ByteArray) (k : Nat) : (turnL xs k).length = wideN xs := by simp [turnL]
theorem turnL_get (xs : List ByteArray) (k : Nat) {j : Nat} (h : j < wideN xs) : (turnL xs k)[j]?.getD ByteArray.empty = colN xs j k := by simp [turnL, h]
theorem colN_size {xs : List ByteArray} {j : Nat} : ∀ k, (colN xs j k).size ≤ k
  | 0 => Nat.le_refl _
  | k + 1 => by
    have := colN_size (xs := xs) (j := j) k
    rw [colN, ByteArray.size_append, ByteArray.size_extract]
    omega
theorem turnL_step {xs : List ByteArray} {k j : Nat} (hj : j < wideN xs) : ((turnL xs (k + 1)).take j ++ (turnL xs k).drop j).set j (colN xs j (k + 1)) = (turnL xs (k + 1)).take (j + 1) ++ (turnL xs k).drop (j + 1) := by
  have := set_stepT (xs := turnL xs (k + 1)) (ys := turnL xs k) (k := j) (n := wideN xs) (turnL_len _ _) hj (turnL_len _ _)
  rwa [turnL_get _ _ hj] at this
theorem turnL_now {xs : List ByteArray} {k j : Nat} (hj : j < wideN xs) : ((turnL xs (k + 1)).take j ++ (turnL xs k).drop j)[j]?.getD ByteArray.empty = colN xs j k := by
  have hl : ((turnL xs (k + 1)).take j).length = j := by rw [List.length_take, turnL_len]; omega
  rw [List.getElem?_append_right (by omega), hl, Nat.sub_self, List.getElem?_drop, Nat.add_zero, turnL_get _ _ hj]

theorem cut_one {s : ByteArray} {j : Nat} (h : j + 1 ≤ s.size) (w : World) : (Instr.slice 9 (.string s) (some (.int .i64 (j : Int))) (some (.int .i64 ((j : Int) + 1))) none).run Tryd.prog w = .ok (.string (s.extract j (j + 1))) w := by
  have := run_slice_string (P := Tryd.prog) (w := w) 9 s .i64 .i64 (j : Int) ((j : Int) + 1) Tryd.underlying9 (by omega) (by omega) (by omega)
  rw [this]
  have e1 : ((j : Int)).toNat = j := by omega
  have e2 : ((j : Int) + 1).toNat = j + 1 := by omega
  rw [e1, e2]

set_option maxRecDepth 100000 in
set_option maxHeartbeats 2000000 in
theorem implTurn_any (A : Option Addr) (n c B : Nat) (xs : List ByteArray) (w : World) (h : RdT w B A n xs) (hB : B ≤ w.heap.size) (hb : n ≤ 1048576) (hx : ∀ x ∈ xs, x.size ≤ 1048576) :
    Calls Tryd.prog 13 #[.slice A n c] w fun e w' => ∃ v, e = .returned (.tuple #[v, .bool (gvB xs)]) ∧ OwnT w' w.heap.size v (turnN xs) ∧ Below w.heap.size w w' := by
  have hlen := h.1
  have GV := Lib.hid (implGridValid_any A n c B xs w h hB hb hx)
  cases hg : gvB xs with
  | false =>
    rw [hg] at GV
    have GN := Lib.hid (turnN_no hg)
    clear hg h hx hlen
    go_enter Tryd.func13, Tryd.ntmps13
    go_wp2_with fail
    refine GV.out.mono ?_
    rintro e w1 ⟨rfl, hb1⟩
    go_wp2_with fail
    go_ret2
    exact ⟨_, rfl, by rw [GN.out]; exact World.ownsRow_nil _ _ _ _, hb1⟩
  | true =>
    rw [hg] at GV
    obtain ⟨⟨hn1, hn6⟩, hwd, hrow⟩ := gv_parts hg
    obtain ⟨b, off, rfl, hlb, hc⟩ := h.2 (by omega)
    have GN := Lib.hid (turnN_yes hg)
    have g0 := hc 0 (by omega)
    rw [Nat.add_zero] at g0
    obtain ⟨wd, hwe⟩ : ∃ wd, wd = wideN xs := ⟨_, rfl⟩
    have hww : wideN xs = (xs[0]?.getD ByteArray.empty).size := rfl
    rw [← hww, ← hwe] at hwd
    obtain ⟨s0, hs0⟩ : ∃ s0, s0 = xs[0]?.getD ByteArray.empty := ⟨_, rfl⟩
    rw [← hs0] at g0
    have hsz : (s0.size : Int) = (wd : Int) := by rw [hs0, hwe]; rfl
    have HROW := Lib.hid (fun k (hk : k < xs.length) => (show (xs[k]?.getD ByteArray.empty).size = wd by rw [hwe]; exact (hrow _ (by rw [List.getElem?_eq_getElem hk]; exact List.getElem_mem hk)).1))
    have HW := Lib.hid hwe
    have HL := Lib.hid hlen
    have HC := Lib.hid hc
    have hn0 : (0 : Int) < (n : Int) := by omega
    rw [hlen] at hn1 hn6
    clear hg h hx hlen hrow hs0 hww hwe hc
    obtain ⟨i0, hi, hz0, hz1, hz2⟩ := info_parts Tryd.info_string
    go_enter Tryd.func13, Tryd.ntmps13
    go_wp2_with fail
    refine GV.out.mono ?_
    rintro e w1 ⟨rfl, hb1⟩
    have g1 := (hb1.cell (p := ⟨b, off, none⟩) (show b < w.heap.size by omega)).trans g0
    clear g0 GV
    go_wp2_with (at_make; go_must (refine wpList_make_full _ rfl _ _ 23 rfl w1.heap.size 9 i0 (.string ByteArray.empty) 1 Tryd.underlying23 hi hz0 hz1 .i64 .i64 _ _ wd rfl rfl rfl rfl (by rw [hz2]; omega) (by unfold maxLen; omega) (Nat.le_refl _) ?_); intro w2 hown hgrow)
    have H0 : Hid (OwnT w2 w1.heap.size (.slice (some ⟨w1.heap.size, 0, none⟩) wd wd) (turnL xs 0)) := by
      have e : turnL xs 0 = List.replicate wd ByteArray.empty := by
        unfold turnL
        rw [← HW.out]
        refine List.ext_getElem (by simp) fun i h1 h2 => ?_
        simp [colN]
        rfl
      rw [e]
      exact OwnT.made hown
    have hb2 : Below w.heap.size w w2 := hb1.trans ((Below.refl _ w1).grown hgrow hb1.size (fun k e => by cases e))
    obtain ⟨T, hT⟩ : ∃ T, T = w1.heap.size := ⟨_, rfl⟩
    have hTw : w.heap.size ≤ T := by have := hb1.size; omega
    rw [← hT] at H0 ⊢
    have HB2 := Lib.hid hb2
    clear hown hgrow hi hz0 hz1 hz2 hT hb2 g1 hb1 hsz hn0
    go_loopw [18] (fun i wr => ∃ k : Nat, k ≤ n ∧ i = .int .i64 k ∧ Hid (OwnT wr T (.slice (some ⟨T, 0, none⟩) wd wd) (turnL xs k)) ∧ Below w.heap.size w wr) (fun i _ => n - (intOf i).toNat)
    case atStart => exact ⟨0, Nat.zero_le _, rfl, H0, HB2.out⟩
    case round =>
      obtain ⟨k, hk, rfl, HO, hbe⟩ := hrel
      obtain ⟨wA, hwA⟩ : ∃ wA, wA = wr := ⟨_, rfl⟩
      rw [← hwA] at HO hbe ⊢
      clear hwA
      by_cases hlt : k < n
      · have g1 := (hbe.cell (p := ⟨b, off + k, none⟩) (show b < w.heap.size by omega)).trans (HC.out k hlt)
        have hkx : k < xs.length := by have := HL.out; omega
        have hsz := HROW.out k hkx
        have hst : ∀ j, colN xs j (k + 1) = colN xs j k ++ (xs[k]?.getD ByteArray.empty).extract j (j + 1) := fun j => rfl
        have hcs : ∀ j, (colN xs j k).size ≤ k := fun j => colN_size k
        have START : Hid (OwnT wA T (.slice (some ⟨T, 0, none⟩) wd wd) ((turnL xs (k + 1)).take 0 ++ (turnL xs k).drop 0)) := HO
        revert g1 hsz hst
        generalize xs[k]?.getD ByteArray.empty = s
        intro g1 hsz hst
        have HST := Lib.hid (And.intro hst hcs)
        have HSZ := Lib.hid hsz
        have HBE := Lib.hid hbe
        have hkk : (k : Int) < (n : Int) := by omega
        clear H0 HB2 HO hkx hst hcs hbe hsz
        go_wp2_with fail
        go_loopw [24] (fun i wz => ∃ j : Nat, j ≤ wd ∧ i = .int .i64 j ∧ Hid (OwnT wz T (.slice (some ⟨T, 0, none⟩) wd wd) ((turnL xs (k + 1)).take j ++ (turnL xs k).drop j)) ∧ Below w.heap.size w wz) (fun i _ => wd - (intOf i).toNat)
        case atStart => exact ⟨0, Nat.zero_le _, rfl, START, HBE.out⟩
        case round =>
          obtain ⟨j, hj, rfl, HO, hbe⟩ := hrel
          obtain ⟨wB, hwB⟩ : ∃ wB, wB = wr := ⟨_, rfl⟩
          rw [← hwB] at HO hbe ⊢
          clear hwB START
          by_cases hjl : j < wd
          · have hjw : j < wideN xs := by have := HW.out; omega
            have g2 := HO.out.slot hjl
            rw [turnL_now hjw] at g2
            have g3 := HO.out.free j
            have hs := HO.out.set_ j (colN xs j (k + 1))
            rw [turnL_step hjw, HST.out.1 j] at hs
            have hb3 := hbe.setCell (p := ⟨T, j, none⟩) hTw (.string (colN xs j k ++ s.extract j (j + 1)))
            have hcs := HST.out.2 j
            have hes : (s.extract j (j + 1)).size = 1 := by rw [ByteArray.size_extract]; have := HSZ.out; omega
            have hjj : (j : Int) < (wd : Int) := by omega
            have hwr : IntKind.i64.wrap ((j : Int) + 1) = (j : Int) + 1 := IntWalk.i64_in _ (by omega)
            have hsl := cut_one (s := s) (j := j) (by have := HSZ.out; omega)
            revert g2 hs hb3 hcs
            generalize colN xs j k = cs
            intro g2 hs hb3 hcs
            have HS := Lib.hid (And.intro hs hb3)
            clear hs hb3 HO hbe hjw
            go_wp2_with fail
            go_region
            go_wp2_with fail
            go_roundw
            case rel => exact ⟨j + 1, by omega, by go_num, Lib.hid HS.out.1, below_drewN HS.out.2 1⟩
            case measure => simp [intOf]; omega
          · obtain rfl : j = wd := by omega
            have hfull : (turnL xs (k + 1)).take j ++ (turnL xs k).drop j = turnL xs (k + 1) := by
              rw [List.take_of_length_le (by rw [turnL_len, ← HW.out]; exact Nat.le_refl _), List.drop_eq_nil_of_le (by rw [turnL_len, ← HW.out]; exact Nat.le_refl _), List.append_nil]
            rw [hfull] at HO
            clear hfull
            go_wp2_with fail
            go_roundw
            case rel => exact ⟨k + 1, by omega, by go_num, HO, hbe⟩
            case measure => simp [intOf]; omega
      · obtain rfl : k = n := by omega
        have GE := Lib.hid (GN.out.trans (by rw [HL.out]))
        clear H0 HB2
        go_wp2_with fail
        go_ret2
        exact ⟨_, rfl, by rw [GE.out]; exact HO.out.less hTw, hbe⟩

set_option maxRecDepth 100000 in
set_option maxHeartbeats 2000000 in
theorem specTurn_any (A : Option Addr) (n c B : Nat) (xs : List ByteArray) (w : World) (h : RdT w B A n xs) (hB : B ≤ w.heap.size) (hb : n ≤ 1048576) (hx : ∀ x ∈ xs, x.size ≤ 1048576) :
    Calls Tryd.prog 14 #[.slice A n c] w fun e w' => ∃ v, e = .returned (.tuple #[v, .bool (gvB xs)]) ∧ OwnT w' w.heap.size v (turnN xs) ∧ Below w.heap.size w w' := by
  have hlen := h.1
  have GV := Lib.hid (fun (W : World) (hbe : Below w.heap.size w W) => specGridValid_any A n c B xs W (h.below hbe hB) hb hx)
  obtain ⟨wE, hE⟩ : ∃ wE, wE = w.alloc (.cells #[] 9) := ⟨_, rfl⟩
  have hbE : Below w.heap.size w wE := by rw [hE]; exact (Below.refl _ _).alloc (Nat.le_refl _) _
  have HOE : OwnT wE w.heap.size (.slice (some ⟨w.heap.size, 0, none⟩) 0 0) [] := by rw [hE]; exact OwnT.lit w _ [] (Nat.le_refl _) (by simp)
  have GE := Lib.hid (GV.out wE hbE)
  have HE := Lib.hid (And.intro hbE HOE)
  clear hbE HOE GV
  cases hg : gvB xs with
  | false =>
    rw [hg] at GE
    have GN := Lib.hid (turnN_no hg)
    have HEE := Lib.hid hE
    clear hg h hx hlen hE
    go_enter Tryd.func14, Tryd.ntmps14
    go_wp2_with fail
    rw [← HEE.out]
    refine GE.out.mono ?_
    rintro e w1 ⟨rfl, rfl⟩
    go_wp2_with fail
    go_ret2
    exact ⟨_, rfl, by rw [GN.out]; exact HE.out.2, HE.out.1⟩
  | true =>
    rw [hg] at GE
    obtain ⟨⟨hn1, hn6⟩, hwd, hrow⟩ := gv_parts hg
    obtain ⟨b, off, rfl, hlb, hc⟩ := h.2 (by omega)
    have GN := Lib.hid (turnN_yes hg)
    have g0 := hc 0 (by omega)
    rw [Nat.add_zero] at g0
    obtain ⟨wd, hwe⟩ : ∃ wd, wd = wideN xs := ⟨_, rfl⟩
    have hww : wideN xs = (xs[0]?.getD ByteArray.empty).size := rfl
    rw [← hww, ← hwe] at hwd
    obtain ⟨s0, hs0⟩ : ∃ s0, s0 = xs[0]?.getD ByteArray.empty := ⟨_, rfl⟩
    rw [← hs0] at g0
    have hsz : (s0.size : Int) = (wd : Int) := by rw [hs0, hwe]; rfl
    have HROW := Lib.hid (fun k (hk : k < xs.length) => (show (xs[k]?.getD ByteArray.empty).size = wd by rw [hwe]; exact (hrow _ (by rw [List.getElem?_eq_getElem hk]; exact List.getElem_mem hk)).1))
    have HW := Lib.hid hwe
    have HL := Lib.hid hlen
    have HC := Lib.hid hc
    have HEE := Lib.hid hE
    have hn0 : (0 : Int) < (n : Int) := by omega
    rw [hlen] at hn1 hn6
    have g1 := (HE.out.1.cell (p := ⟨b, off, none⟩) (show b < w.heap.size by omega)).trans g0
    clear hg h hx hlen hrow hs0 hww hwe hc hE g0
    go_enter Tryd.func14, Tryd.ntmps14
    go_wp2_with fail
    rw [← HEE.out]
    refine GE.out.mono ?_
    rintro e w1 ⟨rfl, rfl⟩
    have H0 : Hid (∃ v, Value.slice (some ⟨w.heap.size, 0, none⟩) 0 0 = v ∧ OwnT w1 w.heap.size v ((turnL xs n).take 0)) := ⟨_, rfl, HE.out.2⟩
    have HB1 := Lib.hid HE.out.1
    clear GE HEE
    go_wp2_with fail
    clear g1 hsz hn0
    go_loopw [4, 18] (fun v i wr => ∃ j : Nat, j ≤ wd ∧ i = .int .i64 j ∧ Hid (OwnT wr w.heap.size v ((turnL xs n).take j)) ∧ Below w.heap.size w wr) (fun _ i _ => wd - (intOf i).toNat)
    case atStart => exact ⟨0, Nat.zero_le _, rfl, HE.out.2, HB1.out⟩
    case round =>
      obtain ⟨j, hj, rfl, HO, hbe⟩ := hrel
      by_cases hlt : j < wd
      · have hjw : j < wideN xs := by have := HW.out; omega
        have hjj : (j : Int) < (wd : Int) := by omega
        have htk : (turnL xs n).take (j + 1) = (turnL xs n).take j ++ [colN xs j n] := by
          rw [List.take_succ_eq_append_getElem (by rw [turnL_len]; exact hjw)]
          have := turnL_get xs n hjw
          rw [List.getElem?_eq_getElem (by rw [turnL_len]; exact hjw), Option.getD_some] at this
          rw [this]
        have HT := Lib.hid (And.intro htk (show ((turnL xs n).take j).length ≤ 1048576 by rw [List.length_take, turnL_len]; have := HW.out; omega))
        have HBE := Lib.hid hbe
        obtain ⟨wA, hwA⟩ : ∃ wA, wA = wr := ⟨_, rfl⟩
        rw [← hwA] at HO HBE ⊢
        clear hwA htk hbe hjw H0 HB1
        go_wp2_with fail
        go_loop [6, 23] (fun v i => ∃ k : Nat, k ≤ n ∧ i = .int .i64 k ∧ v = .string (colN xs j k)) (fun _ i => n - (intOf i).toNat)
        case atStart => exact ⟨0, Nat.zero_le _, rfl, rfl⟩
        case round =>
          obtain ⟨k, hk, rfl, rfl⟩ := hrel
          by_cases hkn : k < n
          · have g1 := (HBE.out.cell (p := ⟨b, off + k, none⟩) (show b < w.heap.size by omega)).trans (HC.out k hkn)
            have hsz := HROW.out k (by have := HL.out; omega)
            have hst : colN xs j (k + 1) = colN xs j k ++ (xs[k]?.getD ByteArray.empty).extract j (j + 1) := rfl
            have hcs : (colN xs j k).size ≤ k := colN_size k
            revert g1 hsz hst
            generalize xs[k]?.getD ByteArray.empty = s
            intro g1 hsz hst
            have hsl := cut_one (s := s) (j := j) (by omega)
            have hes : (s.extract j (j + 1)).size = 1 := by rw [ByteArray.size_extract]; omega
            have HST := Lib.hid hst
            have hwr : IntKind.i64.wrap ((j : Int) + 1) = (j : Int) + 1 := IntWalk.i64_in _ (by omega)
            clear hst hsz
            have hkk : (k : Int) < (n : Int) := by omega
            revert hcs HST
            generalize colN xs j k = cs
            intro hcs HST
            go_wp2_with fail
            go_round
            case rel => exact ⟨k + 1, by omega, by go_num, by rw [HST.out]⟩
            case measure => simp [intOf]; omega
          · obtain rfl : k = n := by omega
            have hsz := HBE.out.size
            obtain ⟨cs, hcs⟩ : ∃ cs, cs = colN xs j k := ⟨_, rfl⟩
            rw [← hcs] at HT ⊢
            clear hcs
            have HO2 := HO.out
            have hl2 := HT.out.2
            go_wp2_with (at_builtin; go_must (refine wpList_pushT rfl (.tmp 35) (.tmp 37) rfl wA w.heap.size u4 ((turnL xs k).take j) cs rfl rfl HO2 hl2 hsz ?_); intro v' w' ho' hg' _)
            have hbe' : Below w.heap.size w w' := HBE.out.grown hg' hsz (fun r e => (HO2.blockOf r e).1)
            rw [← HT.out.1] at ho'
            have HO3 := Lib.hid ho'
            clear hg' ho' HO2 HO
            go_wp2_with fail
            go_roundw
            case rel => exact ⟨j + 1, by omega, by go_num, HO3, hbe'⟩
            case measure => simp [intOf]; omega
      · obtain rfl : j = wd := by omega
        have GE := Lib.hid (GN.out.trans (by rw [HL.out]))
        have hfull : (turnL xs n).take j = turnL xs n := List.take_of_length_le (by rw [turnL_len, ← HW.out]; exact Nat.le_refl _)
        rw [hfull, ← GE.out] at HO
        clear H0 HB1 hfull
        go_wp2_with fail
        go_ret2
        exact ⟨_, rfl, HO.out, hbe⟩
end Go.Proofs.YtecleelcnjhimaaDoor
