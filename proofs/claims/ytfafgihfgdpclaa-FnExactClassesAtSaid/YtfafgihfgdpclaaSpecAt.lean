/- The specification's forests of times: l7At, l7Asked, ForestAt, RootAt, TogetherAt. Condition: lengths up to 1048576. -/
import Derived.Test.YtfafgihfgdpclaaTimed
import Derived.Test.YtfafgihfgdpclaaSeqMut
namespace Go.Proofs.Ytfafgihfgdpclaa
open Go.RowKit

theorem take_snoc_i {xs : List Int} {k : Nat} (h : k < xs.length) : xs.take (k + 1) = xs.take k ++ [xs[k]?.getD 0] := by
  rw [List.take_succ_eq_append_getElem h]
  simp [h]
/-- Whether there is a forest of that time. -/
def askB (us ts : List Int) (m : Int) : Bool := tmB us ts && decide (0 ≤ m ∧ m ≤ 24)
def faL (us ts : List Int) (m : Int) : List Int := if askB us ts m = true then atL us ts m else []
theorem faL_yes {us ts : List Int} {m : Int} (h : askB us ts m = true) : faL us ts m = atL us ts m := by unfold faL; rw [if_pos h]
theorem faL_no {us ts : List Int} {m : Int} (h : askB us ts m = false) : faL us ts m = [] := by unfold faL; rw [h]; simp
theorem askB_parts {us ts : List Int} {m : Int} (h : askB us ts m = true) : tmB us ts = true ∧ 0 ≤ m ∧ m ≤ 24 := by
  unfold askB at h
  simp only [Bool.and_eq_true, decide_eq_true_eq] at h
  exact h
theorem askB_tm {us ts : List Int} {m : Int} (h : tmB us ts = false) : askB us ts m = false := by unfold askB; rw [h]; rfl
theorem fv_nil : fvB [] = false := rfl
theorem rootN_nil (i : Int) : rootN [] i = -1 := rootN_no (item_no fv_nil)
theorem togB_nil (a b : Int) : togB [] a b = false := togB_no (item_no fv_nil)
theorem faL_len (us ts : List Int) (m : Int) : (faL us ts m).length ≤ us.length := by
  unfold faL
  split
  · rw [atL_len]; exact Nat.le_refl _
  · simp

set_option maxRecDepth 100000 in
set_option maxHeartbeats 4000000 in
theorem l7At_any (A1 A2 : Option Addr) (n c1 c2 B0 : Nat) (m : Int) (us ts : List Int) (w : World) (h1 : Rd w B0 A1 n us) (h2 : Rd w B0 A2 n ts) (hB0 : B0 ≤ w.heap.size) (hb1 : n ≤ 1048576) :
    Calls Try.prog 145 #[.agg #[.slice A1 n c1, .slice A2 n c2], .int .i64 m] w fun e w' => ∃ v, e = .returned v ∧ Own w' w.heap.size v (atL us ts m) ∧ Below w.heap.size w w' := by
  obtain ⟨W, hW⟩ : ∃ W, W = w.alloc (.cells #[.slice A1 n c1, .slice A2 n c2] 64) := ⟨_, rfl⟩
  have hbW : Below w.heap.size w W := by rw [hW]; exact (Below.refl _ _).alloc (Nat.le_refl _) _
  have hA : W.heap[w.heap.size]? = some (.cells #[.slice A1 n c1, .slice A2 n c2] 64 (0, 0)) := by rw [hW]; exact World.alloc_heap_new w _
  have hsW : W.heap.size = w.heap.size + 1 := by rw [hW]; simp
  obtain ⟨U, hU⟩ : ∃ U, U = W.alloc (.cells #[] 3) := ⟨_, rfl⟩
  have hbU : Below W.heap.size W U := by rw [hU]; exact (Below.refl _ _).alloc (Nat.le_refl _) _
  have hoU : Own U W.heap.size (.slice (some ⟨W.heap.size, 0, none⟩) 0 0) [] := by rw [hU]; exact Own.lit W _ [] (Nat.le_refl _) (by simp)
  have hl1 := h1.1
  have hl2 := h2.1
  obtain ⟨P, hP⟩ : ∃ P, P = w.heap.size := ⟨_, rfl⟩
  obtain ⟨G, hG⟩ : ∃ G, G = W.heap.size := ⟨_, rfl⟩
  rw [← hP] at hA
  have hPU := (hbU.block P (by omega)).trans hA
  have hbb : Below G U U := Below.refl _ _
  rw [← hG] at hoU hbU
  have HW := Lib.hid (And.intro hbW (And.intro (h1.below hbW hB0) (And.intro (h2.below hbW hB0) (And.intro (show B0 ≤ G by omega) (show P < G by omega)))))
  have HU := Lib.hid (And.intro hbU hPU)
  have HE := Lib.hid (And.intro hW (And.intro hP (And.intro hU hG)))
  have HL := Lib.hid (And.intro hl1 hl2)
  have hatl := atL_len us ts m
  have HATL := Lib.hid hatl
  have HI : Hid (Own U G (.slice (some ⟨P + 1, 0, none⟩) 0 0) ((atL us ts m).take 0) ∧ Below G U U) := by
    rw [show P + 1 = G by omega]
    exact ⟨hoU, hbb⟩
  obtain ⟨⟨k1, k2⟩, _⟩ := boxTwo_cells hPU
  have k1u := k1
  rw [hU, hW, hP] at k1u
  clear h1 h2 hB0 hW hbW hsW hA hU hbU hoU hP hPU hbb hl1 hl2 hatl hG
  go_enter Try.func145, Try.ntmps145
  go_wp2_with fail
  rw [← HE.out.1, ← HE.out.2.2.1, ← HE.out.2.1]
  clear k1u k1 k2
  go_loopw [5, 12] (fun v i wr => ∃ k : Nat, k ≤ n ∧ i = .int .i64 k ∧ Hid (Own wr G v ((atL us ts m).take k) ∧ Below G U wr)) (fun _ i _ => n - (intOf i).toNat)
  case atStart => exact ⟨0, Nat.zero_le _, rfl, HI⟩
  case round =>
    obtain ⟨k, hk, rfl, HK⟩ := hrel
    clear HI
    obtain ⟨ho, hbr⟩ := HK.out
    have hsz := hbr.size
    have hUs : G ≤ U.heap.size := HU.out.1.size |> fun h => by have := HE.out.2.2.2; omega
    by_cases hlt : k < n
    · have hkk : (k : Int) < (n : Int) := by omega
      have hbr2 : Below G W wr := HU.out.1.trans hbr
      obtain ⟨⟨a1, a2⟩, _⟩ := boxTwo_cells ((hbr.block P HW.out.2.2.2.2).trans HU.out.2)
      obtain ⟨b1, o1, rfl, _, q1⟩ := (HW.out.2.1.below hbr2 HW.out.2.2.2.1).2 (by omega)
      obtain ⟨b2, o2, rfl, _, q2⟩ := (HW.out.2.2.1.below hbr2 HW.out.2.2.2.1).2 (by omega)
      have g1 := q1 k hlt
      have g2 := q2 k hlt
      have hget := atL_get (us := us) (ts := ts) (m := m) (i := k) (by have := HL.out; omega)
      have hsnoc : (atL us ts m).take (k + 1) = (atL us ts m).take k ++ [(atL us ts m)[k]?.getD 0] := take_snoc_i (by have := HATL.out; have := HL.out; omega)
      rw [hget] at hsnoc
      obtain ⟨u, hu⟩ : ∃ u, u = us[k]?.getD 0 := ⟨_, rfl⟩
      obtain ⟨t, htt⟩ : ∃ t, t = ts[k]?.getD 0 := ⟨_, rfl⟩
      rw [← hu] at g1 hsnoc
      rw [← htt] at g2 hsnoc
      obtain ⟨zs, hzs⟩ : ∃ zs, zs = (atL us ts m).take k := ⟨_, rfl⟩
      have hzl : zs.length ≤ 1048576 := by rw [hzs, List.length_take]; omega
      rw [← hzs] at ho hsnoc
      have HO := Lib.hid (And.intro ho (And.intro hbr (And.intro (show G ≤ wr.heap.size by omega) hzl)))
      clear q1 q2 hu htt hget hzs hsz ho hbr hbr2 hzl HK hUs
      by_cases hm : m < t
      · rw [if_pos hm] at hsnoc
        have HS := Lib.hid hsnoc
        clear hsnoc
        go_wp2_with (at_builtin; go_must (refine wpList_push rfl (.tmp 25) (.tmp 27) rfl wr G _ zs (k : Int) rfl rfl HO.out.1 HO.out.2.2.2 HO.out.2.2.1 ?_); intro v' w' ho' hg' _)
        have HI2 : Hid (Own w' G v' ((atL us ts m).take (k + 1)) ∧ Below G U w') := ⟨by rw [HS.out]; exact ho', HO.out.2.1.grown hg' HO.out.2.2.1 (fun r e => (HO.out.1.blockOf r e).1)⟩
        clear ho' hg'
        go_wp2
        go_roundw
        case rel => exact ⟨k + 1, by omega, by go_num, HI2⟩
        case measure => simp [intOf]; omega
      · rw [if_neg hm] at hsnoc
        have HS := Lib.hid hsnoc
        clear hsnoc
        go_wp2_with (at_builtin; go_must (refine wpList_push rfl (.tmp 25) (.tmp 27) rfl wr G _ zs u rfl rfl HO.out.1 HO.out.2.2.2 HO.out.2.2.1 ?_); intro v' w' ho' hg' _)
        have HI2 : Hid (Own w' G v' ((atL us ts m).take (k + 1)) ∧ Below G U w') := ⟨by rw [HS.out]; exact ho', HO.out.2.1.grown hg' HO.out.2.2.1 (fun r e => (HO.out.1.blockOf r e).1)⟩
        clear ho' hg'
        go_wp2
        go_roundw
        case rel => exact ⟨k + 1, by omega, by go_num, HI2⟩
        case measure => simp [intOf]; omega
    · obtain rfl : k = n := by omega
      rw [List.take_of_length_le (by have := HATL.out; have := HL.out; omega)] at ho
      have HO := Lib.hid (And.intro (ho.less (show w.heap.size ≤ G by have := HE.out.2.1; have := HW.out.2.2.2.2; omega)) (Below.on HW.out.1 (by have := HE.out.2.2.2; rw [← this]; exact HU.out.1.trans hbr)))
      clear ho hbr HK hsz hUs
      go_wp2
      go_ret
      exact ⟨_, rfl, HO.out⟩
set_option maxHeartbeats 2000000 in
theorem l7Asked_any (A1 A2 : Option Addr) (n1 c1 n2 c2 B0 : Nat) (m : Int) (us ts : List Int) (w : World) (h1 : Rd w B0 A1 n1 us) (h2 : Rd w B0 A2 n2 ts) (hB0 : B0 ≤ w.heap.size) (hb1 : n1 ≤ 1048576) (hb2 : n2 ≤ 1048576) :
    Calls Try.prog 146 #[.agg #[.slice A1 n1 c1, .slice A2 n2 c2], .int .i64 m] w fun e w' => e = .returned (.bool (askB us ts m)) ∧ Below w.heap.size w w' := by
  obtain ⟨W, hW⟩ : ∃ W, W = w.alloc (.cells #[.slice A1 n1 c1, .slice A2 n2 c2] 64) := ⟨_, rfl⟩
  have hbW : Below w.heap.size w W := by rw [hW]; exact (Below.refl _ _).alloc (Nat.le_refl _) _
  have SV := specTimed_any A1 A2 n1 c1 n2 c2 B0 us ts W (h1.below hbW hB0) (h2.below hbW hB0) (Nat.le_trans hB0 hbW.size) hb1 hb2
  have LI := Lib.hid (fun (w2 : World) => l1In_any m 0 24 w2)
  have HA : Hid (askB us ts m = (tmB us ts && decide (0 ≤ m ∧ m ≤ 24))) := rfl
  obtain ⟨f, hf⟩ : ∃ f, f = tmB us ts := ⟨_, rfl⟩
  obtain ⟨g, hg⟩ : ∃ g, g = decide (0 ≤ m ∧ m ≤ 24) := ⟨_, rfl⟩
  rw [← hf] at SV HA
  rw [← hg] at LI HA
  have SV := Lib.hid SV
  have HB := Lib.hid hbW
  have HE := Lib.hid hW
  clear h1 h2 hB0 hW hbW hf hg
  cases f with
  | false =>
    have HF := Lib.hid (HA.out.trans (Bool.false_and _))
    go_enter Try.func146, Try.ntmps146
    go_wp2_with fail
    rw [← HE.out]
    refine SV.out.mono ?_
    rintro e w1 ⟨rfl, hb⟩
    have HB2 := Lib.hid (Below.on HB.out hb)
    clear hb
    go_wp2_with fail
    go_ret
    exact ⟨ret_bool HF.out.symm, HB2.out⟩
  | true =>
    have HF := Lib.hid (HA.out.trans (Bool.true_and _))
    go_enter Try.func146, Try.ntmps146
    go_wp2_with fail
    rw [← HE.out]
    refine SV.out.mono ?_
    rintro e w1 ⟨rfl, hb⟩
    have HB2 := Lib.hid (Below.on HB.out hb)
    clear hb
    go_wp2_with fail
    refine (LI.out _).mono ?_
    rintro e w2 ⟨rfl, rfl⟩
    go_wp2_with fail
    go_ret
    exact ⟨ret_bool HF.out.symm, HB2.out⟩
set_option maxHeartbeats 2000000 in
theorem specForestAt_any (A1 A2 : Option Addr) (n1 c1 n2 c2 B0 : Nat) (m : Int) (us ts : List Int) (w : World) (h1 : Rd w B0 A1 n1 us) (h2 : Rd w B0 A2 n2 ts) (hB0 : B0 ≤ w.heap.size) (hb1 : n1 ≤ 1048576) (hb2 : n2 ≤ 1048576) :
    Calls Try.prog 62 #[.agg #[.slice A1 n1 c1, .slice A2 n2 c2], .int .i64 m] w fun e w' => ∃ v, e = .returned (.tuple #[v, .bool (askB us ts m)]) ∧ Own w' w.heap.size v (faL us ts m) ∧ Below w.heap.size w w' := by
  obtain ⟨W, hW⟩ : ∃ W, W = w.alloc (.cells #[.slice A1 n1 c1, .slice A2 n2 c2] 64) := ⟨_, rfl⟩
  have hbW : Below w.heap.size w W := by rw [hW]; exact (Below.refl _ _).alloc (Nat.le_refl _) _
  have hsW : w.heap.size < W.heap.size := by rw [hW]; simp
  have hA : W.heap[w.heap.size]? = some (.cells #[.slice A1 n1 c1, .slice A2 n2 c2] 64 (0, 0)) := by rw [hW]; exact World.alloc_heap_new w _
  have h1W := h1.below hbW hB0
  have h2W := h2.below hbW hB0
  have hBW := Nat.le_trans hB0 hbW.size
  have SA := l7Asked_any A1 A2 n1 c1 n2 c2 B0 m us ts W h1W h2W hBW hb1 hb2
  have hl1 := h1.1
  have hl2 := h2.1
  obtain ⟨P, hP⟩ : ∃ P, P = w.heap.size := ⟨_, rfl⟩
  rw [← hP] at hA hsW
  have HW := Lib.hid (And.intro hbW (And.intro hsW hA))
  have HE := Lib.hid (And.intro hW hP)
  cases hf : askB us ts m with
  | false =>
    rw [hf] at SA
    rw [faL_no hf]
    have SA := Lib.hid SA
    clear h1 h2 hB0 hb1 hb2 hW hbW hsW hA h1W h2W hBW hl1 hl2 hP hf
    go_enter Try.func62, Try.ntmps62
    go_wp2_with fail
    rw [← HE.out.1]
    refine SA.out.mono ?_
    rintro e w1 ⟨rfl, hb⟩
    have HB := Lib.hid (Below.on HW.out.1 hb)
    clear hb
    go_wp2_with fail
    go_ret2
    exact ⟨_, rfl, Own.lit _ _ [] HB.out.size (by simp), HB.out.alloc HB.out.size _⟩
  | true =>
    rw [hf] at SA
    rw [faL_yes hf]
    obtain ⟨_, hlen, _⟩ := tmB_parts (askB_parts hf).1
    obtain rfl : n2 = n1 := by omega
    have AT := Lib.hid (fun (w8 : World) (h8 : Below W.heap.size W w8) => l7At_any A1 A2 n2 c1 c2 B0 m us ts w8 (h1W.below h8 hBW) (h2W.below h8 hBW) (Nat.le_trans hBW h8.size) hb1)
    have SA := Lib.hid SA
    clear h1 h2 hB0 hb1 hb2 hW hbW hsW hA h1W h2W hBW hl1 hl2 hP hf hlen
    go_enter Try.func62, Try.ntmps62
    go_wp2_with fail
    rw [← HE.out.1, ← HE.out.2]
    refine SA.out.mono ?_
    rintro e w1 ⟨rfl, hb⟩
    obtain ⟨⟨a1, a2⟩, _⟩ := boxTwo_cells ((hb.block P HW.out.2.1).trans HW.out.2.2)
    have HB := Lib.hid hb
    clear hb
    go_wp2_with fail
    refine (AT.out w1 HB.out).mono ?_
    rintro e w2 ⟨v, rfl, ho, hb2⟩
    have HB2 := Lib.hid (Below.on HW.out.1 (Below.on HB.out hb2))
    have HO := Lib.hid (ho.less (show w.heap.size ≤ w1.heap.size by have := HW.out.1.size; have := HB.out.size; omega))
    clear ho hb2 a1 a2
    go_wp2_with fail
    go_ret2
    exact ⟨_, rfl, HO.out, HB2.out⟩
set_option maxHeartbeats 2000000 in
theorem specRootAt_any (A1 A2 : Option Addr) (n1 c1 n2 c2 B0 : Nat) (i m : Int) (us ts : List Int) (w : World) (h1 : Rd w B0 A1 n1 us) (h2 : Rd w B0 A2 n2 ts) (hB0 : B0 ≤ w.heap.size) (hb1 : n1 ≤ 1048576) (hb2 : n2 ≤ 1048576) :
    Calls Try.prog 92 #[.agg #[.slice A1 n1 c1, .slice A2 n2 c2], .int .i64 i, .int .i64 m] w fun e w' => e = .returned (.int .i64 (rootN (faL us ts m) i)) ∧ Below w.heap.size w w' := by
  obtain ⟨W, hW⟩ : ∃ W, W = w.alloc (.cells #[.slice A1 n1 c1, .slice A2 n2 c2] 64) := ⟨_, rfl⟩
  have hbW : Below w.heap.size w W := by rw [hW]; exact (Below.refl _ _).alloc (Nat.le_refl _) _
  have hsW : w.heap.size < W.heap.size := by rw [hW]; simp
  have hA : W.heap[w.heap.size]? = some (.cells #[.slice A1 n1 c1, .slice A2 n2 c2] 64 (0, 0)) := by rw [hW]; exact World.alloc_heap_new w _
  have h1W := h1.below hbW hB0
  have h2W := h2.below hbW hB0
  have hBW := Nat.le_trans hB0 hbW.size
  have SA := l7Asked_any A1 A2 n1 c1 n2 c2 B0 m us ts W h1W h2W hBW hb1 hb2
  have hl1 := h1.1
  have hl2 := h2.1
  obtain ⟨P, hP⟩ : ∃ P, P = w.heap.size := ⟨_, rfl⟩
  rw [← hP] at hA hsW
  have HW := Lib.hid (And.intro hbW (And.intro hsW hA))
  have HE := Lib.hid (And.intro hW hP)
  cases hf : askB us ts m with
  | false =>
    rw [hf] at SA
    rw [faL_no hf, rootN_nil]
    have SA := Lib.hid SA
    clear h1 h2 hB0 hb1 hb2 hW hbW hsW hA h1W h2W hBW hl1 hl2 hP hf
    go_enter Try.func92, Try.ntmps92
    go_wp2_with fail
    rw [← HE.out.1]
    refine SA.out.mono ?_
    rintro e w1 ⟨rfl, hb⟩
    have HB := Lib.hid (Below.on HW.out.1 hb)
    clear hb
    go_wp2_with fail
    go_ret
    exact ⟨rfl, HB.out⟩
  | true =>
    rw [hf] at SA
    rw [faL_yes hf]
    obtain ⟨_, hlen, _⟩ := tmB_parts (askB_parts hf).1
    obtain rfl : n2 = n1 := by omega
    have AT := Lib.hid (fun (w8 : World) (h8 : Below W.heap.size W w8) => l7At_any A1 A2 n2 c1 c2 B0 m us ts w8 (h1W.below h8 hBW) (h2W.below h8 hBW) (Nat.le_trans hBW h8.size) hb1)
    have hatl := atL_len us ts m
    have RO := Lib.hid (fun (A : Option Addr) (c : Nat) (w8 : World) (h : Rd w8 w8.heap.size A (atL us ts m).length (atL us ts m)) => specRoot_any A (atL us ts m).length c _ (atL us ts m) i w8 h (Nat.le_refl _) (by omega))
    have SA := Lib.hid SA
    clear h1 h2 hB0 hb1 hb2 hW hbW hsW hA h1W h2W hBW hl1 hl2 hP hf hlen hatl
    go_enter Try.func92, Try.ntmps92
    go_wp2_with fail
    rw [← HE.out.1, ← HE.out.2]
    refine SA.out.mono ?_
    rintro e w1 ⟨rfl, hb⟩
    obtain ⟨⟨a1, a2⟩, _⟩ := boxTwo_cells ((hb.block P HW.out.2.1).trans HW.out.2.2)
    have HB := Lib.hid hb
    clear hb
    go_wp2_with fail
    refine (AT.out w1 HB.out).mono ?_
    rintro e w2 ⟨v, rfl, ho, hb2⟩
    obtain ⟨A, c, rfl, hr⟩ := ho.form
    have HB2 := Lib.hid (Below.on HW.out.1 (Below.on HB.out hb2))
    have RZ := Lib.hid (RO.out A c w2 hr)
    clear ho hb2 a1 a2 hr
    go_wp2_with fail
    refine RZ.out.mono ?_
    rintro e w3 ⟨rfl, hb3⟩
    have HB3 := Lib.hid (Below.on HB2.out hb3)
    clear hb3
    go_wp2_with fail
    go_ret
    exact ⟨rfl, HB3.out⟩
set_option maxHeartbeats 2000000 in
theorem specTogAt_any (A1 A2 : Option Addr) (n1 c1 n2 c2 B0 : Nat) (a b m : Int) (us ts : List Int) (w : World) (h1 : Rd w B0 A1 n1 us) (h2 : Rd w B0 A2 n2 ts) (hB0 : B0 ≤ w.heap.size) (hb1 : n1 ≤ 1048576) (hb2 : n2 ≤ 1048576) :
    Calls Try.prog 58 #[.agg #[.slice A1 n1 c1, .slice A2 n2 c2], .int .i64 a, .int .i64 b, .int .i64 m] w fun e w' => e = .returned (.bool (togB (faL us ts m) a b)) ∧ Below w.heap.size w w' := by
  obtain ⟨W, hW⟩ : ∃ W, W = w.alloc (.cells #[.slice A1 n1 c1, .slice A2 n2 c2] 64) := ⟨_, rfl⟩
  have hbW : Below w.heap.size w W := by rw [hW]; exact (Below.refl _ _).alloc (Nat.le_refl _) _
  have hsW : w.heap.size < W.heap.size := by rw [hW]; simp
  have hA : W.heap[w.heap.size]? = some (.cells #[.slice A1 n1 c1, .slice A2 n2 c2] 64 (0, 0)) := by rw [hW]; exact World.alloc_heap_new w _
  have h1W := h1.below hbW hB0
  have h2W := h2.below hbW hB0
  have hBW := Nat.le_trans hB0 hbW.size
  have SA := l7Asked_any A1 A2 n1 c1 n2 c2 B0 m us ts W h1W h2W hBW hb1 hb2
  have hl1 := h1.1
  have hl2 := h2.1
  obtain ⟨P, hP⟩ : ∃ P, P = w.heap.size := ⟨_, rfl⟩
  rw [← hP] at hA hsW
  have HW := Lib.hid (And.intro hbW (And.intro hsW hA))
  have HE := Lib.hid (And.intro hW hP)
  cases hf : askB us ts m with
  | false =>
    rw [hf] at SA
    rw [faL_no hf, togB_nil]
    have SA := Lib.hid SA
    clear h1 h2 hB0 hb1 hb2 hW hbW hsW hA h1W h2W hBW hl1 hl2 hP hf
    go_enter Try.func58, Try.ntmps58
    go_wp2_with fail
    rw [← HE.out.1]
    refine SA.out.mono ?_
    rintro e w1 ⟨rfl, hb⟩
    have HB := Lib.hid (Below.on HW.out.1 hb)
    clear hb
    go_wp2_with fail
    go_ret
    exact ⟨rfl, HB.out⟩
  | true =>
    rw [hf] at SA
    rw [faL_yes hf]
    obtain ⟨_, hlen, _⟩ := tmB_parts (askB_parts hf).1
    obtain rfl : n2 = n1 := by omega
    have AT := Lib.hid (fun (w8 : World) (h8 : Below W.heap.size W w8) => l7At_any A1 A2 n2 c1 c2 B0 m us ts w8 (h1W.below h8 hBW) (h2W.below h8 hBW) (Nat.le_trans hBW h8.size) hb1)
    have hatl := atL_len us ts m
    have RO := Lib.hid (fun (A : Option Addr) (c : Nat) (w8 : World) (h : Rd w8 w8.heap.size A (atL us ts m).length (atL us ts m)) => specTog_any A (atL us ts m).length c _ (atL us ts m) a b w8 h (Nat.le_refl _) (by omega))
    have SA := Lib.hid SA
    clear h1 h2 hB0 hb1 hb2 hW hbW hsW hA h1W h2W hBW hl1 hl2 hP hf hlen hatl
    go_enter Try.func58, Try.ntmps58
    go_wp2_with fail
    rw [← HE.out.1, ← HE.out.2]
    refine SA.out.mono ?_
    rintro e w1 ⟨rfl, hb⟩
    obtain ⟨⟨a1, a2⟩, _⟩ := boxTwo_cells ((hb.block P HW.out.2.1).trans HW.out.2.2)
    have HB := Lib.hid hb
    clear hb
    go_wp2_with fail
    refine (AT.out w1 HB.out).mono ?_
    rintro e w2 ⟨v, rfl, ho, hb2⟩
    obtain ⟨A, c, rfl, hr⟩ := ho.form
    have HB2 := Lib.hid (Below.on HW.out.1 (Below.on HB.out hb2))
    have RZ := Lib.hid (RO.out A c w2 hr)
    clear ho hb2 a1 a2 hr
    go_wp2_with fail
    refine RZ.out.mono ?_
    rintro e w3 ⟨rfl, hb3⟩
    have HB3 := Lib.hid (Below.on HB2.out hb3)
    clear hb3
    go_wp2_with fail
    go_ret
    exact ⟨rfl, HB3.out⟩
end Go.Proofs.Ytfafgihfgdpclaa
