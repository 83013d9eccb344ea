/- FormatTimed, of the program and of the model. Condition: lengths up to 1048576. -/
import Derived.Test.YtfmhdngblpmcfaaDoorDec
import Derived.Test.YtfmhdngblpmcfaaDoorTimedIn
import Derived.Deep.RegionHeld3
namespace Go.Proofs.YtfmhdngblpmcfaaDoor
open Go.RowKit Go.Shelf

/-- The word of an item's link with its time. -/
def tmWord (a t i : Nat) : ByteArray := if (a : Int) = (i : Int) then ⟨#[46]⟩ else decT a ++ (⟨#[64]⟩ ++ decT t)
def wordsT (us ts : List Int) : List ByteArray := (List.range us.length).map fun i => tmWord (us[i]?.getD 0).toNat (ts[i]?.getD 0).toNat i
theorem wordsT_len (us ts : List Int) : (wordsT us ts).length = us.length := by simp [wordsT]
theorem wordsT_get (us ts : List Int) {i : Nat} (h : i < us.length) : (wordsT us ts)[i]?.getD ByteArray.empty = tmWord (us[i]?.getD 0).toNat (ts[i]?.getD 0).toNat i := by simp [wordsT, h]
/-- What FormatTimed answers. -/
def fmtT (us ts : List Int) : ByteArray := if tmB us ts = true then jnTo 32 (wordsT us ts) us.length else ⟨#[]⟩
theorem fmtT_yes {us ts : List Int} (h : tmB us ts = true) : fmtT us ts = jnTo 32 (wordsT us ts) us.length := by unfold fmtT; rw [if_pos h]
theorem fmtT_no {us ts : List Int} (h : tmB us ts = false) : fmtT us ts = ⟨#[]⟩ := by unfold fmtT; rw [h]; simp
theorem tm_get {us ts : List Int} (h : tmB us ts = true) {k : Nat} (hk : k < us.length) : ∃ a t : Nat, us[k]?.getD 0 = (a : Int) ∧ ts[k]?.getD 0 = (t : Int) ∧ a < 16 ∧ t ≤ 24 := by
  obtain ⟨hv, hl, hok⟩ := tmB_parts h
  have h1 := fv_in hv k hk
  have h2 := (fv_parts hv).2.1
  have h3 := hok k hk
  unfold okTm at h3
  refine ⟨(us[k]?.getD 0).toNat, (ts[k]?.getD 0).toNat, by omega, ?_, by omega, ?_⟩
  all_goals
    split at h3
    · have := of_decide_eq_true h3
      omega
    · simp only [Bool.and_eq_true, decide_eq_true_eq] at h3
      omega
theorem tmWord_size {a t i : Nat} (ha : a < 16) (ht : t ≤ 24) : (tmWord a t i).size ≤ 5 := by
  have h1 := decT_size (k := a) 1 (by omega)
  have h2 := decT_size (k := t) 1 (by omega)
  have h3 : (ByteArray.mk #[64]).size = 1 := rfl
  unfold tmWord
  split
  · show 1 ≤ 5
    omega
  · rw [ByteArray.size_append, ByteArray.size_append]
    omega
theorem wordsT_size {us ts : List Int} (h : tmB us ts = true) (k : Nat) (hk : k < (wordsT us ts).length) : ((wordsT us ts)[k]?.getD ByteArray.empty).size ≤ 5 := by
  rw [wordsT_len] at hk
  obtain ⟨a, t, e1, e2, ha, ht⟩ := tm_get h hk
  rw [wordsT_get us ts hk, e1, e2, Int.toNat_natCast, Int.toNat_natCast]
  exact tmWord_size ha ht
theorem fmtT_size {us ts : List Int} (h : tmB us ts = true) {k : Nat} (hk : k ≤ us.length) : (jnTo 32 (wordsT us ts) k).size ≤ 96 := by
  have h1 := jnTo_size (sep := 32) (wordsT_size h) k (by rw [wordsT_len]; exact hk)
  have h2 := (fv_parts (tmB_parts h).1).2.1
  omega
set_option maxRecDepth 100000 in
set_option maxHeartbeats 1000000 in
theorem wordT_any (a t i : Nat) (w : World) (ha : a < 16) (ht : t ≤ 24) :
    Calls Tryd.prog 68 #[.agg #[.int .i64 a, .int .i64 t, .int .i64 i]] w fun e w' => e = .returned (.string (tmWord a t i)) ∧ Below w.heap.size w w' := by
  obtain ⟨V, hV⟩ : ∃ V, V = w.alloc (.cells #[.int .i64 (a : Int), .int .i64 (t : Int), .int .i64 (i : Int)] 116) := ⟨_, rfl⟩
  obtain ⟨X, hX⟩ : ∃ X, X = w.heap.size := ⟨_, rfl⟩
  have hbV : Below w.heap.size w V := by rw [hV]; exact (Below.refl _ _).alloc (Nat.le_refl _) _
  have hR : V.heap[X]? = some (.cells #[.int .i64 (a : Int), .int .i64 (t : Int), .int .i64 (i : Int)] 116 (0, 0)) := by rw [hV, hX]; exact World.alloc_heap_new w _
  have LW := linkWord_any a i V (by omega)
  have IR := tmRoot_any (a : Int) (t : Int) (i : Int) V
  obtain ⟨c0, c1, c2⟩ := boxThree_cells hR
  have HV := Lib.hid (And.intro hV hX)
  have HB := Lib.hid hbV
  have HR := Lib.hid hR
  by_cases e : (a : Int) = (i : Int)
  · rw [if_pos e] at LW
    rw [decide_eq_true e] at IR
    have EW : Hid (tmWord a t i = ⟨#[46]⟩) := by show _ = _; unfold tmWord; rw [if_pos e]
    have LW := Lib.hid LW
    have IR := Lib.hid IR
    clear e hV hX hbV hR
    go_enter Tryd.func68, Tryd.ntmps68
    go_wp2_with fail
    rw [← HV.out.1, ← HV.out.2]
    refine LW.out.mono ?_
    rintro e w1 ⟨rfl, rfl⟩
    go_wp2_with fail
    refine IR.out.mono ?_
    rintro e w2 ⟨rfl, hb2⟩
    have H2 := Lib.hid (Below.on HB.out hb2)
    clear hb2
    go_wp2_with fail
    go_ret
    exact ⟨by rw [EW.out]; rfl, H2.out⟩
  · rw [if_neg e] at LW
    rw [decide_eq_false e] at IR
    have EW : Hid (tmWord a t i = decT a ++ (⟨#[64]⟩ ++ decT t)) := by show _ = _; unfold tmWord; rw [if_neg e]
    have LW := Lib.hid LW
    have IR := Lib.hid IR
    have IT := Lib.hid (fun (W : World) => itoa_any t W (by omega))
    have h1 := decT_size (k := a) 1 (by omega)
    have h2 := decT_size (k := t) 1 (by omega)
    have h3 : (ByteArray.mk #[64]).size = 1 := rfl
    revert LW IT EW h1 h2
    generalize decT a = s
    generalize decT t = r
    intro EW LW IT h1 h2
    have h4 : (ByteArray.mk #[64] ++ r).size ≤ 3 := by rw [ByteArray.size_append, h3]; omega
    clear e hV hX hbV hR
    go_enter Tryd.func68, Tryd.ntmps68
    go_wp2_with fail
    rw [← HV.out.1, ← HV.out.2]
    refine LW.out.mono ?_
    rintro e w1 ⟨rfl, rfl⟩
    go_wp2_with fail
    refine IR.out.mono ?_
    rintro e w2 ⟨rfl, hb2⟩
    have c3 := (boxThree_cells ((hb2.block X (Array.getElem?_eq_some_iff.1 HR.out).1).trans HR.out)).2.1
    have H2 := Lib.hid (Below.on HB.out hb2)
    clear hb2 c0 c1 c2
    go_wp2_with fail
    refine (IT.out _).mono ?_
    rintro e w3 ⟨rfl, rfl⟩
    go_wp2_with fail
    go_ret
    exact ⟨by rw [EW.out]; rfl, H2.out⟩

theorem joinNone_any (w : World) : Calls Tryd.prog 42 #[.slice none 0 0, .string ⟨#[32]⟩] w fun e w' => e = .returned (.string ⟨#[]⟩) ∧ w' = w :=
  Any.strings_Join_none Tryd.layJoin Tryd.joinX none 0 ⟨#[32]⟩ w

set_option maxRecDepth 100000 in
set_option maxHeartbeats 2000000 in
theorem implFmtT_any (A1 A2 : Option Addr) (n1 c1 n2 c2 B0 : Nat) (us ts : List Int) (w : World) (h1 : Rd w B0 A1 n1 us) (h2 : Rd w B0 A2 n2 ts) (hB0 : B0 ≤ w.heap.size) (hb1 : n1 ≤ 1048576) (hb2 : n2 ≤ 1048576) :
    Calls Tryd.prog 36 #[.agg #[.slice A1 n1 c1, .slice A2 n2 c2]] w fun e w' => e = .returned (.string (fmtT us ts)) ∧ Below w.heap.size w w' := by
  obtain ⟨W, hW⟩ : ∃ W, W = w.alloc (.cells #[.slice A1 n1 c1, .slice A2 n2 c2] 64) := ⟨_, rfl⟩
  have hbW : Below w.heap.size w W := by rw [hW]; exact (Below.refl _ _).alloc (Nat.le_refl _) _
  have TE := Lib.hid (timedForestOf_any A1 A2 n1 c1 n2 c2 B0 us ts W (h1.below hbW hB0) (h2.below hbW hB0) (Nat.le_trans hB0 hbW.size) hb1 hb2)
  have HW := Lib.hid hW
  have HBW := Lib.hid hbW
  have HL := Lib.hid h1.1
  clear h1 h2 hB0 hW hbW
  go_enter Tryd.func36, Tryd.ntmps36
  go_wp2_with fail
  rw [← HW.out]
  refine TE.out.mono ?_
  rintro e w1 ⟨hbe1, hcase⟩
  rcases hcase with ⟨hv, rfl⟩ | ⟨hv, T, rfl, hK, hT⟩
  · have GN := Lib.hid (fmtT_no hv)
    have H1 := Lib.hid (Below.on HBW.out hbe1)
    clear hv hbe1 TE
    go_wp2_with fail
    refine wp_loop_rounds 1 ?_
    rw [rounds_succ]
    go_wp2_with fail
    refine (joinNone_any _).mono ?_
    rintro e w2 ⟨rfl, rfl⟩
    go_wp2_with fail
    go_ret
    exact ⟨by rw [GN.out]; rfl, H1.out⟩
  · have HG := Lib.hid (fun k (hk : k < us.length) => tm_get hv hk)
    have HSZ := Lib.hid (fmtT_size hv (Nat.le_refl _))
    have GN := Lib.hid (fmtT_yes hv)
    have hn16 : n1 ≤ 16 := by have := (fv_parts (tmB_parts hv).1).2.1; have := HL.out; omega
    have hn1 : 1 ≤ n1 := by have := (fv_parts (tmB_parts hv).1).1; have := HL.out; omega
    have H1 := Lib.hid (Below.on HBW.out hbe1)
    have HK := Lib.hid hK
    have hTl := hK.lt
    have H0 : Hid (OwnT w1 w1.heap.size (.slice none 0 0) ((wordsT us ts).take 0)) := ⟨by simp, .inl ⟨rfl, by simp⟩⟩
    have HI0 : Hid (Below w1.heap.size w1 w1) := Below.refl _ _
    clear hv hbe1 hK TE
    go_wp2_with fail
    go_loopw [3, 9] (fun v i wr => ∃ k : Nat, k ≤ n1 ∧ i = .int .i64 k ∧ Hid (OwnT wr w1.heap.size v ((wordsT us ts).take k)) ∧ Hid (Below w1.heap.size w1 wr)) (fun _ i _ => n1 - (intOf i).toNat)
    case atStart => exact ⟨0, Nat.zero_le _, rfl, H0, HI0⟩
    case round =>
      obtain ⟨k, hk, rfl, HO, HBE⟩ := hrel
      clear H0 HI0
      by_cases hlt : k < n1
      · have hkx : k < us.length := by have := HL.out; omega
        obtain ⟨a, t, e1, e2, ha, ht⟩ := HG.out k hkx
        obtain ⟨g1, g2, g3⟩ := (HK.out.below HBE.out hTl).all hlt
        rw [e1] at g1
        rw [e2] at g2
        obtain ⟨V, hV⟩ : ∃ V, V = wr.alloc (.cells #[.int .i64 (a : Int), .int .i64 (t : Int), .int .i64 (k : Int)] 116) := ⟨_, rfl⟩
        obtain ⟨X, hX⟩ : ∃ X, X = wr.heap.size := ⟨_, rfl⟩
        have hbV : Below wr.heap.size wr V := by rw [hV]; exact (Below.refl _ _).alloc (Nat.le_refl _) _
        have hR : V.heap[X]? = some (.cells #[.int .i64 (a : Int), .int .i64 (t : Int), .int .i64 (k : Int)] 116 (0, 0)) := by rw [hV, hX]; exact World.alloc_heap_new wr _
        obtain ⟨d0, d1, d2⟩ := boxThree_cells hR
        have WD := Lib.hid (wordT_any a t k V ha ht)
        have hwg := wordsT_get us ts hkx
        rw [e1, e2, Int.toNat_natCast, Int.toNat_natCast] at hwg
        have htk : (wordsT us ts).take (k + 1) = (wordsT us ts).take k ++ [tmWord a t k] := by
          rw [List.take_succ_eq_append_getElem (by rw [wordsT_len]; exact hkx)]
          rw [List.getElem?_eq_getElem (by rw [wordsT_len]; exact hkx), Option.getD_some] at hwg
          rw [hwg]
        have HT := Lib.hid (And.intro htk (show ((wordsT us ts).take k).length ≤ 1048576 by rw [List.length_take]; omega))
        have HOV := Lib.hid (HO.out.keep hbV (Nat.le_refl _))
        have HBV := Lib.hid (HBE.out.trans (hbV.mono HBE.out.size))
        have HV := Lib.hid (And.intro hV hX)
        have hkk : (k : Int) < (n1 : Int) := by omega
        revert WD HT
        generalize tmWord a t k = s
        intro WD HT
        rw [hV] at d0 d1 d2
        rw [hX] at d0 d1 d2
        clear htk hwg e1 e2 hkx hV hX hbV hR HO HBE
        go_wp2_with fail
        rw [← HV.out.1]
        refine WD.out.mono ?_
        rintro e w3 ⟨rfl, hb3⟩
        have hO3 := HOV.out.keep hb3 (Nat.le_refl _)
        have HB3 := Lib.hid (HBV.out.trans (hb3.mono HBV.out.size))
        have hsz := HB3.out.size
        have hl2 := HT.out.2
        clear hb3 WD HOV HBV
        go_wp2_with (at_builtin; go_must (refine wpList_pushT rfl (.tmp 13) (.tmp 16) rfl w3 w1.heap.size u3 ((wordsT us ts).take k) s rfl rfl hO3 hl2 hsz ?_); intro v' w' ho' hg' _)
        have HB4 := Lib.hid (HB3.out.grown hg' hsz (fun r e => (hO3.blockOf r e).1))
        rw [← HT.out.1] at ho'
        have HO4 := Lib.hid ho'
        clear hg' ho' hO3
        go_wp2_with fail
        go_roundw
        case rel => exact ⟨k + 1, by omega, by go_num, HO4, HB4⟩
        case measure => simp [intOf]; omega
      · obtain rfl : k = n1 := by omega
        have hfull : (wordsT us ts).take k = wordsT us ts := List.take_of_length_le (by rw [wordsT_len, HL.out]; exact Nat.le_refl _)
        rw [hfull] at HO
        obtain ⟨A, c, e1, hr, hc⟩ := HO.out.form2
        rw [wordsT_len, HL.out] at e1 hr hc
        have J := joinTo_any A k c _ (wordsT us ts) 32 wr hr (Nat.le_refl _) hc (by omega) (by omega) (by have := HSZ.out; rw [HL.out] at this; omega)
        have GE := GN.out
        rw [HL.out] at GE
        rw [← GE] at J
        have J := Lib.hid J
        have HF := Lib.hid (Below.on H1.out HBE.out)
        subst e1
        clear hfull GE hr hc HO
        go_wp2_with fail
        refine J.out.mono ?_
        rintro e w3 ⟨rfl, hb3⟩
        have HB3 := Lib.hid (Below.on HF.out hb3)
        clear hb3
        go_wp2_with fail
        go_ret
        exact ⟨rfl, HB3.out⟩

set_option maxRecDepth 100000 in
set_option maxHeartbeats 2000000 in
theorem specFmtT_any (A1 A2 : Option Addr) (n1 c1 n2 c2 B0 : Nat) (us ts : List Int) (w : World) (h1 : Rd w B0 A1 n1 us) (h2 : Rd w B0 A2 n2 ts) (hB0 : B0 ≤ w.heap.size) (hb1 : n1 ≤ 1048576) (hb2 : n2 ≤ 1048576) :
    Calls Tryd.prog 34 #[.agg #[.slice A1 n1 c1, .slice A2 n2 c2]] w fun e w' => e = .returned (.string (fmtT us ts)) ∧ Below w.heap.size w w' := by
  obtain ⟨W, hW⟩ : ∃ W, W = w.alloc (.cells #[.slice A1 n1 c1, .slice A2 n2 c2] 64) := ⟨_, rfl⟩
  obtain ⟨P, hP⟩ : ∃ P, P = w.heap.size := ⟨_, rfl⟩
  have hbW : Below w.heap.size w W := by rw [hW]; exact (Below.refl _ _).alloc (Nat.le_refl _) _
  have hRW : W.heap[P]? = some (.cells #[.slice A1 n1 c1, .slice A2 n2 c2] 64 (0, 0)) := by rw [hW, hP]; exact World.alloc_heap_new w _
  have TE := specTimed_any A1 A2 n1 c1 n2 c2 B0 us ts W (h1.below hbW hB0) (h2.below hbW hB0) (Nat.le_trans hB0 hbW.size) hb1 hb2
  have HW := Lib.hid (And.intro hW hP)
  have HBW := Lib.hid hbW
  have HL := Lib.hid h1.1
  have HRW := Lib.hid hRW
  have HR1 := Lib.hid ((h1.below hbW hB0).more (Nat.le_trans hB0 hbW.size))
  have HR2 := Lib.hid ((h2.below hbW hB0).more (Nat.le_trans hB0 hbW.size))
  clear h1 h2 hB0 hW hP hbW
  cases hv : tmB us ts with
  | false =>
    rw [hv] at TE
    have TE := Lib.hid TE
    have GN := Lib.hid (fmtT_no hv)
    clear hv hRW
    go_enter Tryd.func34, Tryd.ntmps34
    go_wp2_with fail
    rw [← HW.out.1, ← HW.out.2]
    refine TE.out.mono ?_
    rintro e w1 ⟨rfl, hbe1⟩
    have H1 := Lib.hid (Below.on HBW.out hbe1)
    clear hbe1
    go_wp2_with fail
    go_ret
    exact ⟨by rw [GN.out]; rfl, H1.out⟩
  | true =>
    rw [hv] at TE
    have TE := Lib.hid TE
    have HG := Lib.hid (fun k (hk : k < us.length) => tm_get hv hk)
    have HSZ := Lib.hid (fun k (hk : k ≤ us.length) => fmtT_size hv hk)
    have GN := Lib.hid (fmtT_yes hv)
    have hn16 : n1 ≤ 16 := by have := (fv_parts (tmB_parts hv).1).2.1; have := HL.out; omega
    have h12 : n2 = n1 := by have := (tmB_parts hv).2.1; have := HL.out; have := HR2.out.1; omega
    subst h12
    clear hv hRW
    go_enter Tryd.func34, Tryd.ntmps34
    go_wp2_with fail
    rw [← HW.out.1, ← HW.out.2]
    refine TE.out.mono ?_
    rintro e w1 ⟨rfl, hbe1⟩
    have hR1 := (hbe1.block P (Array.getElem?_eq_some_iff.1 HRW.out).1).trans HRW.out
    obtain ⟨⟨p1, p2⟩, _⟩ := boxTwo_cells hR1
    have H1 := Lib.hid (And.intro (Below.on HBW.out hbe1) (And.intro hR1 (And.intro (HR1.out.to hbe1) (HR2.out.to hbe1))))
    have HI0 : Hid (Below w1.heap.size w1 w1) := Below.refl _ _
    clear hbe1 hR1 TE
    go_wp2_with fail
    go_loopw [3, 12] (fun v i wr => ∃ k : Nat, k ≤ n2 ∧ i = .int .i64 k ∧ v = .string (jnTo 32 (wordsT us ts) k) ∧ Hid (Below w1.heap.size w1 wr)) (fun _ i _ => n2 - (intOf i).toNat)
    case atStart => exact ⟨0, Nat.zero_le _, rfl, rfl, HI0⟩
    case round =>
      obtain ⟨k, hk, rfl, rfl, HBE⟩ := hrel
      clear HI0
      by_cases hlt : k < n2
      · have hkx : k < us.length := by have := HL.out; omega
        obtain ⟨a, t, e1, e2, ha, ht⟩ := HG.out k hkx
        obtain ⟨b, off, rfl, _, hc1⟩ := (H1.out.2.2.1.below HBE.out (Nat.le_refl _)).2 (by omega)
        obtain ⟨b2, off2, rfl, _, hc2⟩ := (H1.out.2.2.2.below HBE.out (Nat.le_refl _)).2 (by omega)
        have g1 := hc1 k hlt
        have g2 := hc2 k hlt
        rw [e1] at g1
        rw [e2] at g2
        obtain ⟨⟨p3, p4⟩, _⟩ := boxTwo_cells ((HBE.out.block P (Array.getElem?_eq_some_iff.1 H1.out.2.1).1).trans H1.out.2.1)
        have hst := jnTo_step 32 (wordsT us ts) k
        rw [wordsT_get us ts hkx, e1, e2, Int.toNat_natCast, Int.toNat_natCast] at hst
        have hfs := HSZ.out k (by omega)
        revert hfs hst
        generalize jnTo 32 (wordsT us ts) k = f
        intro hst hfs
        have h32 : (ByteArray.mk #[32]).size = 1 := rfl
        have h46 : (ByteArray.mk #[46]).size = 1 := rfl
        have h64 : (ByteArray.mk #[64]).size = 1 := rfl
        have hf2 : (f ++ ByteArray.mk #[32]).size ≤ 97 := by rw [ByteArray.size_append, h32]; omega
        have hkk : (k : Int) < (n2 : Int) := by omega
        clear hc1 hc2 hkx e1 e2 p1 p2
        by_cases e : (a : Int) = (k : Int)
        · have hw : tmWord a t k = ⟨#[46]⟩ := by unfold tmWord; rw [if_pos e]
          rw [hw] at hst
          obtain rfl : a = k := by omega
          clear hw g2
          by_cases h0 : 0 < a
          · rw [if_pos h0] at hst
            have HST := Lib.hid hst
            have hyp : 0 < (a : Int) := by omega
            clear hst
            go_wp2_with fail
            go_roundw
            case rel => exact ⟨a + 1, by omega, by go_num, by rw [HST.out], HBE⟩
            case measure => simp [intOf]; omega
          · rw [if_neg h0] at hst
            have HST := Lib.hid hst
            have hy0 : a = 0 := by omega
            subst hy0
            rw [Nat.add_zero] at g1
            clear hst
            go_wp2_with fail
            go_roundw
            case rel => exact ⟨0 + 1, by omega, by go_num, by rw [HST.out], HBE⟩
            case measure => simp [intOf]; omega
        · have hw : tmWord a t k = decT a ++ (⟨#[64]⟩ ++ decT t) := by unfold tmWord; rw [if_neg e]
          rw [hw] at hst
          have e2 : ((a : Int) == (k : Int)) = false := by simpa using e
          have hs1 := decT_size (k := a) 1 (by omega)
          have hs2 := decT_size (k := t) 1 (by omega)
          have DD := Lib.hid (fun (j : Nat) (hj : Hid (j ≤ 1000000)) (W : World) => decPos_any j W hj)
          have HX6 : Hid (a ≤ 1000000) := by show a ≤ 1000000; omega
          have HY6 : Hid (t ≤ 1000000) := by show t ≤ 1000000; omega
          obtain ⟨s, hse⟩ : ∃ s, s = decT a := ⟨_, rfl⟩
          obtain ⟨r, hre⟩ : ∃ r, r = decT t := ⟨_, rfl⟩
          rw [← hse, ← hre] at hst
          rw [← hse] at hs1
          rw [← hre] at hs2
          have HSE := Lib.hid hse
          have HRE := Lib.hid hre
          clear hse hre hw
          obtain ⟨g, hg⟩ : ∃ g, g = (if 0 < k then f ++ ByteArray.mk #[32] else f) := ⟨_, rfl⟩
          have hgs : g.size ≤ 97 := by
            rw [hg]
            split
            · omega
            · omega
          rw [← hg] at hst
          have hassoc : g ++ (s ++ (ByteArray.mk #[64] ++ r)) = g ++ s ++ ByteArray.mk #[64] ++ r := by rw [← ByteArray.append_assoc, ← ByteArray.append_assoc, ByteArray.append_assoc (a := g)]
          rw [hassoc] at hst
          have HST := Lib.hid hst
          have hA1 : ∀ W : World, (Op.stringOp .add g s).run Tryd.prog W = .ok (.string (g ++ s)) W := fun W => run_string_add_sum W _ _ (by omega)
          have hA2 : ∀ W : World, (Op.stringOp .add (g ++ s) ⟨#[64]⟩).run Tryd.prog W = .ok (.string (g ++ s ++ ⟨#[64]⟩)) W := fun W => run_string_add_sum W _ _ (by rw [ByteArray.size_append, h64]; omega)
          have hA3 : ∀ W : World, (Op.stringOp .add (g ++ s ++ ⟨#[64]⟩) r).run Tryd.prog W = .ok (.string (g ++ s ++ ⟨#[64]⟩ ++ r)) W := fun W => run_string_add_sum W _ _ (by rw [ByteArray.size_append, ByteArray.size_append, h64]; omega)
          have hbb : Below wr.heap.size wr wr := Below.refl _ _
          have HGE := Lib.hid hg
          clear hst hassoc hg hs1 hs2 hgs
          by_cases h0 : 0 < k
          · have HG1 := Lib.hid (show g = f ++ ByteArray.mk #[32] by rw [HGE.out, if_pos h0])
            have hk0 : 0 < (k : Int) := by omega
            clear HGE
            go_wp2_with fail
            rw [← HG1.out]
            clear hf2
            go_region_held3 (fun w' => Below wr.heap.size wr w' ∧ w'.cell? ⟨P, 1, none⟩ = some (.slice (some ⟨b2, off2, none⟩) n2 c2) ∧ w'.cell? ⟨b2, off2 + k, none⟩ = some (.int .i64 (t : Int)))
              (first | exact heldP_drew ⟨by assumption, by assumption, by assumption⟩ | exact heldP_drew (by assumption) | exact heldP_call (by assumption) (by assumption) (Below.size (And.left (by assumption))))
              (first | (go_at_call 39; refine (DD.out _ (by first | exact HX6 | exact HY6) _).mono ?_; rintro e w' ⟨rfl, hbn⟩; (try rw [← HSE.out]); (try rw [← HRE.out])))
            have HF := Lib.hid (HBE.out.trans ((show Below wr.heap.size wr _ from And.left (by assumption)).mono HBE.out.size))
            go_wp2_with fail
            go_roundw
            case rel => exact ⟨k + 1, by omega, by go_num, by rw [HST.out], HF⟩
            case measure => simp [intOf]; omega
          · obtain rfl : g = f := by rw [HGE.out, if_neg h0]
            obtain rfl : k = 0 := by omega
            simp only [Nat.add_zero] at g1 g2
            clear HGE hf2
            go_wp2_with fail
            go_region_held3 (fun w' => Below wr.heap.size wr w' ∧ w'.cell? ⟨P, 1, none⟩ = some (.slice (some ⟨b2, off2, none⟩) n2 c2) ∧ w'.cell? ⟨b2, off2, none⟩ = some (.int .i64 (t : Int)))
              (first | exact heldP_drew ⟨by assumption, by assumption, by assumption⟩ | exact heldP_drew (by assumption) | exact heldP_call (by assumption) (by assumption) (Below.size (And.left (by assumption))))
              (first | (go_at_call 39; refine (DD.out _ (by first | exact HX6 | exact HY6) _).mono ?_; rintro e w' ⟨rfl, hbn⟩; (try rw [← HSE.out]); (try rw [← HRE.out])))
            have HF := Lib.hid (HBE.out.trans ((show Below wr.heap.size wr _ from And.left (by assumption)).mono HBE.out.size))
            go_wp2_with fail
            go_roundw
            case rel => exact ⟨0 + 1, by omega, by go_num, by rw [HST.out], HF⟩
            case measure => simp [intOf]; omega
      · obtain rfl : k = n2 := by omega
        have GE := GN.out
        rw [HL.out] at GE
        have GE := Lib.hid GE
        have HF := Lib.hid (Below.on H1.out.1 HBE.out)
        go_wp2_with fail
        go_ret
        exact ⟨by rw [GE.out]; rfl, HF.out⟩
end Go.Proofs.YtfmhdngblpmcfaaDoor
