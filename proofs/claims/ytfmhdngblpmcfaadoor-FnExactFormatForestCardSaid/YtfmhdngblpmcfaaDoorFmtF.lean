/- FormatForest, of the program and of the model. Condition: lengths up to 1048576. -/
import Derived.Test.YtfmhdngblpmcfaaDoorDec
import Derived.Test.YtfmhdngblpmcfaaDoorImpl
import Derived.Test.YtfmhdngblpmcfaaDoorSpec2
namespace Go.Proofs.YtfmhdngblpmcfaaDoor
open Go.RowKit Go.Shelf

/-- The word of an item's link. -/
def linkW (xs : List Int) (i : Nat) : ByteArray := if xs[i]?.getD 0 = (i : Int) then ⟨#[46]⟩ else decT (xs[i]?.getD 0).toNat
def wordsF (xs : List Int) : List ByteArray := (List.range xs.length).map (linkW xs)
theorem wordsF_len (xs : List Int) : (wordsF xs).length = xs.length := by simp [wordsF]
theorem wordsF_get (xs : List Int) {i : Nat} (h : i < xs.length) : (wordsF xs)[i]?.getD ByteArray.empty = linkW xs i := by simp [wordsF, h]
/-- What FormatForest answers. -/
def fmtF (xs : List Int) : ByteArray := if fvB xs = true then jnTo 32 (wordsF xs) xs.length else ⟨#[]⟩
theorem fmtF_yes {xs : List Int} (h : fvB xs = true) : fmtF xs = jnTo 32 (wordsF xs) xs.length := by unfold fmtF; rw [if_pos h]
theorem fmtF_no {xs : List Int} (h : fvB xs = false) : fmtF xs = ⟨#[]⟩ := by unfold fmtF; rw [h]; simp
theorem linkW_size {xs : List Int} (h : fvB xs = true) {i : Nat} (hi : i < xs.length) : (linkW xs i).size ≤ 2 := by
  have h1 := fv_in h i hi
  have h2 := (fv_parts h).2.1
  unfold linkW
  split
  · show 1 ≤ 2
    omega
  · exact decT_size 1 (by omega)
theorem wordsF_size {xs : List Int} (h : fvB xs = true) (k : Nat) (hk : k < (wordsF xs).length) : ((wordsF xs)[k]?.getD ByteArray.empty).size ≤ 2 := by
  rw [wordsF_len] at hk
  rw [wordsF_get xs hk]
  exact linkW_size h hk
theorem fmtF_size {xs : List Int} (h : fvB xs = true) {k : Nat} (hk : k ≤ xs.length) : (jnTo 32 (wordsF xs) k).size ≤ 48 := by
  have h1 := jnTo_size (sep := 32) (wordsF_size h) k (by rw [wordsF_len]; exact hk)
  have h2 := (fv_parts h).2.1
  omega
theorem jnTo_step (sep : UInt8) (xs : List ByteArray) (k : Nat) : jnTo sep xs (k + 1) = (if 0 < k then jnTo sep xs k ++ ⟨#[sep]⟩ else jnTo sep xs k) ++ xs[k]?.getD ByteArray.empty := rfl

set_option maxHeartbeats 800000 in
theorem linkWord_any (k i : Nat) (w : World) (hk : k < 100) :
    Calls Tryd.prog 41 #[.int .i64 k, .int .i64 i] w fun e w' => e = .returned (.string (if (k : Int) = (i : Int) then ⟨#[46]⟩ else decT k)) ∧ w' = w := by
  by_cases h : (k : Int) = (i : Int)
  · rw [if_pos h]
    obtain rfl : k = i := by omega
    go_enter Tryd.func41, Tryd.ntmps41
    go_wp2
    go_ret
    exact ⟨rfl, rfl⟩
  · rw [if_neg h]
    have IT := Lib.hid (itoa_any k w hk)
    generalize decT k = s at IT
    go_enter Tryd.func41, Tryd.ntmps41
    go_wp2_with fail
    refine IT.out.mono ?_
    rintro e w1 ⟨rfl, rfl⟩
    go_wp2_with fail
    go_ret
    exact ⟨rfl, rfl⟩

set_option maxRecDepth 100000 in
set_option maxHeartbeats 2000000 in
theorem implFormatForest_any (A : Option Addr) (n c B : Nat) (xs : List Int) (w : World) (h : Rd w B A n xs) (hB : B ≤ w.heap.size) (hb : n ≤ 1048576) :
    Calls Tryd.prog 11 #[.slice A n c] w fun e w' => e = .returned (.string (fmtF xs)) ∧ Below w.heap.size w w' := by
  have VA := Lib.hid (implValid_any A n c B xs w h hB hb)
  cases hv : fvB xs with
  | false =>
    rw [hv] at VA
    have GN := Lib.hid (fmtF_no hv)
    clear hv h
    go_enter Tryd.func11, Tryd.ntmps11
    go_wp2_with fail
    refine VA.out.mono ?_
    rintro e w1 ⟨rfl, hb1⟩
    go_wp2_with fail
    go_ret
    exact ⟨by rw [GN.out]; rfl, hb1⟩
  | true =>
    rw [hv] at VA
    have hlen := h.1
    have hin := fv_in hv
    obtain ⟨v1, v16, _⟩ := fv_parts hv
    have HSZ := Lib.hid (fmtF_size hv (Nat.le_refl _))
    have GN := Lib.hid (fmtF_yes hv)
    have HL := Lib.hid hlen
    have HIN := Lib.hid hin
    rw [hlen] at v1 v16
    obtain ⟨b, off, rfl, hlb, hc⟩ := h.2 (by omega)
    have HC := Lib.hid hc
    have hwl := wordsF_len xs
    rw [hlen] at hwl
    have HWL := Lib.hid hwl
    clear hv h hlen hin hc hwl
    obtain ⟨i0, hi, hz0, hz1, hz2⟩ := info_parts Tryd.info_string
    go_enter Tryd.func11, Tryd.ntmps11
    go_wp2_with fail
    refine VA.out.mono ?_
    rintro e w1 ⟨rfl, hb1⟩
    clear VA
    go_wp2_with (at_make; go_must (refine wpList_make_full _ rfl _ _ 69 rfl w1.heap.size 9 i0 (.string ByteArray.empty) 1 Tryd.underlying69 hi hz0 hz1 .i64 .i64 _ _ n rfl rfl rfl rfl (by rw [hz2]; omega) (by unfold maxLen; omega) (Nat.le_refl _) ?_); intro w2 hown hgrow)
    have H0 : Hid (OwnT w2 w1.heap.size (.slice (some ⟨w1.heap.size, 0, none⟩) n n) ((wordsF xs).take 0 ++ (List.replicate n ByteArray.empty).drop 0)) := OwnT.made hown
    have hb2 : Below w.heap.size w w2 := hb1.trans ((Below.refl _ w1).grown hgrow hb1.size (fun k e => by cases e))
    obtain ⟨T, hT⟩ : ∃ T, T = w1.heap.size := ⟨_, rfl⟩
    have hTw : w.heap.size ≤ T := by have := hb1.size; omega
    rw [← hT] at H0 ⊢
    have HB2 := Lib.hid hb2
    clear hown hgrow hi hz0 hz1 hz2 hT hb2 hb1
    go_loopw [14] (fun i wr => ∃ k : Nat, k ≤ n ∧ i = .int .i64 k ∧ Hid (OwnT wr T (.slice (some ⟨T, 0, none⟩) n n) ((wordsF xs).take k ++ (List.replicate n ByteArray.empty).drop k)) ∧ Hid (Below w.heap.size w wr)) (fun i _ => n - (intOf i).toNat)
    case atStart => exact ⟨0, Nat.zero_le _, rfl, H0, HB2⟩
    case round =>
      obtain ⟨k, hk, rfl, HO, HBE⟩ := hrel
      clear H0 HB2
      by_cases hlt : k < n
      · have g1 := (HBE.out.cell (p := ⟨b, off + k, none⟩) (show b < w.heap.size by omega)).trans (HC.out k hlt)
        have hkx : k < xs.length := by have := HL.out; omega
        have hr := HIN.out k hkx
        obtain ⟨y, hy⟩ : ∃ y : Nat, xs[k]?.getD 0 = (y : Int) := ⟨(xs[k]?.getD 0).toNat, by omega⟩
        have hlw : linkW xs k = if (y : Int) = (k : Int) then ⟨#[46]⟩ else decT y := by unfold linkW; rw [hy, Int.toNat_natCast]
        rw [hy] at g1
        have LW := Lib.hid (linkWord_any y k wr (by have := HL.out; omega))
        rw [← hlw] at LW
        have g2 := HO.out.slot hlt
        have g3 := HO.out.free k
        have hs := HO.out.set_ k (linkW xs k)
        have hst := set_stepT (xs := wordsF xs) (ys := List.replicate n ByteArray.empty) (k := k) (n := n) HWL.out hlt (by simp)
        rw [wordsF_get xs hkx] at hst
        rw [hst] at hs
        have HS := Lib.hid hs
        have hb3 := Lib.hid (HBE.out.setCell (p := ⟨T, k, none⟩) hTw (.string (linkW xs k)))
        revert HS hb3 LW
        generalize linkW xs k = s
        intro LW HS hb3
        have hkk : (k : Int) < (n : Int) := by omega
        clear hs hst hlw hr hkx hy HO HBE
        go_wp2_with fail
        refine LW.out.mono ?_
        rintro e w3 ⟨rfl, rfl⟩
        go_wp2_with fail
        go_roundw
        case rel => exact ⟨k + 1, by omega, by go_num, HS, hb3⟩
        case measure => simp [intOf]; omega
      · obtain rfl : k = n := by omega
        have hfull : (wordsF xs).take k ++ (List.replicate k ByteArray.empty).drop k = wordsF xs := by
          rw [List.take_of_length_le (by rw [HWL.out]; exact Nat.le_refl _), List.drop_eq_nil_of_le (by simp), List.append_nil]
        rw [hfull] at HO
        have J := joinTo_any (some ⟨T, 0, none⟩) k k _ (wordsF xs) 32 wr HO.out.rd (Nat.le_refl _) (Nat.le_refl _) hb (by omega) (by have := HSZ.out; rw [HL.out] at this; omega)
        have GE := GN.out
        rw [HL.out] at GE
        rw [← GE] at J
        have J := Lib.hid J
        clear hfull GE
        go_wp2_with fail
        refine J.out.mono ?_
        rintro e w3 ⟨rfl, hb3⟩
        have HB3 := Lib.hid (HBE.out.trans (hb3.mono HBE.out.size))
        clear hb3
        go_wp2_with fail
        go_ret
        exact ⟨rfl, HB3.out⟩

set_option maxRecDepth 100000 in
set_option maxHeartbeats 2000000 in
theorem specFormatForest_any (A : Option Addr) (n c B : Nat) (xs : List Int) (w : World) (h : Rd w B A n xs) (hB : B ≤ w.heap.size) (hb : n ≤ 1048576) :
    Calls Tryd.prog 9 #[.slice A n c] w fun e w' => e = .returned (.string (fmtF xs)) ∧ Below w.heap.size w w' := by
  have VA := Lib.hid (specValid_any A n c B xs w h hB hb)
  cases hv : fvB xs with
  | false =>
    rw [hv] at VA
    have GN := Lib.hid (fmtF_no hv)
    clear hv h
    go_enter Tryd.func9, Tryd.ntmps9
    go_wp2_with fail
    refine VA.out.mono ?_
    rintro e w1 ⟨rfl, hb1⟩
    go_wp2_with fail
    go_ret
    exact ⟨by rw [GN.out]; rfl, hb1⟩
  | true =>
    rw [hv] at VA
    have hlen := h.1
    have hin := fv_in hv
    obtain ⟨v1, v16, _⟩ := fv_parts hv
    have HSZ := Lib.hid (fun k (hk : k ≤ xs.length) => fmtF_size hv hk)
    have HLZ := Lib.hid (fun k (hk : k < xs.length) => linkW_size hv hk)
    have GN := Lib.hid (fmtF_yes hv)
    have HL := Lib.hid hlen
    have HIN := Lib.hid hin
    rw [hlen] at v1 v16
    obtain ⟨b, off, rfl, hlb, hc⟩ := h.2 (by omega)
    have HC := Lib.hid hc
    clear hv h hlen hin hc
    go_enter Tryd.func9, Tryd.ntmps9
    go_wp2_with fail
    refine VA.out.mono ?_
    rintro e w1 ⟨rfl, hb1⟩
    have HB1 := Lib.hid hb1
    clear VA hb1
    go_wp2_with fail
    go_loopw [3, 11] (fun v i wr => ∃ k : Nat, k ≤ n ∧ i = .int .i64 k ∧ v = .string (jnTo 32 (wordsF xs) k) ∧ Hid (Below w.heap.size w wr)) (fun _ i _ => n - (intOf i).toNat)
    case atStart => exact ⟨0, Nat.zero_le _, rfl, rfl, HB1⟩
    case round =>
      obtain ⟨k, hk, rfl, rfl, HBE⟩ := hrel
      by_cases hlt : k < n
      · have g1 := (HBE.out.cell (p := ⟨b, off + k, none⟩) (show b < w.heap.size by omega)).trans (HC.out k hlt)
        have hkx : k < xs.length := by have := HL.out; omega
        have hr := HIN.out k hkx
        obtain ⟨y, hy⟩ : ∃ y : Nat, xs[k]?.getD 0 = (y : Int) := ⟨(xs[k]?.getD 0).toNat, by omega⟩
        have hlw : linkW xs k = if (y : Int) = (k : Int) then ⟨#[46]⟩ else decT y := by unfold linkW; rw [hy, Int.toNat_natCast]
        rw [hy] at g1
        have hfs := HSZ.out k (by omega)
        have hls := HLZ.out k hkx
        have hst := jnTo_step 32 (wordsF xs) k
        rw [wordsF_get xs hkx] at hst
        have LD := Lib.hid (fun (W : World) => decPos_any y W (by have := HL.out; omega))
        revert hfs hst
        generalize jnTo 32 (wordsF xs) k = f
        intro hfs hst
        have h32 : (ByteArray.mk #[32]).size = 1 := rfl
        have hf2 : (f ++ ByteArray.mk #[32]).size ≤ 49 := by rw [ByteArray.size_append, h32]; omega
        have hkk : (k : Int) < (n : Int) := by omega
        by_cases e : (y : Int) = (k : Int)
        · rw [if_pos e] at hlw
          obtain rfl : y = k := by omega
          rw [hlw] at hst
          have h46 : (ByteArray.mk #[46]).size = 1 := rfl
          clear hr hy hls hlw hkx
          by_cases h0 : 0 < y
          · rw [if_pos h0] at hst
            have HST := Lib.hid hst
            have hyp : 0 < (y : Int) := by omega
            clear hst
            go_wp2_with fail
            go_roundw
            case rel => exact ⟨y + 1, by omega, by go_num, by rw [HST.out], HBE⟩
            case measure => simp [intOf]; omega
          · rw [if_neg h0] at hst
            have HST := Lib.hid hst
            have hy0 : y = 0 := by omega
            subst hy0
            rw [Nat.add_zero] at g1
            clear hst
            go_wp2_with fail
            go_roundw
            case rel => exact ⟨0 + 1, by omega, by go_num, by rw [HST.out], HBE⟩
            case measure => simp [intOf]; omega
        · rw [if_neg e] at hlw
          rw [hlw] at hst hls
          have e2 : ((y : Int) == (k : Int)) = false := by simpa using e
          revert hls hst LD
          generalize decT y = s
          intro hls LD hst
          clear hr hy hlw hkx
          by_cases h0 : 0 < k
          · rw [if_pos h0] at hst
            have HST := Lib.hid hst
            have hyp : 0 < (k : Int) := by omega
            clear hst
            go_wp2_with fail
            refine (LD.out _).mono ?_
            rintro e w3 ⟨rfl, hb3⟩
            have HB3 := Lib.hid (HBE.out.trans (hb3.mono HBE.out.size))
            clear hb3
            go_wp2_with fail
            go_roundw
            case rel => exact ⟨k + 1, by omega, by go_num, by rw [HST.out], HB3⟩
            case measure => simp [intOf]; omega
          · rw [if_neg h0] at hst
            have HST := Lib.hid hst
            have hk0 : k = 0 := by omega
            subst hk0
            rw [Nat.add_zero] at g1
            clear hst
            go_wp2_with fail
            refine (LD.out _).mono ?_
            rintro e w3 ⟨rfl, hb3⟩
            have HB3 := Lib.hid (HBE.out.trans (hb3.mono HBE.out.size))
            clear hb3
            go_wp2_with fail
            go_roundw
            case rel => exact ⟨0 + 1, by omega, by go_num, by rw [HST.out], HB3⟩
            case measure => simp [intOf]; omega
      · obtain rfl : k = n := by omega
        have GE := GN.out
        rw [HL.out] at GE
        have GE := Lib.hid GE
        go_wp2_with fail
        go_ret
        exact ⟨by rw [GE.out]; rfl, HBE.out⟩
end Go.Proofs.YtfmhdngblpmcfaaDoor
