/- FormatPairs, of the program and of the model. Condition: lengths up to 1048576. -/
import Derived.Test.YtfmhdngblpmcfaaDoorDec
import Derived.Test.YtfmhdngblpmcfaaDoorPairsOk
import Derived.Deep.RegionHeld3
namespace Go.Proofs.YtfmhdngblpmcfaaDoor
open Go.RowKit Go.Shelf

/-- The word of a pair. -/
def pairW (p : Int × Int) : ByteArray := (decT p.1.toNat ++ ⟨#[45]⟩) ++ decT p.2.toNat
def wordsP (qs : List (Int × Int)) : List ByteArray := qs.map pairW
theorem wordsP_len (qs : List (Int × Int)) : (wordsP qs).length = qs.length := by simp [wordsP]
theorem wordsP_get (qs : List (Int × Int)) {i : Nat} (h : i < qs.length) : (wordsP qs)[i]?.getD ByteArray.empty = pairW (qs[i]?.getD (0, 0)) := by simp [wordsP, h]
def listP (qs : List (Int × Int)) : ByteArray := if qs.length = 0 then ⟨#[45]⟩ else jnTo 32 (wordsP qs) qs.length
/-- What FormatPairs answers. -/
def fmtP (qs : List (Int × Int)) : ByteArray := if okQ 16 qs = true then listP qs else ⟨#[]⟩
theorem fmtP_yes {qs : List (Int × Int)} (h : okQ 16 qs = true) : fmtP qs = listP qs := by unfold fmtP; rw [if_pos h]
theorem fmtP_no {qs : List (Int × Int)} (h : okQ 16 qs = false) : fmtP qs = ⟨#[]⟩ := by unfold fmtP; rw [h]; simp
theorem fp_get {qs : List (Int × Int)} (h : okQ 16 qs = true) {k : Nat} (hk : k < qs.length) : ∃ x y : Nat, qs[k]?.getD (0, 0) = ((x : Int), (y : Int)) ∧ x < 16 ∧ y < 16 := by
  have := (okQ_parts h).2 _ (List.getElem_mem hk)
  rw [List.getElem?_eq_getElem hk, Option.getD_some]
  refine ⟨qs[k].1.toNat, qs[k].2.toNat, ?_, by omega, by omega⟩
  rw [show ((qs[k].1.toNat : Nat) : Int) = qs[k].1 by omega, show ((qs[k].2.toNat : Nat) : Int) = qs[k].2 by omega]
theorem pairW_nat (x y : Nat) : pairW ((x : Int), (y : Int)) = (decT x ++ ⟨#[45]⟩) ++ decT y := by
  unfold pairW
  rw [Int.toNat_natCast, Int.toNat_natCast]
theorem pairW_size {x y : Nat} (hx : x < 16) (hy : y < 16) : (pairW ((x : Int), (y : Int))).size ≤ 5 := by
  have h1 := decT_size (k := x) 1 (by omega)
  have h2 := decT_size (k := y) 1 (by omega)
  have h3 : (ByteArray.mk #[45]).size = 1 := rfl
  rw [pairW_nat, ByteArray.size_append, ByteArray.size_append]
  omega
theorem wordsP_size {qs : List (Int × Int)} (h : okQ 16 qs = true) (k : Nat) (hk : k < (wordsP qs).length) : ((wordsP qs)[k]?.getD ByteArray.empty).size ≤ 5 := by
  rw [wordsP_len] at hk
  obtain ⟨x, y, e, hx, hy⟩ := fp_get h hk
  rw [wordsP_get qs hk, e]
  exact pairW_size hx hy
theorem fmtP_size {qs : List (Int × Int)} (h : okQ 16 qs = true) {k : Nat} (hk : k ≤ qs.length) : (jnTo 32 (wordsP qs) k).size ≤ 144 := by
  have h1 := jnTo_size (sep := 32) (wordsP_size h) k (by rw [wordsP_len]; exact hk)
  have h2 := (okQ_parts h).1
  omega

theorem heldP_drew {B : Nat} {a w : World} {p q : Addr} {v u : Value} (h : Below B a w ∧ w.cell? p = some v ∧ w.cell? q = some u) : Below B a w.drew ∧ w.drew.cell? p = some v ∧ w.drew.cell? q = some u :=
  ⟨⟨h.1.os, h.1.tape, h.1.output, h.1.size, h.1.block⟩, h.2⟩
theorem heldP_call {B : Nat} {a w w' : World} {p q : Addr} {v u : Value} (h : Below B a w ∧ w.cell? p = some v ∧ w.cell? q = some u) (hb : Below w.heap.size w w') (hB : B ≤ w.heap.size) : Below B a w' ∧ w'.cell? p = some v ∧ w'.cell? q = some u :=
  ⟨h.1.trans (hb.mono hB), (hb.cell (World.block_lt_of_cell? w _ h.2.1)).trans h.2.1, (hb.cell (World.block_lt_of_cell? w _ h.2.2)).trans h.2.2⟩

set_option maxRecDepth 100000 in
set_option maxHeartbeats 1000000 in
theorem pairWord_any (x y : Nat) (w : World) (hx : x < 16) (hy : y < 16) :
    Calls Tryd.prog 47 #[.agg #[.int .i64 x, .int .i64 y]] w fun e w' => e = .returned (.string (pairW ((x : Int), (y : Int)))) ∧ Below w.heap.size w w' := by
  have IT := Lib.hid (fun (k : Nat) (W : World) (h : k < 100) => itoa_any k W h)
  have h1 := decT_size (k := x) 1 (by omega)
  have h2 := decT_size (k := y) 1 (by omega)
  have e := pairW_nat x y
  have hx9 : x < 100 := by omega
  have hy9 : y < 100 := by omega
  have I1 := Lib.hid (fun (W : World) => (IT.out x W hx9).mono fun e w' (h : e = .returned (.string (decT x)) ∧ w' = W) => (show e = .returned (.string (decT x)) ∧ Below W.heap.size W w' from ⟨h.1, h.2 ▸ Below.refl _ _⟩))
  have I2 := Lib.hid (fun (W : World) => (IT.out y W hy9).mono fun e w' (h : e = .returned (.string (decT y)) ∧ w' = W) => (show e = .returned (.string (decT y)) ∧ Below W.heap.size W w' from ⟨h.1, h.2 ▸ Below.refl _ _⟩))
  have hb : Below w.heap.size w (w.alloc (.cells #[.int .i64 x, .int .i64 y] 74)) := (Below.refl _ _).alloc (Nat.le_refl _) _
  obtain ⟨V, hV⟩ : ∃ V, V = w.alloc (.cells #[.int .i64 x, .int .i64 y] 74) := ⟨_, rfl⟩
  obtain ⟨X, hX⟩ : ∃ X, X = w.heap.size := ⟨_, rfl⟩
  have hR : V.heap[X]? = some (.cells #[.int .i64 x, .int .i64 y] 74 (0, 0)) := by rw [hV, hX]; exact World.alloc_heap_new w _
  obtain ⟨⟨c1, c2⟩, _⟩ := boxTwo_cells hR
  rw [← hV] at hb
  have HB := Lib.hid hb
  have HE := Lib.hid (And.intro hV hX)
  have hs3 : (decT x ++ ByteArray.mk #[45]).size ≤ 3 := by rw [ByteArray.size_append]; have h3 : (ByteArray.mk #[45]).size = 1 := rfl; omega
  have HW := Lib.hid e
  revert I1 I2 h1 h2 hs3 HW
  generalize pairW ((x : Int), (y : Int)) = r
  generalize decT x = s
  generalize decT y = t
  intro h1 h2 I1 I2 hs3 HW
  have hA1 : ∀ W : World, (Op.stringOp .add s ⟨#[45]⟩).run Tryd.prog W = .ok (.string (s ++ ⟨#[45]⟩)) W := fun W => run_string_add_sum W _ _ (by have h3 : (ByteArray.mk #[45]).size = 1 := rfl; omega)
  have hA2 : ∀ W : World, (Op.stringOp .add (s ++ ⟨#[45]⟩) t).run Tryd.prog W = .ok (.string ((s ++ ⟨#[45]⟩) ++ t)) W := fun W => run_string_add_sum W _ _ (by omega)
  clear hb hV hX hR e IT
  go_enter Tryd.func47, Tryd.ntmps47
  go_wp2_with fail
  rw [← HE.out.1, ← HE.out.2]
  have hbb : Below V.heap.size V V := Below.refl _ _
  go_region_held3 (fun w' => Below V.heap.size V w' ∧ w'.cell? ⟨X, 0, none⟩ = some (.int .i64 x) ∧ w'.cell? ⟨X, 1, none⟩ = some (.int .i64 y))
    (first | exact heldP_drew ⟨by assumption, by assumption, by assumption⟩ | exact heldP_drew (by assumption) | exact heldP_call (by assumption) (by assumption) (Below.size (And.left (by assumption))))
    (first | (go_at_call 54; refine (I1.out _).mono ?_; rintro e w' ⟨rfl, hbn⟩) | (go_at_call 54; refine (I2.out _).mono ?_; rintro e w' ⟨rfl, hbn⟩))
  have HF := Lib.hid (show Below V.heap.size V _ from And.left (by assumption))
  go_wp2_with fail
  go_ret
  exact ⟨by rw [HW.out]; rfl, HB.out.trans (HF.out.mono HB.out.size)⟩

set_option maxRecDepth 100000 in
set_option maxHeartbeats 2000000 in
theorem formatListP_any (A : Option Addr) (n c B : Nat) (qs : List (Int × Int)) (w : World) (h : RdQ w B A n qs) (hB : B ≤ w.heap.size) (hok : okQ 16 qs = true) :
    Calls Tryd.prog 46 #[.slice A n c, .func (.func 47) #[] #[]] w fun e w' => e = .returned (.string (listP qs)) ∧ Below w.heap.size w w' := by
  have hlen := h.1
  by_cases hn0 : n = 0
  · have e : listP qs = ⟨#[45]⟩ := by unfold listP; rw [if_pos (by omega)]
    rw [e]
    subst hn0
    clear h hlen e
    go_enter Tryd.func46, Tryd.ntmps46
    go_wp2
    go_ret
    exact ⟨rfl, Below.refl _ _⟩
  · have h24 := (okQ_parts hok).1
    have HSZ := Lib.hid (fmtP_size hok (Nat.le_refl _))
    have GN : Hid (listP qs = jnTo 32 (wordsP qs) qs.length) := by show _ = _; unfold listP; rw [if_neg (by omega)]
    have HG := Lib.hid (fun k (hk : k < qs.length) => fp_get hok hk)
    have HL := Lib.hid hlen
    have HWL := Lib.hid ((wordsP_len qs).trans hlen)
    obtain ⟨b, off, rfl, hlb, hc⟩ := h.2 (by omega)
    have HC := Lib.hid hc
    have hn24 : n ≤ 24 := by omega
    have hn1 : ((n : Int) == 0) = false := by simp; omega
    have hn2 : ¬ (n : Int) = 0 := by omega
    clear h hlen hc hok h24
    obtain ⟨i0, hi, hz0, hz1, hz2⟩ := info_parts Tryd.info_string
    go_enter Tryd.func46, Tryd.ntmps46
    go_wp2_with (at_make; go_must (refine wpList_make_full _ rfl _ _ 69 rfl w.heap.size 9 i0 (.string ByteArray.empty) 1 Tryd.underlying69 hi hz0 hz1 .i64 .i64 _ _ n rfl rfl rfl rfl (by rw [hz2]; omega) (by unfold maxLen; omega) (Nat.le_refl _) ?_); intro w2 hown hgrow)
    have H0 : Hid (OwnT w2 w.heap.size (.slice (some ⟨w.heap.size, 0, none⟩) n n) ((wordsP qs).take 0 ++ (List.replicate n ByteArray.empty).drop 0)) := OwnT.made hown
    have hb2 : Below w.heap.size w w2 := (Below.refl _ w).grown hgrow (Nat.le_refl _) (fun k e => by cases e)
    obtain ⟨T, hT⟩ : ∃ T, T = w.heap.size := ⟨_, rfl⟩
    have hTw : w.heap.size ≤ T := by omega
    rw [← hT] at H0 ⊢
    have HB2 : Hid (Below w.heap.size w w2) := hb2
    have HBT := Lib.hid (show B ≤ w.heap.size from hB)
    clear hown hgrow hi hz0 hz1 hz2 hT hb2 hB
    go_loopw [16] (fun i wr => ∃ k : Nat, k ≤ n ∧ i = .int .i64 k ∧ Hid (OwnT wr T (.slice (some ⟨T, 0, none⟩) n n) ((wordsP qs).take k ++ (List.replicate n ByteArray.empty).drop k)) ∧ Hid (Below w.heap.size w wr)) (fun i _ => n - (intOf i).toNat)
    case atStart => exact ⟨0, Nat.zero_le _, rfl, H0, HB2⟩
    case round =>
      obtain ⟨k, hk, rfl, HO, HBE⟩ := hrel
      clear H0 HB2
      by_cases hlt : k < n
      · have hkx : k < qs.length := by have := HL.out; omega
        obtain ⟨x, y, hxy, hx, hy⟩ := HG.out k hkx
        obtain ⟨g1, g2⟩ := HC.out k hlt
        rw [hxy] at g1 g2
        have g1 := (HBE.out.cell (p := ⟨b, off + k * 2, none⟩) (show b < w.heap.size by have := HBT.out; omega)).trans g1
        have g2 := (HBE.out.cell (p := ⟨b, off + k * 2 + 1, none⟩) (show b < w.heap.size by have := HBT.out; omega)).trans g2
        have g1 : wr.cell? ⟨b, off + k * 2, none⟩ = some (.int .i64 (x : Int)) := g1
        have g2 : wr.cell? ⟨b, off + k * 2 + 1, none⟩ = some (.int .i64 (y : Int)) := g2
        obtain ⟨V, hV⟩ : ∃ V, V = wr.alloc (.cells #[.int .i64 (x : Int), .int .i64 (y : Int)] 74) := ⟨_, rfl⟩
        have hbV : Below wr.heap.size wr V := by rw [hV]; exact (Below.refl _ _).alloc (Nat.le_refl _) _
        have PW := Lib.hid (pairWord_any x y V hx hy)
        have hwg := wordsP_get qs hkx
        rw [hxy] at hwg
        have hst := set_stepT (xs := wordsP qs) (ys := List.replicate n ByteArray.empty) (k := k) (n := n) HWL.out hlt (by simp)
        rw [hwg] at hst
        have HST := Lib.hid hst
        have HOV := Lib.hid (HO.out.keep hbV (Nat.le_refl _))
        have HBV := Lib.hid (HBE.out.trans (hbV.mono HBE.out.size))
        have HV := Lib.hid hV
        revert PW HST
        generalize pairW ((x : Int), (y : Int)) = s
        intro PW HST
        have hkk : (k : Int) < (n : Int) := by omega
        clear hst hwg hxy hkx HO HBE hV hbV
        go_wp2_with fail
        rw [← HV.out]
        refine PW.out.mono ?_
        rintro e w3 ⟨rfl, hb3⟩
        have ho3 := HOV.out.keep hb3 (Nat.le_refl _)
        have g2 := ho3.slot hlt
        have g3 := ho3.free k
        have hs := ho3.set_ k s
        rw [HST.out] at hs
        have HS := Lib.hid hs
        have HB3 := Lib.hid ((HBV.out.trans (hb3.mono HBV.out.size)).setCell (p := ⟨T, k, none⟩) hTw (.string s))
        clear ho3 hs hb3 PW HOV HBV
        go_wp2_with fail
        go_roundw
        case rel => exact ⟨k + 1, by omega, by go_num, HS, HB3⟩
        case measure => simp [intOf]; omega
      · obtain rfl : k = n := by omega
        have hfull : (wordsP qs).take k ++ (List.replicate k ByteArray.empty).drop k = wordsP qs := by
          rw [List.take_of_length_le (by rw [HWL.out]; exact Nat.le_refl _), List.drop_eq_nil_of_le (by simp), List.append_nil]
        rw [hfull] at HO
        have J := joinTo_any (some ⟨T, 0, none⟩) k k _ (wordsP qs) 32 wr HO.out.rd (Nat.le_refl _) (Nat.le_refl _) (by omega) (by omega) (by have := HSZ.out; rw [HL.out] at this; omega)
        have GE := GN.out
        rw [HL.out] at GE
        rw [← GE] at J
        have J := Lib.hid J
        clear hfull GE
        go_wp2_with fail
        refine J.out.mono ?_
        rintro e w3 ⟨rfl, hb3⟩
        have HB3 := Lib.hid (HBE.out.trans (hb3.mono HBE.out.size))
        clear hb3
        go_wp2_with fail
        go_ret
        exact ⟨rfl, HB3.out⟩

set_option maxRecDepth 100000 in
set_option maxHeartbeats 2000000 in
theorem implFormatPairs_any (A : Option Addr) (n c B : Nat) (qs : List (Int × Int)) (w : World) (h : RdQ w B A n qs) (hB : B ≤ w.heap.size) (hb : n ≤ 1048576) :
    Calls Tryd.prog 16 #[.slice A n c] w fun e w' => e = .returned (.string (fmtP qs)) ∧ Below w.heap.size w w' := by
  have VA := Lib.hid (pairsValid_any 16 A n c B qs w h hB hb)
  cases hv : okQ 16 qs with
  | false =>
    rw [hv] at VA
    have GN := Lib.hid (fmtP_no hv)
    clear hv h
    go_enter Tryd.func16, Tryd.ntmps16
    go_wp2_with fail
    refine VA.out.mono ?_
    rintro e w1 ⟨rfl, hb1⟩
    go_wp2_with fail
    go_ret
    exact ⟨by rw [GN.out]; rfl, hb1⟩
  | true =>
    rw [hv] at VA
    have GN := Lib.hid (fmtP_yes hv)
    have FL := Lib.hid (fun (W : World) (hbe : Below w.heap.size w W) => formatListP_any A n c B qs W (h.below hbe hB) (Nat.le_trans hB hbe.size) hv)
    rw [← GN.out] at FL
    generalize fmtP qs = r at FL
    clear hv h GN
    go_enter Tryd.func16, Tryd.ntmps16
    go_wp2_with fail
    refine VA.out.mono ?_
    rintro e w1 ⟨rfl, hb1⟩
    have F1 := Lib.hid (FL.out w1 hb1)
    have H1 := Lib.hid hb1
    clear hb1 FL VA
    go_wp2_with fail
    refine F1.out.mono ?_
    rintro e w2 ⟨rfl, hb2⟩
    have H2 := Lib.hid (Below.on H1.out hb2)
    clear hb2
    go_wp2_with fail
    go_ret
    exact ⟨rfl, H2.out⟩

set_option maxRecDepth 100000 in
set_option maxHeartbeats 2000000 in
theorem specFormatPairs_any (A : Option Addr) (n c B : Nat) (qs : List (Int × Int)) (w : World) (h : RdQ w B A n qs) (hB : B ≤ w.heap.size) (hb : n ≤ 1048576) :
    Calls Tryd.prog 14 #[.slice A n c] w fun e w' => e = .returned (.string (fmtP qs)) ∧ Below w.heap.size w w' := by
  have VA := Lib.hid (l2Pairs_any 16 A n c B qs w (by omega) h hB hb)
  cases hv : okQ 16 qs with
  | false =>
    rw [show okQ ((16 : Nat) : Int) qs = false from hv] at VA
    have GN := Lib.hid (fmtP_no hv)
    clear hv h
    go_enter Tryd.func14, Tryd.ntmps14
    go_wp2_with fail
    refine VA.out.mono ?_
    rintro e w1 ⟨rfl, hb1⟩
    go_wp2_with fail
    go_ret
    exact ⟨by rw [GN.out]; rfl, hb1⟩
  | true =>
    rw [show okQ ((16 : Nat) : Int) qs = true from hv] at VA
    have hlen := h.1
    have h24 := (okQ_parts hv).1
    have GN := Lib.hid (fmtP_yes hv)
    have HSZ := Lib.hid (fun k (hk : k ≤ qs.length) => fmtP_size hv hk)
    have HG := Lib.hid (fun k (hk : k < qs.length) => fp_get hv hk)
    have HR := Lib.hid h
    have HL := Lib.hid hlen
    have hn24 : n ≤ 24 := by omega
    clear hv h hlen h24
    go_enter Tryd.func14, Tryd.ntmps14
    go_wp2_with fail
    refine VA.out.mono ?_
    rintro e w1 ⟨rfl, hb1⟩
    have HB1 := Lib.hid hb1
    clear VA hb1
    go_wp2_with fail
    go_loopw [3, 11] (fun v i wr => ∃ k : Nat, k ≤ n ∧ i = .int .i64 k ∧ v = .string (jnTo 32 (wordsP qs) k) ∧ Hid (Below w.heap.size w wr)) (fun _ i _ => n - (intOf i).toNat)
    case atStart => exact ⟨0, Nat.zero_le _, rfl, rfl, HB1⟩
    case round =>
      obtain ⟨k, hk, rfl, rfl, HBE⟩ := hrel
      by_cases hlt : k < n
      · have hkx : k < qs.length := by have := HL.out; omega
        obtain ⟨x, y, hxy, hx, hy⟩ := HG.out k hkx
        obtain ⟨b, off, rfl, hlb, hc⟩ := (HR.out.below HBE.out hB).2 (by omega)
        obtain ⟨g1, g2⟩ := hc k hlt
        rw [hxy] at g1 g2
        have g1 : wr.cell? ⟨b, off + k * 2, none⟩ = some (.int .i64 (x : Int)) := g1
        have g2 : wr.cell? ⟨b, off + k * 2 + 1, none⟩ = some (.int .i64 (y : Int)) := g2
        have hst := jnTo_step 32 (wordsP qs) k
        rw [wordsP_get qs hkx, hxy, pairW_nat] at hst
        have hfs := HSZ.out k (by omega)
        have hs1 := decT_size (k := x) 1 (by omega)
        have hs2 := decT_size (k := y) 1 (by omega)
        have DD := Lib.hid (fun (j : Nat) (hj : Hid (j ≤ 1000000)) (W : World) => decPos_any j W hj)
        have HX6 : Hid (x ≤ 1000000) := by show x ≤ 1000000; omega
        have HY6 : Hid (y ≤ 1000000) := by show y ≤ 1000000; omega
        obtain ⟨V, hV⟩ : ∃ V, V = wr.alloc (.cells #[.int .i64 (x : Int), .int .i64 (y : Int)] 74) := ⟨_, rfl⟩
        obtain ⟨X, hX⟩ : ∃ X, X = wr.heap.size := ⟨_, rfl⟩
        have hbV : Below wr.heap.size wr V := by rw [hV]; exact (Below.refl _ _).alloc (Nat.le_refl _) _
        have hR : V.heap[X]? = some (.cells #[.int .i64 (x : Int), .int .i64 (y : Int)] 74 (0, 0)) := by rw [hV, hX]; exact World.alloc_heap_new wr _
        obtain ⟨⟨c1, c2⟩, _⟩ := boxTwo_cells hR
        have HV := Lib.hid (And.intro hV hX)
        have HBV := Lib.hid (HBE.out.trans (hbV.mono HBE.out.size))
        have h45 : (ByteArray.mk #[45]).size = 1 := rfl
        have h32 : (ByteArray.mk #[32]).size = 1 := rfl
        revert hfs hst
        generalize jnTo 32 (wordsP qs) k = f
        intro hst hfs
        obtain ⟨s, hse⟩ : ∃ s, s = decT x := ⟨_, rfl⟩
        obtain ⟨t, hte⟩ : ∃ t, t = decT y := ⟨_, rfl⟩
        rw [← hse, ← hte] at hst
        rw [← hse] at hs1
        rw [← hte] at hs2
        have HSE := Lib.hid hse
        have HTE := Lib.hid hte
        clear hse hte
        obtain ⟨g, hg⟩ : ∃ g, g = (if 0 < k then f ++ ByteArray.mk #[32] else f) := ⟨_, rfl⟩
        have hgs : g.size ≤ 145 := by
          rw [hg]
          split
          · rw [ByteArray.size_append, h32]; omega
          · omega
        rw [← hg] at hst
        have hassoc : g ++ (s ++ ByteArray.mk #[45] ++ t) = g ++ s ++ ByteArray.mk #[45] ++ t := by rw [← ByteArray.append_assoc, ← ByteArray.append_assoc]
        rw [hassoc] at hst
        have HST := Lib.hid hst
        have hA1 : ∀ W : World, (Op.stringOp .add g s).run Tryd.prog W = .ok (.string (g ++ s)) W := fun W => run_string_add_sum W _ _ (by omega)
        have hA2 : ∀ W : World, (Op.stringOp .add (g ++ s) ⟨#[45]⟩).run Tryd.prog W = .ok (.string (g ++ s ++ ⟨#[45]⟩)) W := fun W => run_string_add_sum W _ _ (by rw [ByteArray.size_append, h45]; omega)
        have hA3 : ∀ W : World, (Op.stringOp .add (g ++ s ++ ⟨#[45]⟩) t).run Tryd.prog W = .ok (.string (g ++ s ++ ⟨#[45]⟩ ++ t)) W := fun W => run_string_add_sum W _ _ (by rw [ByteArray.size_append, ByteArray.size_append, h45]; omega)
        have hbb : Below V.heap.size V V := Below.refl _ _
        have hkk : (k : Int) < (n : Int) := by omega
        have hf145 : (f ++ ByteArray.mk #[32]).size ≤ 145 := by rw [ByteArray.size_append, h32]; omega
        have HGE := Lib.hid hg
        clear hst hassoc hkx hxy hc hV hX hbV hR hg hs1 hs2 hgs
        by_cases h0 : 0 < k
        · have HG1 := Lib.hid (show g = f ++ ByteArray.mk #[32] by rw [HGE.out, if_pos h0])
          have hk0 : 0 < (k : Int) := by omega
          clear HGE
          go_wp2_with fail
          rw [← HV.out.1, ← HV.out.2, ← HG1.out]
          clear hf145
          go_region_held3 (fun w' => Below V.heap.size V w' ∧ w'.cell? ⟨X, 0, none⟩ = some (.int .i64 x) ∧ w'.cell? ⟨X, 1, none⟩ = some (.int .i64 y))
            (first | exact heldP_drew ⟨by assumption, by assumption, by assumption⟩ | exact heldP_drew (by assumption) | exact heldP_call (by assumption) (by assumption) (Below.size (And.left (by assumption))))
            (first | (go_at_call 39; refine (DD.out _ (by first | exact HX6 | exact HY6) _).mono ?_; rintro e w' ⟨rfl, hbn⟩; (try rw [← HSE.out]); (try rw [← HTE.out])))
          have HF := Lib.hid (HBV.out.trans ((show Below V.heap.size V _ from And.left (by assumption)).mono HBV.out.size))
          go_wp2_with fail
          go_roundw
          case rel => exact ⟨k + 1, by omega, by go_num, by rw [HST.out], HF⟩
          case measure => simp [intOf]; omega
        · obtain rfl : g = f := by rw [HGE.out, if_neg h0]
          obtain rfl : k = 0 := by omega
          simp only [Nat.zero_mul, Nat.add_zero] at g1 g2
          clear HGE
          go_wp2_with fail
          rw [← HV.out.1, ← HV.out.2]
          go_region_held3 (fun w' => Below V.heap.size V w' ∧ w'.cell? ⟨X, 0, none⟩ = some (.int .i64 x) ∧ w'.cell? ⟨X, 1, none⟩ = some (.int .i64 y))
            (first | exact heldP_drew ⟨by assumption, by assumption, by assumption⟩ | exact heldP_drew (by assumption) | exact heldP_call (by assumption) (by assumption) (Below.size (And.left (by assumption))))
            (first | (go_at_call 39; refine (DD.out _ (by first | exact HX6 | exact HY6) _).mono ?_; rintro e w' ⟨rfl, hbn⟩; (try rw [← HSE.out]); (try rw [← HTE.out])))
          have HF := Lib.hid (HBV.out.trans ((show Below V.heap.size V _ from And.left (by assumption)).mono HBV.out.size))
          go_wp2_with fail
          go_roundw
          case rel => exact ⟨0 + 1, by omega, by go_num, by rw [HST.out], HF⟩
          case measure => simp [intOf]; omega
      · obtain rfl : k = n := by omega
        by_cases hn0 : k = 0
        · have GE := Lib.hid (show fmtP qs = ⟨#[45]⟩ by rw [GN.out]; unfold listP; rw [if_pos (by have := HL.out; omega)])
          subst hn0
          have e0 : jnTo 32 (wordsP qs) 0 = ⟨#[]⟩ := rfl
          rw [e0]
          clear e0
          go_wp2_with fail
          go_ret
          exact ⟨by rw [GE.out]; try rfl, HBE.out⟩
        · have GE := Lib.hid (show fmtP qs = jnTo 32 (wordsP qs) k by rw [GN.out]; unfold listP; rw [if_neg (by have := HL.out; omega), HL.out])
          have hpos : 0 < (jnTo 32 (wordsP qs) k).size := by
            obtain ⟨m, rfl⟩ : ∃ m, k = m + 1 := ⟨k - 1, by omega⟩
            have hm : m < qs.length := by have := HL.out; omega
            rw [jnTo_step, ByteArray.size_append, wordsP_get qs hm]
            unfold pairW
            rw [ByteArray.size_append, ByteArray.size_append]
            have h3 : (ByteArray.mk #[45]).size = 1 := rfl
            omega
          obtain ⟨f, hf⟩ : ∃ f, f = jnTo 32 (wordsP qs) k := ⟨_, rfl⟩
          rw [← hf] at hpos ⊢
          have GE2 := Lib.hid (GE.out.trans hf.symm)
          clear hf
          have hne : f.toList ≠ [] := fun e => by
            rw [Lib.toList_data] at e
            have : f.size = 0 := by
              show f.data.size = 0
              rw [← Array.length_toList, e]
              rfl
            omega
          have hne1 : f.toList.isEmpty = false := by cases h : f.toList with
            | nil => exact absurd h hne
            | cons a l => rfl
          have hne2 : (f.toList == []) = false := by cases h : f.toList with
            | nil => exact absurd h hne
            | cons a l => rfl
          clear hpos
          go_wp2_with fail
          go_ret
          exact ⟨by rw [GE2.out]; rfl, HBE.out⟩
end Go.Proofs.YtfmhdngblpmcfaaDoor
