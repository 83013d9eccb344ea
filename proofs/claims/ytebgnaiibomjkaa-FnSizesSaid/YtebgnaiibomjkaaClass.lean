/- The program's map from roots to classes, and ClassOf. Condition: lengths up to 1048576. -/
import Derived.Test.YtebgnaiibomjkaaImpl
import Derived.Test.YtebgnaiibomjkaaForest
import Derived.Maps.OwnRows
import Derived.Maps.GroupsBeside
import Derived.Maps.OwnOps
import Derived.Maps.Views
namespace Go.Proofs.Ytebgnaiibomjkaa
open Go.RowKit Go.Maps Go.ChangeShapes

/-- The items below k whose root is r, in order. -/
def cls (up : List Int) (r : Int) (k : Nat) : List Int := ((List.range k).filter fun i => (rootI up i : Int) == r).map fun i : Nat => (i : Int)
theorem cls_yes {up : List Int} {r : Int} {k : Nat} (h : (rootI up k : Int) = r) : cls up r (k + 1) = cls up r k ++ [(k : Int)] := by simp [cls, List.range_succ, List.filter_append, h]
theorem cls_no {up : List Int} {r : Int} {k : Nat} (h : (rootI up k : Int) ≠ r) : cls up r (k + 1) = cls up r k := by simp [cls, List.range_succ, List.filter_append, h]
theorem cls_len (up : List Int) (r : Int) (k : Nat) : (cls up r k).length ≤ k := by
  unfold cls
  rw [List.length_map]
  exact Nat.le_trans (List.length_filter_le _ _) (by simp)
/-- What ClassOf answers. -/
def clsN (up : List Int) (i : Int) : List Int := if itemB up i = true then cls up (rootN up i) up.length else []
theorem clsN_no {up : List Int} {i : Int} (h : itemB up i = false) : clsN up i = [] := by unfold clsN; rw [h]; simp
theorem clsN_yes {up : List Int} {i : Int} (h : itemB up i = true) : clsN up i = cls up (rootN up i) up.length := by unfold clsN; rw [if_pos h]
theorem clsN_len16 (up : List Int) (i : Int) : (clsN up i).length ≤ 16 := by
  cases hv : itemB up i with
  | false => rw [clsN_no hv]; simp
  | true =>
    rw [clsN_yes hv]
    have := cls_len up (rootN up i) up.length
    have := (fv_parts (item_fv hv)).2.1
    omega

/-- An element of the map reads as these numbers. -/
def Dat (d : DataW Unit) (xs : List Int) : Prop := (d = .nil ∧ xs = []) ∨ d = .slice (lits .i64 xs) []
theorem lits_inj : ∀ {xs ys : List Int}, (lits .i64 xs : List (DataW Unit)) = lits .i64 ys → xs = ys
  | [], [], _ => rfl
  | [], _ :: _, h => by simp [lits] at h
  | _ :: _, [], h => by simp [lits] at h
  | x :: xs, y :: ys, h => by
    simp only [lits, List.map_cons, List.cons.injEq, DataW.lit.injEq, Lit.int.injEq, true_and] at h
    rw [h.1, lits_inj (xs := xs) (ys := ys) h.2]
theorem dat_row {w : World} {base : Nat} {e : TypeId} {v : Value} {zs xs : List Int} {d : DataW Unit} (h : w.ownsInts base e .i64 v zs) (hd : d = rowDatum .i64 v zs) (hx : Dat d xs) : zs = xs := by
  rcases h.datum (H := Unit) with ⟨h1, h2⟩ | h1
  · rw [h1] at hd
    rcases hx with ⟨_, hx⟩ | hx
    · rw [h2, hx]
    · rw [hd] at hx; cases hx
  · rw [h1] at hd
    rcases hx with ⟨hx, _⟩ | hx
    · rw [hd] at hx; cases hx
    · rw [hd] at hx
      injection hx with hx
      exact lits_inj hx
theorem groups_map {w : World} {P : Program} {k : TypeId} {base : Nat} {e : TypeId} {q : IntKind} {b n : Nat} {D : DataW Unit} (h : w.ownsGroups P k base e q b n D) : IsMap D := by
  obtain ⟨es, clock, _, _, _, rfl, _⟩ := h
  exact ⟨_, rfl⟩
theorem int_key (r : Int) : WideAt.IsKeyLit (.int .i64 r) := by simp [WideAt.IsKeyLit]
/-- The map told so far. -/
def Told (up : List Int) (D : DataW Unit) (k : Nat) : Prop := ∀ r : Int, Dat (D.atKey (.int .i64 r) .nil) (cls up r k) ∧ (has D (.int .i64 r) = true ↔ cls up r k ≠ [])
theorem told_none (up : List Int) : Told up (.map []) 0 := fun _ => ⟨.inl ⟨rfl, rfl⟩, by simp [has, cls]⟩
theorem told_more {up : List Int} {D : DataW Unit} {k : Nat} {d : DataW Unit} (hD : IsMap D) (h : Told up D k) (hd : d = .slice (lits .i64 (cls up (rootI up k : Int) k ++ [(k : Int)])) []) : Told up (D.put (.int .i64 (rootI up k : Int)) d) (k + 1) := fun r => by
  by_cases e : (rootI up k : Int) = r
  · subst e
    rw [atKey_put_same hD (int_key _), has_put_same hD (int_key _), cls_yes rfl]
    exact ⟨.inr hd, by simp⟩
  · rw [atKey_put_other (fun h => e (by injection h with _ h; exact h.symm)), has_put_other (fun h => e (by injection h with _ h; exact h.symm)), cls_no e]
    exact h r
theorem grown_none {a b : World} (h : Below a.heap.size a b) : a.grownBy b none := ⟨h.os, h.tape, h.output, h.size, fun i hi _ => h.block i hi⟩

theorem zero_ints (w : World) : (zeroValue 23).run Try.prog w = .ok (.slice none 0 0) w := by kernel_rfl

set_option maxRecDepth 100000 in
set_option maxHeartbeats 2000000 in
theorem byRoot_any (B n : Nat) (zs : List Int) (w : World) (hN : Nodes w B zs) (hB : B < w.heap.size) (hv : fvB zs = true) (hn : zs.length = n) :
    Calls Try.prog 64 #[.slice (some ⟨B, 0, none⟩) n n] w fun e w' => e = .returned (.map (some w.heap.size)) ∧ (∃ D, w'.ownsGroups Try.prog 3 (w.heap.size + 1) 3 .i64 w.heap.size n D ∧ Told zs D n) ∧ Below w.heap.size w w' := by
  have hmm := @run_makeMap Try.prog
  obtain ⟨i0, hi, hz0, hz1, hz2⟩ := info_parts Try.info_int
  have h16 := (fv_parts hv).2.1
  have L1 : zs.length ≤ n := by omega
  have L3 : n ≤ zs.length := by omega
  have hn16 : n ≤ 16 := by omega
  have hIn := Lib.hid (fv_in hv)
  have HV := Lib.hid hv
  have HK : Keyed Try.prog 3 := int_keyed Try.underlying3
  have H0 : Hid (∃ D : DataW Unit, (w.alloc (.map #[] 0)).ownsGroups Try.prog 3 (w.heap.size + 1) 3 .i64 w.heap.size 0 D ∧ Told zs D 0) := ⟨_, World.ownsGroups_made _ _ _ _ _, told_none zs⟩
  clear hv hn h16
  go_enter Try.func64, Try.ntmps64
  go_wp2_with fail
  go_loopw [9] (fun i wr => ∃ k : Nat, k ≤ n ∧ i = .int .i64 k ∧ Hid (∃ D : DataW Unit, wr.ownsGroups Try.prog 3 (w.heap.size + 1) 3 .i64 w.heap.size k D ∧ Told zs D k) ∧ Below w.heap.size w wr ∧ w.heap.size + 1 ≤ wr.heap.size) (fun i _ => n - (intOf i).toNat)
  case atStart => exact ⟨0, Nat.zero_le _, rfl, H0, (Below.refl _ _).alloc (Nat.le_refl _) _, by simp⟩
  case round =>
    obtain ⟨k, hk, rfl, HG, hbe, hws⟩ := hrel
    clear H0
    by_cases hlt : k < n
    · have hNr := hN.below hbe hB
      have hBr : B < wr.heap.size := by omega
      have R := root_any B k (way zs zs.length k) zs wr hNr hBr hIn.out (by omega) (fv_path HV.out (by omega))
      have hrl := (root_is HV.out (i := k) (by omega)).1
      unfold nadr at R
      have R := Lib.hid R
      go_wp2_with fail
      refine R.out.mono ?_
      rintro e w2 ⟨rfl, hb2⟩
      have hc : w2.cell? ⟨B, lastOf k (way zs zs.length k) * 2, none⟩ = some (.int .i64 (rootI zs k : Int)) := ((hNr.below hb2 hBr) _ hrl).1
      have hs2 := hb2.size
      have hbe2 := hbe.trans (hb2.mono (by omega))
      obtain ⟨D, hown, ht⟩ := HG.out
      have hown := hown.kept (grown_none hb2) (by simp) (hown.rowsAbove (fun j hj => by cases hj))
      have HT := Lib.hid ht
      have HM := Lib.hid (groups_map hown)
      clear ht HG hbe hNr R hb2
      obtain ⟨r, hr⟩ : ∃ r, r = rootI zs k := ⟨_, rfl⟩
      rw [← hr] at hc
      have hr16 : r ≤ 16 := by omega
      have HR := Lib.hid hr
      have hkey : keyOf Try.prog 3 (.int .i64 (r : Int)) = some (.int .i64 (r : Int)) := keyOf_int_mk Try.underlying3 (WalkArith.wf_i64 (by omega))
      clear hr hrl
      go_wp2_with (first
        | (at_lookup; refine wpList_lookup_groups _ rfl _ _ 82 rfl 3 23 3 .i64 HK Try.underlying82 (zero_ints _) (w.heap.size + 1) w.heap.size k _ rfl hown (by unfold maxLen; omega) _ _ rfl hkey ?_; intro v ys hat hoi hzl hback)
        | (at_builtin; refine wpList_append_own_at _ rfl _ _ 23 rfl (w.heap.size + 1) 3 i0 (.int .i64 0) 1 8 Try.underlying23 hi hz0 hz1 hz2 rfl (by decide) _ _ _ rfl (hoi.1.alloc _) ⟨w2.heap.size, 0, none⟩ 1 1 [.int .i64 k] rfl rfl (cell_one_new _ _ _) (ints_oneCell .i64 [(k : Int)]) (by unfold maxLen; omega) (by omega) (by simp; omega) ?_; intro v' w3 hown' hgrow hnil hloc)
        | (at_mapUpdate; refine wpList_mapUpdate_back _ rfl _ _ _ 82 rfl hback rfl rfl rfl ((World.grownBy_alloc _ _ _).trans hgrow) (hoi.appended hown' (WalkArith.wf_i64 (by omega))) (by simp; omega) (hloc.imp id (fun h => ⟨_, h, by simp⟩)) ?_; intro w4 hown2 hgrow2))
      have hall := (World.grownBy_alloc w2 _ _).trans hgrow
      have hy : ys = cls zs (r : Int) k := dat_row hoi hat (HT.out _).1
      have HD : Hid (∃ D : DataW Unit, w4.ownsGroups Try.prog 3 (w.heap.size + 1) 3 .i64 w.heap.size (k + 1) D ∧ Told zs D (k + 1)) := by
        have hdp := (hoi.appended hown' (WalkArith.wf_i64 (by omega))).datum_pos (H := Unit) (by simp)
        have hown3 : w4.ownsGroups Try.prog 3 (w.heap.size + 1) 3 .i64 w.heap.size (k + 1) (D.put (.int .i64 (r : Int)) (.slice (lits .i64 (ys ++ [(k : Int)])) [])) := by
          rw [← hdp]
          exact hown2
        refine ⟨_, hown3, ?_⟩
        rw [HR.out]
        refine told_more HM.out HT.out ?_
        rw [hy, HR.out]
      have hbe4 := hbe2.groups hoi hall hgrow2 hbe2.size (Nat.le_succ _) (Nat.le_refl _)
      have hs4 : w.heap.size + 1 ≤ w4.heap.size := Nat.le_trans hws (Nat.le_trans hs2 (Nat.le_trans hall.size hgrow2.size))
      clear hown2 hgrow2 hall hy hoi hat hback hown' hgrow hown hkey hbe2
      go_roundw
      case rel => exact ⟨k + 1, by omega, by go_num, HD, hbe4, hs4⟩
      case measure => simp [intOf]; omega
    · obtain rfl : k = n := by omega
      go_wp2
      go_ret
      exact ⟨rfl, HG.out, hbe⟩

set_option maxRecDepth 100000 in
set_option maxHeartbeats 2000000 in
theorem implClass_any (A : Option Addr) (n c B0 : Nat) (zs : List Int) (i : Int) (w : World) (h : Rd w B0 A n zs) (hB0 : B0 ≤ w.heap.size) (hb : n ≤ 1048576) :
    Calls Try.prog 18 #[.slice A n c, .int .i64 i] w fun e w' => ∃ v, e = .returned (.tuple #[v, .bool (itemB zs i)]) ∧ Own w' w.heap.size v (clsN zs i) ∧ Below w.heap.size w w' := by
  have R := implRoot_any A n c B0 zs i w h hB0 hb
  have ND := Lib.hid (fun (w1 : World) (hb1 : Below w.heap.size w w1) => nodesOf_any A n c B0 zs w1 (h.below hb1 hB0) (Nat.le_trans hB0 hb1.size) hb)
  have hln := h.1
  cases hv : itemB zs i with
  | false =>
    rw [rootN_no hv] at R
    rw [clsN_no hv]
    have R := Lib.hid R
    clear hv ND
    go_enter Try.func18, Try.ntmps18
    go_wp2_with fail
    refine R.out.mono ?_
    rintro e w1 ⟨rfl, hb1⟩
    go_wp2_with fail
    go_ret2
    exact ⟨_, rfl, World.ownsRow_nil _ _ _ _, hb1⟩
  | true =>
    obtain ⟨r, hp, hrl, _⟩ := root_facts hv
    have hcl := clsN_yes hv
    rw [hp] at R hcl
    have hfv := item_fv hv
    have h16 := (fv_parts hfv).2.1
    rw [hln] at hcl
    have HC := Lib.hid hcl
    have HV := Lib.hid hfv
    have HL := Lib.hid hln
    have hr16 : r ≤ 16 := by omega
    have HK : Keyed Try.prog 3 := int_keyed Try.underlying3
    have hkey : keyOf Try.prog 3 (.int .i64 (r : Int)) = some (.int .i64 (r : Int)) := keyOf_int_mk Try.underlying3 (WalkArith.wf_i64 (by omega))
    have hn16 : n ≤ 16 := by omega
    have R := Lib.hid R
    clear hv hcl hfv h16 hln hp hrl
    go_enter Try.func18, Try.ntmps18
    go_wp2_with fail
    refine R.out.mono ?_
    rintro e w1 ⟨rfl, hb1⟩
    go_wp2_with fail
    refine (ND.out w1 hb1).mono ?_
    rintro e w2 ⟨hb2, ⟨hv, rfl⟩ | ⟨hv, rfl, hN, hlt⟩⟩
    · rw [HV.out] at hv; cases hv
    · have C := Lib.hid (byRoot_any w1.heap.size n zs w2 hN hlt hv HL.out)
      have hs1 := hb1.size
      have hs2 := hb2.size
      have hb2 := hb1.trans (hb2.mono hs1)
      clear hv hN
      go_wp2_with fail
      refine C.out.mono ?_
      rintro e w3 ⟨rfl, HG, hb3⟩
      have hb3 := hb2.trans (hb3.mono hb2.size)
      obtain ⟨D, hown, ht⟩ := HG
      have HT := Lib.hid ht
      clear ht hb2
      go_wp2_with (at_lookup; refine wpList_lookup_groups _ rfl _ _ 82 rfl 3 23 3 .i64 HK Try.underlying82 (zero_ints _) (w2.heap.size + 1) w2.heap.size n _ rfl hown (by unfold maxLen; omega) _ _ rfl hkey ?_; intro v ys hat hoi hzl hback)
      have hy : ys = cls zs (r : Int) n := dat_row hoi hat (HT.out _).1
      subst hy
      have ho : Own w3 w.heap.size v (clsN zs i) := by rw [HC.out]; exact Own.less hoi.1 (by omega)
      clear hoi hat hback hown
      go_ret2
      exact ⟨_, rfl, ho, hb3⟩
end Go.Proofs.Ytebgnaiibomjkaa
