/- The model's ClassesOf. Condition: lengths up to 1048576. -/
import Derived.Test.YtkflihmhkgpgkaaSpecClass
import Derived.Test.YtkflihmhkgpgkaaRows2
namespace Go.Proofs.Ytkflihmhkgpgkaa
open Go.RowKit

/-- The items below k that are the first of their class. -/
def heads (up : List Int) (k : Nat) : List Nat := (List.range k).filter fun i => (cls up (rootI up i : Int) up.length)[0]?.getD 0 == (i : Int)
theorem heads_yes {up : List Int} {k : Nat} (h : (cls up (rootI up k : Int) up.length)[0]?.getD 0 = (k : Int)) : heads up (k + 1) = heads up k ++ [k] := by
  simp only [heads, List.range_succ, List.filter_append, List.filter_cons, List.filter_nil]
  rw [h]
  simp
theorem heads_no {up : List Int} {k : Nat} (h : (cls up (rootI up k : Int) up.length)[0]?.getD 0 ≠ (k : Int)) : heads up (k + 1) = heads up k := by
  simp only [heads, List.range_succ, List.filter_append, List.filter_cons, List.filter_nil]
  rw [if_neg (by simpa using h)]
  simp
theorem heads_len (up : List Int) (k : Nat) : (heads up k).length ≤ k := by
  unfold heads
  exact Nat.le_trans (List.length_filter_le _ _) (by simp)
/-- The classes told up to k. -/
def rowsTo (up : List Int) (k : Nat) : List (List Int) := (heads up k).map fun i => cls up (rootI up i : Int) up.length
theorem rowsTo_len (up : List Int) (k : Nat) : (rowsTo up k).length ≤ k := by
  unfold rowsTo
  rw [List.length_map]
  exact heads_len up k
theorem rowsTo_yes {up : List Int} {k : Nat} (h : (cls up (rootI up k : Int) up.length)[0]?.getD 0 = (k : Int)) : rowsTo up (k + 1) = rowsTo up k ++ [cls up (rootI up k : Int) up.length] := by
  unfold rowsTo
  rw [heads_yes h, List.map_append]
  rfl
theorem rowsTo_no {up : List Int} {k : Nat} (h : (cls up (rootI up k : Int) up.length)[0]?.getD 0 ≠ (k : Int)) : rowsTo up (k + 1) = rowsTo up k := by
  unfold rowsTo
  rw [heads_no h]
/-- What ClassesOf answers. -/
def rowsN (up : List Int) : List (List Int) := if fvB up = true then rowsTo up up.length else []
theorem rowsN_no {up : List Int} (h : fvB up = false) : rowsN up = [] := by unfold rowsN; rw [h]; simp
theorem rowsN_yes {up : List Int} (h : fvB up = true) : rowsN up = rowsTo up up.length := by unfold rowsN; rw [if_pos h]
theorem cls_self {up : List Int} {i : Nat} (hi : i < up.length) : 1 ≤ (cls up (rootI up i : Int) up.length).length := by
  have : (i : Int) ∈ cls up (rootI up i : Int) up.length := by
    unfold cls
    exact List.mem_map.2 ⟨i, List.mem_filter.2 ⟨by simpa using hi, by simp⟩, rfl⟩
  have := List.length_pos_of_mem this
  omega

theorem Try.info_ints : (Try.prog.info? 23).map (fun i => (i.zero, i.size, i.bytes)) = some (some (.slice none 0 0), 1, 24) := by kernel_rfl

set_option maxRecDepth 100000 in
set_option maxHeartbeats 2000000 in
theorem specClasses_any (A : Option Addr) (n c B0 : Nat) (zs : List Int) (w : World) (h : Rd w B0 A n zs) (hB0 : B0 ≤ w.heap.size) (hb : n ≤ 1048576) :
    Calls Try.prog 27 #[.slice A n c] w fun e w' => ∃ v vs, e = .returned (.tuple #[v, .bool (fvB zs)]) ∧ OwnRows w' w.heap.size v vs (rowsN zs) ∧ Below w.heap.size w w' := by
  obtain ⟨i0, hi0, hz0, hz1, hz2⟩ := info_parts Try.info_ints
  have hw0 := (Below.refl w.heap.size w).alloc (Nat.le_refl _) (.cells #[] 23)
  have V := specValid_any A n c B0 zs (w.alloc (.cells #[] 23)) (h.below hw0 hB0) (Nat.le_trans hB0 hw0.size) hb
  have HW0 := Lib.hid hw0
  have hO := Lib.hid (OwnRows.empty w w.heap.size (Nat.le_refl _))
  have L1 : zs.length ≤ n := by have := h.1; omega
  have L3 : n ≤ zs.length := by have := h.1; omega
  cases hv : fvB zs with
  | false =>
    rw [hv] at V
    rw [rowsN_no hv]
    have V := Lib.hid V
    clear hv hw0 h hi0 hz0 hz1 hz2 L1 L3
    go_enter Try.func27, Try.ntmps27
    go_wp2_with fail
    refine V.out.mono ?_
    rintro e w1 ⟨rfl, hb1⟩
    go_wp2_with fail
    go_ret2
    exact ⟨_, _, rfl, hO.out.keep hb1, HW0.out.trans (hb1.mono HW0.out.size)⟩
  | true =>
    rw [hv] at V
    rw [rowsN_yes hv]
    have h16 := (fv_parts hv).2.1
    have hn16 : n ≤ 16 := by omega
    have V := Lib.hid V
    have C := Lib.hid (fun (k : Nat) (hk : k < n) (w1 : World) (hb1 : Below w.heap.size w w1) => l1Class_any A n c B0 k zs w1 (h.below hb1 hB0) (Nat.le_trans hB0 hb1.size) hv hk)
    have HSELF := Lib.hid (fun (k : Nat) (hk : k < n) => cls_self (up := zs) (i := k) (by omega))
    have HZ : Hid (zs.length = n) := by show _ = _; omega
    clear hv hw0 h h16 L1 L3
    go_enter Try.func27, Try.ntmps27
    go_wp2_with fail
    refine V.out.mono ?_
    rintro e w1 ⟨rfl, hb1⟩
    have hO1 : Hid (∃ vs, OwnRows w1 w.heap.size (.slice (some ⟨w.heap.size, 0, none⟩) 0 0) vs (rowsTo zs 0)) := ⟨_, hO.out.keep hb1⟩
    have hb1 := HW0.out.trans (hb1.mono HW0.out.size)
    clear HW0 hO V
    go_wp2_with fail
    go_loopw [4, 14] (fun v i wr => ∃ k : Nat, k ≤ n ∧ i = .int .i64 k ∧ Hid (∃ vs, OwnRows wr w.heap.size v vs (rowsTo zs k)) ∧ Below w.heap.size w wr) (fun _ i _ => n - (intOf i).toNat)
    case atStart => exact ⟨0, Nat.zero_le _, rfl, hO1, hb1⟩
    case round =>
      obtain ⟨k, hk, rfl, HO, hbe⟩ := hrel
      clear hO1 hb1
      by_cases hlt : k < n
      · have CK := C.out k hlt wr hbe
        have hself := HSELF.out k hlt
        have hyes := rowsTo_yes (up := zs) (k := k)
        have hno := rowsTo_no (up := zs) (k := k)
        rw [HZ.out] at hself hyes hno
        revert CK hself hyes hno
        have hcl := cls_len zs (rootI zs k : Int) n
        generalize cls zs (rootI zs k : Int) n = cs at hcl
        intro CK hself hyes hno
        have CK := Lib.hid CK
        have HY := Lib.hid hyes
        have HN := Lib.hid hno
        have hsz := hbe.size
        clear hyes hno
        go_wp2_with fail
        refine CK.out.mono ?_
        rintro e w2 ⟨cv, rfl, hoc, hb2⟩
        obtain ⟨A2, c2, rfl, hr2⟩ := hoc.form
        obtain ⟨g2, rfl⟩ : ∃ g, A2 = some ⟨g, 0, none⟩ := by
          rcases hoc.2 with ⟨hv, hx⟩ | ⟨g, cap, cur, hv, _⟩
          · simp only [Value.slice.injEq] at hv
            omega
          · simp only [Value.slice.injEq] at hv
            exact ⟨g, hv.1⟩
        have g1 := hoc.slot (k := 0) (by omega)
        have hbg := (hoc.at_base).1
        have hbe2 := hbe.trans (hb2.mono hsz)
        have hsz2 := hbe2.size
        obtain ⟨vs, ho⟩ := HO.out
        have hvl : vs.length ≤ 16 := by rw [ho.len]; have := rowsTo_len zs k; omega
        have ho2 := ho.keep hb2
        have hf : (Value.slice (some ⟨g2, 0, none⟩) cs.length c2).ownBlock = none ∨ (Value.slice (some ⟨g2, 0, none⟩) cs.length c2).ownBlock ≠ (_ : Value).ownBlock := .inr (fun e => by have := (ho.row.lt g2 e.symm).2; omega)
        have hf2 : ∀ d ∈ vs, d.ownBlock = none ∨ d.ownBlock ≠ (Value.slice (some ⟨g2, 0, none⟩) cs.length c2).ownBlock := fun d hd => .inr (fun e => by
          obtain ⟨j, hj, rfl⟩ := List.getElem_of_mem hd
          have := ((ho.each j vs[j] (by simp [hj])).blockOf g2 e).2
          omega)
        have hrow := ho2.row
        have HF := Lib.hid hf
        have HF2 := Lib.hid hf2
        have HO2 := Lib.hid ho2
        have HOC := Lib.hid (hoc.less hsz)
        clear HO ho ho2 hf hf2 hoc hr2 CK hbe hb2
        by_cases he : cs[0]?.getD 0 = (k : Int)
        · rw [he] at g1
          have heb : ((k : Int) == (k : Int)) = true := by simp
          have hr := HY.out he
          have HR := Lib.hid hr
          clear he hr
          go_wp2_with (at_builtin; go_must (refine wpList_append_own_at _ rfl _ _ 25 rfl w.heap.size 23 i0 (.slice none 0 0) 1 24 Try.underlying25 hi0 hz0 hz1 hz2 rfl (by decide) _ _ _ rfl (hrow.alloc _) ⟨w2.heap.size, 0, none⟩ 1 1 [.slice (some ⟨g2, 0, none⟩) cs.length c2] rfl rfl (cell_one_new _ _ _) (by simp [Value.oneCell']) (by unfold maxLen; omega) (by omega) (by simp; omega) ?_); intro v' w3 hown' hgrow hnil hloc)
          have hall := (World.grownBy_alloc w2 _ _).trans hgrow
          have hbe3 : Below w.heap.size w w3 := hbe2.grown hall hsz2 (fun r e => (hrow.lt r e).1)
          have HO3 : Hid (∃ vs, OwnRows w3 w.heap.size v' vs (rowsTo zs (k + 1))) := by
            rw [HR.out]
            exact ⟨_, HO2.out.more HOC.out HF.out HF2.out hown' hall (hloc.imp id (fun h => ⟨_, h, by simp⟩))⟩
          clear hall hown' hgrow hnil hloc hrow
          go_wp2
          go_roundw
          case rel => exact ⟨k + 1, by omega, by go_num, HO3, hbe3⟩
          case measure => simp [intOf]; omega
        · have HR := Lib.hid (HN.out he)
          generalize cs[0]?.getD 0 = z at g1 he
          have heb : (z == (k : Int)) = false := by simp [he]
          have HO3 := HO2.out
          rw [← HR.out] at HO3
          have HO4 := Lib.hid (show ∃ vs', OwnRows w2 w.heap.size _ vs' _ from ⟨vs, HO3⟩)
          clear he HO3 hrow
          go_wp2
          go_roundw
          case rel => exact ⟨k + 1, by omega, by go_num, HO4, hbe2⟩
          case measure => simp [intOf]; omega
      · obtain rfl : k = n := by omega
        go_wp2
        go_ret2
        obtain ⟨vs, ho⟩ := HO.out
        rw [HZ.out]
        exact ⟨_, vs, rfl, ho, hbe⟩
end Go.Proofs.Ytkflihmhkgpgkaa
