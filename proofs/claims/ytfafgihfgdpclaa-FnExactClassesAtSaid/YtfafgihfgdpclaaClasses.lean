/- The program's ClassesOf: the map's values, collected and sorted. Condition: lengths up to 1048576; the library's sort lies in this program under the numbers of the library's proofs (SortLay). -/
import Derived.Test.YtfafgihfgdpclaaSorted
import Derived.Test.YtfafgihfgdpclaaSortLay
import Derived.Test.YtfafgihfgdpclaaHang
import Derived.Maps.OwnSet
import Derived.Outline
namespace Go.Proofs.Ytfafgihfgdpclaa
open Go.RowKit Go.Maps Go.Shelf Go.Lib

/-- What the map's values are, as the sort takes them. -/
theorem cands {w w' : World} {base n row : Nat} {up : List Int} {D0 : DataW Unit} {ps : List (Int × (Option Addr × Nat × Nat))} (hn : up.length = n) (ht : Told up D0 n) (ha : AllVals D0 (rowElem w base 3 .i64) ps) (hb : Below w.heap.size w w') (hr : w.heap.size ≤ row) :
    ∃ xs : List (Int × Nat × Nat × Nat), xs.length = ps.length ∧ xs.map candV = vals ps ∧ (∀ x ∈ xs, CandOk w' base row up x) ∧ (xs.map (·.1)).Nodup ∧ ∀ r, r ∈ xs.map (·.1) ↔ cls up r up.length ≠ [] := by
  subst hn
  have key : ∀ p ∈ ps, ∃ x : Int × Nat × Nat × Nat, x.1 = p.1 ∧ candV x = slV p.2 ∧ CandOk w' base row up x := by
    intro p hp
    obtain ⟨y, hy, hat⟩ := ha.2.2 p hp
    obtain ⟨zs, ho, hz⟩ := rowElem_inv hy
    have hhas := (ha.2.1 p.1).1 (List.mem_map_of_mem hp)
    have hd : D0.atKey (.int .i64 p.1) .nil = rowDatum .i64 (slV p.2) zs := by rw [hat .nil, hz]
    have hc : zs = cls up p.1 up.length := dat_row ho hd (ht p.1).1
    have hne := (ht p.1).2.1 hhas
    have hO : Own w base (slV p.2) (cls up p.1 up.length) := by rw [← hc]; exact ho.1
    rcases hO.2 with ⟨hv, hx⟩ | ⟨g, cap, cur, hv, _, hh, _⟩
    · exact absurd (List.length_eq_zero_iff.1 hx) hne
    · refine ⟨(p.1, g, (cls up p.1 up.length).length, cap), rfl, hv.symm, hne, ?_, ?_⟩
      · show Own w' base (.slice (some ⟨g, 0, none⟩) _ cap) _
        rw [← hv]
        exact hO.keep hb (Nat.le_refl _)
      · have := (Array.getElem?_eq_some_iff.1 hh).1
        show g ≠ row
        omega
  have hlist : ∀ qs : List (Int × (Option Addr × Nat × Nat)), (∀ p ∈ qs, ∃ x : Int × Nat × Nat × Nat, x.1 = p.1 ∧ candV x = slV p.2 ∧ CandOk w' base row up x) → ∃ xs : List (Int × Nat × Nat × Nat), xs.map (·.1) = qs.map (·.1) ∧ xs.map candV = vals qs ∧ ∀ x ∈ xs, CandOk w' base row up x := by
    intro qs
    induction qs with
    | nil => exact fun _ => ⟨[], rfl, rfl, by simp⟩
    | cons q qs ih =>
      intro h
      obtain ⟨xs, h1, h2, h3⟩ := ih fun p hp => h p (List.mem_cons_of_mem _ hp)
      obtain ⟨x, e1, e2, e3⟩ := h q (by simp)
      refine ⟨x :: xs, by simp [h1, e1], ?_, ?_⟩
      · show candV x :: xs.map candV = slV q.2 :: vals qs
        rw [e2, h2]
      · intro y hy
        rcases List.mem_cons.1 hy with rfl | hy
        · exact e3
        · exact h3 y hy
  obtain ⟨xs, h1, h2, h3⟩ := hlist ps key
  refine ⟨xs, by have := congrArg List.length h1; simpa using this, h2, h3, by rw [h1]; exact ha.1, fun r => ?_⟩
  rw [h1, ha.2.1 r, (ht r).2]

set_option maxRecDepth 100000 in
set_option maxHeartbeats 1000000 in
theorem sortedFunc_any (Bm b n base base0 : Nat) (zs : List Int) (D0 : DataW Unit) (w : World) (hv : fvB zs = true) (hn : zs.length = n) (hBm : Bm < w.heap.size) (hm : w.cell? ⟨Bm, 0, none⟩ = some (.map (some b))) (hown : w.ownsGroups Try.prog 3 base 3 .i64 b n D0) (ht : Told zs D0 n)
    (hb0 : base0 ≤ base) (hbw : base0 ≤ w.heap.size) :
    Calls Try.prog 117 #[.func (.func 173) #[] #[.pointer (some ⟨Bm, 0, none⟩)], .func (.func 116) #[] #[]] w fun e w' => ∃ v, e = .returned v ∧ (∃ vs, OwnRows w' base0 v vs (rowsTo zs n)) ∧ Below w.heap.size w w' := by
  have h16 := (fv_parts hv).2.1
  have h1 := (fv_parts hv).1
  have hsz : Maps.size D0 ≤ 1000 := by
    obtain ⟨es, clock, a1, a2, a3, a4, _⟩ := hown
    have : Maps.size D0 ≤ n := World.ownsMap.size_le (w := w) (P := Try.prog) (k := 3) (R := rowElem (H := Unit) w base 3 .i64) (b := b) ⟨es, clock, a1, a2, a3, a4⟩
    omega
  have C := Lib.hid (collectVals_any Bm b n base D0 w hBm hm hown hsz)
  go_enter Try.func117, Try.ntmps117
  go_wp2_with fail
  refine C.out.mono ?_
  rintro e w1 ⟨v, ps, rfl, ha, hrow, hb1⟩
  have hrow0 := hrow.2
  obtain ⟨xs, hl, hx, hok, hnd, hall⟩ := cands (row := (v.ownBlock).getD w.heap.size) hn ht ha hb1 (by
    cases hvb : v.ownBlock with
    | none => simp
    | some k => have := (hrow.lt k hvb).1; simpa using this)
  have hne : xs ≠ [] := fun e => by
    have := (hall (rootI zs 0 : Int)).2 (fun e => by have := cls_self (up := zs) (i := 0) (by omega); rw [e] at this; simp at this)
    rw [e] at this
    simp at this
  have hxl := List.length_pos_iff.2 hne
  have hvl : (vals ps).length = xs.length := by rw [vals_len, hl]
  rw [hvl] at hrow
  rw [← hx] at hrow
  obtain ⟨g, cap, rfl, hg⟩ : ∃ g cap, v = .slice (some ⟨g, 0, none⟩) xs.length cap ∧ w.heap.size ≤ g := by
    rcases hrow.2 with ⟨_, h0⟩ | ⟨g, cap, cur, hv', hg, _⟩
    · omega
    · exact ⟨g, cap, hv', hg⟩
  have hxn : xs.length ≤ 1048576 := by
    have hle : xs.length ≤ 1000 := by
      have hsub : (ps.map (·.1)).Nodup := ha.1
      have : (xs.map (·.1)).Nodup ∧ ∀ r ∈ xs.map (·.1), cls zs r zs.length ≠ [] := ⟨hnd, fun r hr => (hall r).1 hr⟩
      have hf : ((xs.map (·.1)).map (firstOf zs)).Nodup := by
        rw [List.nodup_iff_pairwise_ne, List.pairwise_map]
        refine (List.nodup_iff_pairwise_ne.1 hnd).imp_of_mem fun {a b} ha hb hne e => hne (first_inj (this.2 a ha) (this.2 b hb) e)
      have hlt : ∀ x ∈ (xs.map (·.1)).map (firstOf zs), x < zs.length := by
        intro x hx
        obtain ⟨r, hr, rfl⟩ := List.mem_map.1 hx
        exact (first_mem (this.2 r hr)).1
      have := nodup_len hf hlt
      simp at this
      omega
    omega
  have hrow2 : w1.ownsRow base0 23 1 (.slice (some ⟨g, 0, none⟩) xs.length cap) xs.length (xs.map candV) := by
    refine ⟨hrow.1, ?_⟩
    rcases hrow.2 with h0 | ⟨g', cap', cur, hv', hg', h⟩
    · exact .inl h0
    · exact .inr ⟨g', cap', cur, hv', by omega, h⟩
  have hok2 : ∀ x ∈ xs, CandOk w1 base0 g zs x := fun x hx => by
    have h := hok x hx
    exact ⟨h.1, h.2.1.less hb0, by have := h.2.2; simpa [Value.ownBlock] using this⟩
  have S := sortRows_any Try.sortRows base0 g cap zs h16 xs w1 (by omega) hrow2 hok2 hnd hall hne hxn
  change Calls Try.prog 172 _ _ _ at S
  have S := Lib.hid S
  have HB := Lib.hid hb1
  have HG := Lib.hid hg
  have HN := Lib.hid hn
  clear hrow hrow0 hrow2 hok hok2 hl hx hall hnd hne hvl ha C hb1 hg hn h16 h1 hsz
  go_wp2_with fail
  refine S.out.mono ?_
  rintro e w2 ⟨rfl, HR, hg2⟩
  have HR := Lib.hid HR
  have hb2 : Below w.heap.size w w2 := HB.out.grown hg2 HB.out.size (fun k hk => by injection hk with hk; subst hk; exact HG.out)
  go_wp2_with fail
  go_ret
  obtain ⟨vs, ho⟩ := HR.out
  rw [HN.out] at ho
  exact ⟨_, rfl, ⟨vs, ho⟩, hb2⟩

set_option maxRecDepth 100000 in
set_option maxHeartbeats 1000000 in
theorem implClasses_any (A : Option Addr) (n c B0 : Nat) (zs : List Int) (w : World) (h : Rd w B0 A n zs) (hB0 : B0 ≤ w.heap.size) (hb : n ≤ 1048576) :
    Calls Try.prog 35 #[.slice A n c] w fun e w' => ∃ v vs, e = .returned (.tuple #[v, .bool (fvB zs)]) ∧ OwnRows w' w.heap.size v vs (rowsN zs) ∧ Below w.heap.size w w' := by
  have R := Lib.hid (nodesOf_any A n c B0 zs w h hB0 hb)
  have hln := Lib.hid h.1
  have hq := fun (w : World) (a : Option Addr) (n c : Nat) => Lib.run_eql_slice_nil (P := Try.prog) w 135 188 a n c 0 0 Try.underlying135
  go_enter Try.func35, Try.ntmps35
  go_wp2_with fail
  refine R.out.mono ?_
  rintro e w1 ⟨hb1, ⟨hv, rfl⟩ | ⟨hv, rfl, hN, hlt⟩⟩
  · have HV := Lib.hid hv
    clear hv
    go_wp2_with fail
    go_ret2
    refine ⟨.slice none 0 0, [], ?_, ?_, hb1⟩
    · rw [HV.out]; rfl
    · rw [rowsN_no HV.out]; exact OwnRows.ofNil _ _
  · have C := Lib.hid (byRoot_any w.heap.size n zs w1 hN hlt hv hln.out)
    have HV := Lib.hid hv
    have hsz1 := hb1.size
    clear hv hN
    go_wp2_with fail
    refine C.out.mono ?_
    rintro e w2 ⟨rfl, ⟨D, hown, ht⟩, hb2⟩
    have hsz2 := hb2.size
    have hlt2 : w1.heap.size < w2.heap.size := by obtain ⟨es, clock, a1, _⟩ := hown; exact (Array.getElem?_eq_some_iff.1 a1).1
    have HO := Lib.hid hown
    have HT := Lib.hid ht
    clear hown ht
    go_wp2_with fail
    refine (values_any _ w2).mono ?_
    rintro e w3 ⟨rfl, hw3⟩
    have hm : w3.cell? ⟨w2.heap.size, 0, none⟩ = some (.map (some w1.heap.size)) := by rw [hw3]; exact (box_new w2 _ _).1
    have hb3 : Below w2.heap.size w2 w3 := by rw [hw3]; exact (Below.refl _ _).alloc (Nat.le_refl _) _
    have hs3 : w2.heap.size < w3.heap.size := by rw [hw3]; simp
    have hown3 : w3.ownsGroups Try.prog 3 (w1.heap.size + 1) 3 .i64 w1.heap.size n D := HO.out.kept (grown_none hb3) (by simp) (HO.out.rowsAbove (fun j hj => by cases hj))
    have SF := Lib.hid (sortedFunc_any w2.heap.size w1.heap.size n (w1.heap.size + 1) w.heap.size zs D w3 HV.out hln.out hs3 hm hown3 HT.out (by omega) (by omega))
    have HB := Lib.hid (hb1.trans ((hb2.mono hsz1).trans (hb3.mono (by omega))))
    clear hw3 hm hb3 hown3 hb2 hb1
    go_wp2_with fail
    refine SF.out.mono ?_
    rintro e w4 ⟨v, rfl, ⟨vs, ho⟩, hb4⟩
    have HO4 := Lib.hid ho
    have HB4 := Lib.hid hb4
    clear ho hb4
    go_wp2_with fail
    go_ret2
    refine ⟨v, vs, ?_, ?_, HB.out.trans (HB4.out.mono (by omega))⟩
    · rw [HV.out]; rfl
    · rw [rowsN_yes HV.out, hln.out]; exact HO4.out
end Go.Proofs.Ytfafgihfgdpclaa
