/- What the laws of joining many pairs draw. Conditions: the bytes lie below, their number is at most the capacity. -/
import Derived.Test.YtebgnaiibomjkaaDraw7
import Derived.Test.YtebgnaiibomjkaaPairs
import Derived.Test.YtebgnaiibomjkaaSpecAll
namespace Go.Proofs.Ytebgnaiibomjkaa
open Go.RowKit

theorem results_four {fn : Func} {t u v x : Tmp} (h : fn.results = #[.tmp t, .tmp u, .tmp v, .tmp x]) (tmps : Array Value) (P : Program) (w : World) :
    (results fn tmps).run P w = .ok (.tuple #[tmps.getD t undef, tmps.getD u undef, tmps.getD v undef, tmps.getD x undef]) w := by
  simp [results, h]

set_option maxRecDepth 100000 in
set_option maxHeartbeats 1000000 in
theorem l2Any_any (R p : Nat) (w : World) (h : Src w R p) (hp : p ≤ 90000) :
    Calls Try.prog 54 #[.pointer (some ⟨R, 0, none⟩)] w fun e w' => (∃ l : Int, e = .returned (.int .i64 l) ∧ -1 ≤ l ∧ l ≤ 3) ∧ Src w' R (p + 1) ∧ w.grownBy w' (some R) := by
  have hlt := h.lt
  have hlit : Own (w.alloc (.cells #[.int .i64 1, .int .i64 2, .int .i64 0, .int .i64 1, .int .i64 2, .int .i64 0, .int .i64 3, .int .i64 1, .int .i64 2, .int .i64 (-1)] 3)) w.heap.size (.slice (some ⟨w.heap.size, 0, none⟩) 10 10) [1, 2, 0, 1, 2, 0, 3, 1, 2, -1] := Own.lit w _ [1, 2, 0, 1, 2, 0, 3, 1, 2, -1] (Nat.le_refl _) (by simp)
  have hb := (Below.refl w.heap.size w).alloc (Nat.le_refl _) (.cells #[.int .i64 1, .int .i64 2, .int .i64 0, .int .i64 1, .int .i64 2, .int .i64 0, .int .i64 3, .int .i64 1, .int .i64 2, .int .i64 (-1)] 3)
  have NU := Lib.hid (num_any R p w.heap.size _ _ _ (h.below hb hlt) (by omega) hlit hlt (by simp) (by simp))
  have HB := Lib.hid hb
  clear hlit hb
  go_enter Try.func54, Try.ntmps54
  go_wp2_with fail
  refine NU.out.mono ?_
  rintro e w1 ⟨⟨k, hk, rfl⟩, hs1, hg1⟩
  have hm := nums_mem (p := fun z => -1 ≤ z ∧ z ≤ 3) (zs := [1, 2, 0, 1, 2, 0, 3, 1, 2, -1]) (by
    intro z hz
    simp only [List.mem_cons, List.not_mem_nil, or_false] at hz
    omega) hk
  have hgf := Lib.hid (grown_trans2 (grown_of_below R HB.out) hg1)
  clear hg1 hk
  go_wp2
  go_ret
  exact ⟨⟨_, rfl, hm.1, hm.2⟩, hs1, hgf.out⟩

set_option maxRecDepth 100000 in
set_option maxHeartbeats 1000000 in
theorem l1PairS_any (R p : Nat) (w : World) (h : Src w R p) (hp : p ≤ 70000) :
    Calls Try.prog 53 #[.pointer (some ⟨R, 0, none⟩)] w fun e w' => ∃ v zs a b, e = .returned (.tuple #[v, .int .i64 a, .int .i64 b]) ∧ Own w' w.heap.size v zs ∧ zs.length ≤ 17 ∧ (-1 ≤ a ∧ a ≤ 16) ∧ (-1 ≤ b ∧ b ≤ 16) ∧ (∃ p', p' ≤ p + 200 ∧ Src w' R p') ∧ w.grownBy w' (some R) := by
  have hlt := h.lt
  have G := Lib.hid (l1Some_any R p w h hp)
  go_enter Try.func53, Try.ntmps53
  go_wp2_with fail
  refine G.out.mono ?_
  rintro e w1 ⟨v, zs, rfl, ho1, hl1, ⟨p1, hp1, hs1⟩, hg1⟩
  obtain ⟨A, c, rfl, _⟩ := ho1.form
  have P1 := Lib.hid (l1Pick_any R p1 zs.length c A w1 hs1 (by omega) hl1)
  go_wp2_with fail
  refine P1.out.mono ?_
  rintro e w2 ⟨⟨a, rfl, ha1, ha2⟩, ⟨p2, hp2, hs2⟩, hg2⟩
  have ho2 := ho1.row hg2 hlt
  have hg2w := grown_trans2 hg1 hg2
  have P2 := Lib.hid (l1Pick_any R p2 zs.length c A w2 hs2 (by omega) hl1)
  clear ho1 hs1 hg1 hg2
  go_wp2_with fail
  refine P2.out.mono ?_
  rintro e w3 ⟨⟨b, rfl, hb1, hb2⟩, ⟨p3, hp3, hs3⟩, hg3⟩
  have ho3 := ho2.row hg3 hlt
  have hg3w := grown_trans2 hg2w hg3
  clear ho2 hs2 hg2w hg3
  have HS3 := Lib.hid hs3
  clear hs3
  go_wp2_with fail
  go_ret3
  exact ⟨_, zs, a, b, rfl, ho3, hl1, ⟨ha1, ha2⟩, ⟨hb1, hb2⟩, ⟨p3, by omega, HS3.out⟩, hg3w⟩

set_option maxRecDepth 100000 in
set_option maxHeartbeats 1000000 in
theorem drawJoin_any (A : Option Addr) (n c B : Nat) (bs : List Int) (w : World) (h : Bt w B A n bs) (hB : B ≤ w.heap.size) (hc : n ≤ c) :
    Calls Try.prog 14 #[.slice A n c] w fun e w' => ∃ v zs r a b, e = .returned (.tuple #[v, .int .i64 r, .int .i64 a, .int .i64 b]) ∧ Own w' w.heap.size v zs ∧ zs.length ≤ 17 ∧ (-1 ≤ r ∧ r ≤ 3) ∧ (-1 ≤ a ∧ a ≤ 16) ∧ (-1 ≤ b ∧ b ≤ 16) ∧ Below w.heap.size w w' := by
  have O := Lib.hid (open_any A n c B bs w h hB hc)
  clear h
  go_enter Try.func14, Try.ntmps14
  go_wp2_with fail
  refine O.out.mono ?_
  rintro e w1 ⟨rfl, hs1, hb1⟩
  have P := Lib.hid (l1PairS_any w.heap.size 0 w1 hs1 (by omega))
  have hsz := hb1.size
  have hlt := hs1.lt
  go_wp2_with fail
  refine P.out.mono ?_
  rintro e w2 ⟨v, zs, a, b, rfl, ho, hl, ha, hb, ⟨p2, hp2, hs2⟩, hg⟩
  have L := Lib.hid (l2Any_any w.heap.size p2 w2 hs2 (by omega))
  clear hs1 hs2
  go_wp2_with fail
  refine L.out.mono ?_
  rintro e w3 ⟨⟨r, rfl, hr1, hr2⟩, hs3, hg3⟩
  have ho3 := Lib.hid (ho.row hg3 hlt)
  have hb2 := Lib.hid (below_of_grown hb1 (grown_trans2 hg hg3))
  clear hb1 hg hg3 hs3 ho
  go_wp2_with fail
  refine bodyPost_ret (results_four rfl _ _ _) rfl ?_
  exact ⟨_, zs, r, a, b, rfl, ho3.out.less hsz, hl, ⟨hr1, hr2⟩, ha, hb, hb2.out⟩
end Go.Proofs.Ytebgnaiibomjkaa

namespace Go.Proofs.Ytebgnaiibomjkaa
open Go.RowKit

/-- 's = append(s, p)' of one pair, as one step of a region that draws its order. -/
theorem step_pushQ {ops : Array Oper} {o : Oper} {a : Act} {K : Act → World → Prop} {Q : Exit → Act → World → Prop} {E : Prop} (hgd : o.guard = none) (s x : Operand)
    (ho : o.op = .call { callee := .builtin .append, args := #[s, x], argTypes := #[37, 37] }) (w W : World) (base : Nat) (v : Value) (ps : List (Int × Int)) (x1 x2 : Int) (hW : W = w.alloc (.cells #[.int .i64 x1, .int .i64 x2] 42))
    (hs : a.eval s = v) (hx : a.eval x = .slice (some ⟨w.heap.size, 0, none⟩) 1 1) (hown : OwnQ 42 w base v ps) (hlen : ps.length ≤ 1048576) (hbase : base ≤ w.heap.size)
    (h : ∀ v' w', OwnQ 42 w' base v' (ps ++ [(x1, x2)]) → w.grownBy w' v.ownBlock → (v'.ownBlock = v.ownBlock ∨ ∃ g, v'.ownBlock = some g ∧ w.heap.size ≤ g) → K (a.put o.dst v') w') :
    if Region.wanted o (yielded ops a.tmps) = true then Oper.wp Try.prog o a W K Q else E := by
  obtain ⟨i0, hi, hz0, hz1, hz2⟩ := info_parts Try.info_pair
  have hwd : Region.wanted o (yielded ops a.tmps) = true := by simp [Region.wanted, hgd]
  rw [if_pos hwd, hW]
  have hnew : ∀ j u, [Value.int .i64 x1, Value.int .i64 x2][j]? = some u → (w.alloc (.cells #[.int .i64 x1, .int .i64 x2] 42)).cell? ((⟨w.heap.size, 0, none⟩ : Addr).add j) = some u := by
    intro j u hu
    rw [add_zero_at, Nat.zero_add]
    have h0 := heap_alloc_new w (.cells #[.int .i64 x1, .int .i64 x2] 42)
    unfold World.cell?
    rw [h0]
    rcases (show j = 0 ∨ j = 1 ∨ 2 ≤ j by omega) with rfl | rfl | hj
    · simpa using hu
    · simpa using hu
    · rw [List.getElem?_eq_none (by simpa using hj)] at hu; cases hu
  obtain ⟨v', w', hrun, h2, h3, _, h5⟩ := run_append_own_at (P := Try.prog) (w.alloc (.cells #[.int .i64 x1, .int .i64 x2] 42)) base 37 o.type 42 i0 (.agg #[.int .i64 0, .int .i64 0]) 2 16 Try.underlying37 hi hz0 hz1 hz2 rfl (by decide) v ps.length (qcells ps) (World.ownsRow.alloc hown _) ⟨w.heap.size, 0, none⟩ 1 1 [.int .i64 x1, .int .i64 x2] rfl hnew (by simp [Value.oneCell']) (by unfold maxLen; omega) (by omega) (by simp; omega)
  unfold Oper.wp
  simp [execOp, ho, resolve, invoke, builtin, hs, hx, hrun, Result.andThen]
  refine h v' w' (by unfold OwnQ; rw [qcells_append]; simpa [qcells_cons, qcells_nil] using h2) (grown_then (World.grownBy_alloc w _ none) h3) ?_
  rcases h5 with h5 | h5
  · exact .inl h5
  · exact .inr ⟨_, h5, by simp⟩
/-- A slice of pairs of the call's own: nil, or at the head of a block. -/
theorem OwnQ.cases {t : TypeId} {w : World} {base n c : Nat} {A : Option Addr} {ps : List (Int × Int)} (h : OwnQ t w base (.slice A n c) ps) : (A = none ∧ n = 0 ∧ c = 0) ∨ ∃ g, A = some ⟨g, 0, none⟩ ∧ n ≤ c ∧ c ≤ maxLen := by
  rcases h.2 with ⟨hv, hx⟩ | ⟨g, cap, cur, hv, _, _, hnc, hcm, _⟩
  · injection hv with e1 e2 e3
    exact .inl ⟨e1, e2, e3⟩
  · injection hv with e1 e2 e3
    exact .inr ⟨g, e1, by omega, by omega⟩
theorem cell_grown {w w' : World} {row : Option Nat} {p : Addr} {v : Value} (hg : w.grownBy w' row) (h : w.cell? p = some v) (hne : ∀ r, row = some r → p.block ≠ r) : w'.cell? p = some v :=
  (World.cell?_of_block (hg.block p.block (World.block_lt_of_cell? w _ h) (fun e => hne _ e.symm rfl))).trans h
theorem cells2_drew {w : World} {p q : Addr} {v u : Value} (h : w.cell? p = some v ∧ w.cell? q = some u) : w.drew.cell? p = some v ∧ w.drew.cell? q = some u := h
theorem cells2_alloc {w : World} {p q : Addr} {v u : Value} {o : Obj} (h : w.cell? p = some v ∧ w.cell? q = some u) : (w.alloc o).cell? p = some v ∧ (w.alloc o).cell? q = some u :=
  ⟨(World.cell?_of_block (Below.heap_alloc w o _ (World.block_lt_of_cell? w _ h.1))).trans h.1, (World.cell?_of_block (Below.heap_alloc w o _ (World.block_lt_of_cell? w _ h.2))).trans h.2⟩
theorem OwnQ.empty (t : TypeId) (w : World) (base : Nat) (hb : base ≤ w.heap.size) : OwnQ t (w.alloc (.cells #[] t)) base (.slice (some ⟨w.heap.size, 0, none⟩) 0 0) [] := by
  have h := World.ownsRow_lit (base := base) (e := t) (size := 2) w #[] 0 hb (by unfold maxLen; omega) (by simp)
  simpa [OwnQ, qcells] using h

set_option maxRecDepth 100000 in
set_option maxHeartbeats 8000000 in
theorem l2Some_any (R p n : Nat) (w : World) (h : Src w R p) (hp : p ≤ 70000) (hn : n ≤ 17) :
    Calls Try.prog 73 #[.pointer (some ⟨R, 0, none⟩), .int .i64 (n : Int)] w fun e w' => ∃ v ps, e = .returned v ∧ OwnQ 42 w' w.heap.size v ps ∧ ps.length ≤ 25 ∧ (∃ p', p' ≤ p + 60 ∧ Src w' R p') ∧ w.grownBy w' (some R) := by
  have hlt := h.lt
  obtain ⟨i0, hi0, hz0, hz1, hz2⟩ := info_parts Try.info_pair
  have hE := OwnQ.empty 42 w w.heap.size (Nat.le_refl _)
  have hb2 := (Below.refl w.heap.size w).alloc (Nat.le_refl _) (.cells #[] 42)
  have hlit : Own ((w.alloc (.cells #[] 42)).alloc (.cells #[.int .i64 4, .int .i64 6, .int .i64 2, .int .i64 9, .int .i64 0, .int .i64 12, .int .i64 1, .int .i64 24] 3)) (w.heap.size + 1) (.slice (some ⟨w.heap.size + 1, 0, none⟩) 8 8) [4, 6, 2, 9, 0, 12, 1, 24] := by
    have := Own.lit (w.alloc (.cells #[] 42)) (w.heap.size + 1) [4, 6, 2, 9, 0, 12, 1, 24] (by simp) (by simp)
    simpa using this
  have hb3 := hb2.alloc hb2.size (.cells #[.int .i64 4, .int .i64 6, .int .i64 2, .int .i64 9, .int .i64 0, .int .i64 12, .int .i64 1, .int .i64 24] 3)
  have NU := Lib.hid (num_any R p (w.heap.size + 1) _ _ _ (h.below hb3 hlt) (by omega) hlit (by omega) (by simp) (by simp))
  have HE : Hid (OwnQ 42 ((w.alloc (.cells #[] 42)).alloc (.cells #[.int .i64 4, .int .i64 6, .int .i64 2, .int .i64 9, .int .i64 0, .int .i64 12, .int .i64 1, .int .i64 24] 3)) w.heap.size (.slice (some ⟨w.heap.size, 0, none⟩) 0 0) []) := hE.keep ((Below.refl _ _).alloc (Nat.le_refl _) _) (Nat.le_refl _)
  have HG3 := Lib.hid (grown_of_below R hb3)
  clear hE hb2 hlit hb3
  go_enter Try.func73, Try.ntmps73
  go_wp2_with fail
  refine NU.out.mono ?_
  rintro e w3 ⟨⟨k, hk, rfl⟩, hs3, hg3⟩
  have hm3 := nums_mem (p := fun z => 0 ≤ z ∧ z ≤ 24) (zs := [4, 6, 2, 9, 0, 12, 1, 24]) (by
    intro z hz
    simp only [List.mem_cons, List.not_mem_nil, or_false] at hz
    omega) hk
  revert hm3
  generalize ([4, 6, 2, 9, 0, 12, 1, 24] : List Int)[k]?.getD 0 = q0
  intro hm3
  obtain ⟨q, rfl⟩ := Int.eq_ofNat_of_zero_le hm3.1
  have hq24 : q ≤ 24 := by omega
  have H0 : Hid ((∃ ps : List (Int × Int), ps.length = 0 ∧ OwnQ 42 w3 w.heap.size (.slice (some ⟨w.heap.size, 0, none⟩) 0 0) ps) ∧ Src w3 R (p + 1 + 2 * 0) ∧ w.grownBy w3 (some R)) := ⟨⟨[], rfl, HE.out.row hg3 hlt⟩, hs3, grown_trans2 HG3.out hg3⟩
  clear hk hm3 hs3 hg3 HE HG3 NU h
  go_wp2_with fail
  go_loopw [5, 11] (fun v t wr => ∃ k : Nat, k ≤ q ∧ t = .int .i64 (k : Int) ∧ (∃ A c, v = .slice A k c) ∧ Hid ((∃ ps : List (Int × Int), ps.length = k ∧ OwnQ 42 wr w.heap.size v ps) ∧ Src wr R (p + 1 + 2 * k) ∧ w.grownBy wr (some R))) (fun _ t _ => q - (intOf t).toNat)
  case atStart => exact ⟨0, Nat.zero_le _, rfl, ⟨_, _, rfl⟩, H0.out⟩
  case round =>
    obtain ⟨k, hk, rfl, ⟨A5, c5, rfl⟩, HR⟩ := hrel
    clear H0
    by_cases hlt2 : k < q
    · have PK := Lib.hid (fun (M : Int) => pick_any R (p + 1 + 2 * k) M wr HR.out.2.1 (by omega))
      rcases (show ((n : Int) < 1 ∧ (n : Int) - 1 < 1) ∨ ((1 : Int) ≤ n ∧ (n : Int) - 1 < 1) ∨ ((1 : Int) ≤ n ∧ 1 ≤ (n : Int) - 1) by omega) with ⟨m1, m2⟩ | ⟨m1, m2⟩ | ⟨m1, m2⟩
      all_goals
        go_wp2_with fail
        refine (PK.out _).mono ?_
        rintro e w4 ⟨⟨y, rfl, hy⟩, hs4, hg4⟩
        have hy := hy (by omega)
        obtain ⟨⟨ps, hpl, hoq⟩, _, hgw⟩ := HR.out
        have hoq := hoq.row hg4 hlt
        have hgw4 := grown_trans2 hgw hg4
        have HF4 := Lib.hid (And.intro hpl (And.intro hoq hgw4))
        have PK2 := Lib.hid (fun (M : Int) => pick_any R (p + 1 + 2 * k + 1) M w4 hs4 (by omega))
        clear hpl hoq hgw hgw4 hg4 hs4
        go_wp2_with fail
        refine (PK2.out _).mono ?_
        rintro e w5 ⟨⟨z, rfl, hz⟩, hs5, hg5⟩
        have hz := hz (by omega)
        obtain ⟨hpl, hoq, hgw⟩ := HF4.out
        have hoq := hoq.row hg5 hlt
        have hgw5 := grown_trans2 hgw hg5
        have hoib := hoq.blockOf
        have hsz5 : w.heap.size ≤ w5.heap.size := hgw5.size
        have hisl : ps.length ≤ 1048576 := by omega
        have HF := Lib.hid (And.intro hpl (And.intro hs5 hgw5))
        clear hpl hs5 hgw5 hgw hg5 HF4 PK2 PK HR
        go_wp2_with (at_builtin; go_must (refine wpList_pushQ rfl (.tmp 17) (.tmp 31) rfl w5 w.heap.size _ ps _ _ rfl rfl hoq hisl hsz5 ?_); intro v' w6 ho6 hg6 _; obtain ⟨A6, c6, rfl, _⟩ := ho6.form)
        have hb6 : Below w.heap.size w5 w6 := below_row hg6 hsz5 (fun r e => (hoib r e).1)
        obtain ⟨hpl, hs5, hgw5⟩ := HF.out
        have hl7 : ps.length + 1 = k + 1 := by omega
        rw [List.length_append, List.length_singleton, hpl] at ho6
        have HR6 : Hid ((∃ ps : List (Int × Int), ps.length = k + 1 ∧ OwnQ 42 w6 w.heap.size (.slice A6 (k + 1) c6) ps) ∧ Src w6 R (p + 1 + 2 * (k + 1)) ∧ w.grownBy w6 (some R)) := ⟨⟨_, by rw [List.length_append, List.length_singleton, hpl], ho6⟩, hs5.below hb6 hlt, grown_below hgw5 hb6⟩
        clear hpl hs5 hgw5 ho6 hg6 hb6 hoib HF hoq
        rw [hl7]
        go_wp2
        go_roundw
        case rel => exact ⟨k + 1, by omega, by go_num, ⟨_, _, rfl⟩, HR6.out⟩
        case measure => simp [intOf]; omega
    · obtain rfl : k = q := by omega
      have P30 := Lib.hid (pick_any R (p + 1 + 2 * k) 30 wr HR.out.2.1 (by omega))
      go_wp2_with fail
      refine P30.out.mono ?_
      rintro e w4 ⟨⟨x, rfl, _⟩, hs4, hg4⟩
      obtain ⟨⟨ps, hpl, hoq⟩, _, hgw⟩ := HR.out
      have hoq := hoq.row hg4 hlt
      have hgw4 := grown_trans2 hgw hg4
      have hsz4 : w.heap.size ≤ w4.heap.size := hgw4.size
      clear hgw hg4 HR P30
      by_cases hx0 : x = 0
      · subst hx0
        have hlit := Own.lit w4 w.heap.size [-1, 16, 0] hsz4 (by simp)
        have hlitb := (Below.refl w4.heap.size w4).alloc (Nat.le_refl _) (.cells #[.int .i64 (-1), .int .i64 16, .int .i64 0] 3)
        have NU := Lib.hid (num_any R (p + 1 + 2 * k + 1) w.heap.size _ _ _ (hs4.below hlitb (by omega)) (by omega) hlit hlt (by simp) (by simp))
        have HQ4 := Lib.hid (hoq.keep hlitb (Nat.le_refl _))
        have HG4 := Lib.hid (grown_below hgw4 (hlitb.mono hsz4))
        clear hlit hlitb hoq hgw4 hs4
        go_wp2_with fail
        refine NU.out.mono ?_
        rintro e w5 ⟨⟨j, hj, rfl⟩, hs5, hg5⟩
        have hoq := HQ4.out.row hg5 hlt
        have hgw5 := grown_trans2 HG4.out hg5
        have hsz5 : w.heap.size ≤ w5.heap.size := hgw5.size
        have hoib := hoq.blockOf
        have hisl : ps.length ≤ 1048576 := by omega
        generalize ([-1, 16, 0] : List Int)[j]?.getD 0 = y
        have HF := Lib.hid (And.intro hs5 hgw5)
        clear hs5 hgw5 hg5 HQ4 HG4 hj NU
        go_wp2_with (at_builtin; go_must (refine wpList_pushQ rfl (.tmp 38) (.tmp 44) rfl w5 w.heap.size _ ps _ _ rfl rfl hoq hisl hsz5 ?_); intro v' w6 ho6 hg6 _)
        have hb6 : Below w.heap.size w5 w6 := below_row hg6 hsz5 (fun r e => (hoib r e).1)
        have H6 := Lib.hid (And.intro ho6 (And.intro (HF.out.1.below hb6 hlt) (grown_below HF.out.2 hb6)))
        clear ho6 hg6 hb6 hoq HF
        go_wp2
        go_ret
        exact ⟨_, _, rfl, H6.out.1, by rw [List.length_append, List.length_singleton]; omega, ⟨_, by omega, H6.out.2.1⟩, H6.out.2.2⟩
      · by_cases hx1 : x = 1
        · subst hx1
          have hlit := Own.lit w4 w.heap.size [24, 25] hsz4 (by simp)
          have hlitb := (Below.refl w4.heap.size w4).alloc (Nat.le_refl _) (.cells #[.int .i64 24, .int .i64 25] 3)
          have NU := Lib.hid (num_any R (p + 1 + 2 * k + 1) w.heap.size _ _ _ (hs4.below hlitb (by omega)) (by omega) hlit hlt (by simp) (by simp))
          have HG4 := Lib.hid (grown_below hgw4 (hlitb.mono hsz4))
          clear hlit hlitb hoq hgw4 hs4
          go_wp2_with fail
          refine NU.out.mono ?_
          rintro e w5 ⟨⟨j, hj, rfl⟩, hs5, hg5⟩
          have hgw5 := grown_trans2 HG4.out hg5
          have hsz5 : w.heap.size ≤ w5.heap.size := hgw5.size
          have hm5 := nums_mem (p := fun z => 24 ≤ z ∧ z ≤ 25) (zs := [24, 25]) (by
            intro z hz
            simp only [List.mem_cons, List.not_mem_nil, or_false] at hz
            omega) hj
          revert hm5
          generalize ([24, 25] : List Int)[j]?.getD 0 = y
          intro hm5
          obtain ⟨y, rfl⟩ := Int.eq_ofNat_of_zero_le (show 0 ≤ y by omega)
          have hy25 : y ≤ 25 := by omega
          have HF := Lib.hid (And.intro hs5 hgw5)
          clear hs5 hgw5 hg5 HG4 hj NU hm5
          go_wp2_with (at_make; go_must (refine wpList_make_full _ rfl _ _ 37 rfl w5.heap.size 42 i0 (.agg #[.int .i64 0, .int .i64 0]) 2 Try.underlying37 hi0 hz0 hz1 .i64 .i64 _ _ y rfl rfl rfl rfl (by rw [hz2]; omega) (by unfold maxLen; omega) (Nat.le_refl _) ?_); intro w6 hown hgrow)
          have hb6 : Below w5.heap.size w5 w6 := (Below.refl _ w5).grown hgrow (Nat.le_refl _) (fun k e => by cases e)
          have ho6 : OwnQ 42 w6 w5.heap.size (.slice (some ⟨w5.heap.size, 0, none⟩) y y) (List.replicate y (0, 0)) := OwnQ.made hown
          have H6 := Lib.hid (And.intro (ho6.less hsz5) (And.intro (HF.out.1.below (hb6.mono hsz5) hlt) (grown_below HF.out.2 (hb6.mono hsz5))))
          clear ho6 hb6 hown hgrow HF
          go_wp2
          go_ret
          exact ⟨_, _, rfl, H6.out.1, by rw [List.length_replicate]; omega, ⟨_, by omega, H6.out.2.1⟩, H6.out.2.2⟩
        · by_cases hx2 : x = 2
          · subst hx2
            have hoib := hoq.blockOf
            have hisl : ps.length ≤ 1048576 := by omega
            have HF := Lib.hid (And.intro hs4 hgw4)
            clear hs4 hgw4
            go_wp2_with (at_builtin; go_must (refine wpList_pushQ rfl (.tmp 54) (.tmp 56) rfl w4 w.heap.size _ ps _ _ rfl rfl hoq hisl hsz4 ?_); intro v' w6 ho6 hg6 _)
            have hb6 : Below w.heap.size w4 w6 := below_row hg6 hsz4 (fun r e => (hoib r e).1)
            have H6 := Lib.hid (And.intro ho6 (And.intro (HF.out.1.below hb6 hlt) (grown_below HF.out.2 hb6)))
            clear ho6 hg6 hb6 hoq HF
            go_wp2
            go_ret
            exact ⟨_, _, rfl, H6.out.1, by rw [List.length_append, List.length_singleton]; omega, ⟨_, by omega, H6.out.2.1⟩, H6.out.2.2⟩
          · have b0 : ((x : Int) == 0) = false := by simp; omega
            have b1 : ((x : Int) == 1) = false := by simp; omega
            have b2 : ((x : Int) == 2) = false := by simp; omega
            have H6 := Lib.hid (And.intro hoq (And.intro hs4 hgw4))
            clear hoq hs4 hgw4 hx0 hx1 hx2
            go_wp2
            go_ret
            exact ⟨_, _, rfl, H6.out.1, by omega, ⟨_, by omega, H6.out.2.1⟩, H6.out.2.2⟩

set_option maxRecDepth 100000 in
set_option maxHeartbeats 1000000 in
theorem l2Items_any (R p : Nat) (w : World) (h : Src w R p) (hp : p ≤ 90000) :
    Calls Try.prog 81 #[.pointer (some ⟨R, 0, none⟩)] w fun e w' => (∃ n : Nat, e = .returned (.int .i64 (n : Int)) ∧ n ≤ 17) ∧ Src w' R (p + 1) ∧ w.grownBy w' (some R) := by
  have hlt := h.lt
  have hlit : Own (w.alloc (.cells #[.int .i64 6, .int .i64 8, .int .i64 5, .int .i64 16, .int .i64 3, .int .i64 1, .int .i64 10, .int .i64 2, .int .i64 0, .int .i64 17] 3)) w.heap.size (.slice (some ⟨w.heap.size, 0, none⟩) 10 10) [6, 8, 5, 16, 3, 1, 10, 2, 0, 17] := Own.lit w _ [6, 8, 5, 16, 3, 1, 10, 2, 0, 17] (Nat.le_refl _) (by simp)
  have hb := (Below.refl w.heap.size w).alloc (Nat.le_refl _) (.cells #[.int .i64 6, .int .i64 8, .int .i64 5, .int .i64 16, .int .i64 3, .int .i64 1, .int .i64 10, .int .i64 2, .int .i64 0, .int .i64 17] 3)
  have NU := Lib.hid (num_any R p w.heap.size _ _ _ (h.below hb hlt) (by omega) hlit hlt (by simp) (by simp))
  have HB := Lib.hid hb
  clear hlit hb
  go_enter Try.func81, Try.ntmps81
  go_wp2_with fail
  refine NU.out.mono ?_
  rintro e w1 ⟨⟨k, hk, rfl⟩, hs1, hg1⟩
  have hm := nums_mem (p := fun z => 0 ≤ z ∧ z ≤ 17) (zs := [6, 8, 5, 16, 3, 1, 10, 2, 0, 17]) (by
    intro z hz
    simp only [List.mem_cons, List.not_mem_nil, or_false] at hz
    omega) hk
  revert hm
  generalize ([6, 8, 5, 16, 3, 1, 10, 2, 0, 17] : List Int)[k]?.getD 0 = y
  intro hm
  obtain ⟨y, rfl⟩ := Int.eq_ofNat_of_zero_le (show 0 ≤ y by omega)
  have hgf := Lib.hid (grown_trans2 (grown_of_below R HB.out) hg1)
  clear hg1 hk
  go_wp2
  go_ret
  exact ⟨⟨_, rfl, by omega⟩, hs1, hgf.out⟩

set_option maxRecDepth 100000 in
set_option maxHeartbeats 2000000 in
theorem drawUseful_any (A : Option Addr) (n c B : Nat) (bs : List Int) (w : World) (h : Bt w B A n bs) (hB : B ≤ w.heap.size) (hc : n ≤ c) :
    Calls Try.prog 28 #[.slice A n c] w fun e w' => ∃ (m : Nat) (v : Value) (ps : List (Int × Int)), e = .returned (.tuple #[.int .i64 (m : Int), v]) ∧ m ≤ 17 ∧ OwnQ 42 w' w.heap.size v ps ∧ ps.length ≤ 25 ∧ Below w.heap.size w w' := by
  have O := Lib.hid (open_any A n c B bs w h hB hc)
  clear h
  go_enter Try.func28, Try.ntmps28
  go_wp2_with fail
  refine O.out.mono ?_
  rintro e w1 ⟨rfl, hs1, hb1⟩
  have D := Lib.hid (l2Items_any w.heap.size 0 w1 hs1 (by omega))
  have hsz := hb1.size
  clear hs1
  go_wp2_with fail
  refine D.out.mono ?_
  rintro e w2 ⟨⟨m, rfl, hm⟩, hs2, hg2⟩
  have L := Lib.hid (l2Some_any w.heap.size (0 + 1) m w2 hs2 (by omega) hm)
  have hsz2 := hg2.size
  clear hs2
  go_wp2_with fail
  refine L.out.mono ?_
  rintro e w3 ⟨v, ps, rfl, ho, hl, _, hg3⟩
  have HO := Lib.hid (ho.less (Nat.le_trans hsz hsz2))
  have HB := Lib.hid (below_of_grown hb1 (grown_trans2 hg2 hg3))
  clear ho hg2 hg3 hb1
  go_wp2
  go_ret2
  exact ⟨m, _, ps, rfl, hm, HO.out, hl, HB.out⟩

set_option maxRecDepth 100000 in
set_option maxHeartbeats 4000000 in
theorem drawJoinAll_any (A : Option Addr) (n c B : Nat) (bs : List Int) (w : World) (h : Bt w B A n bs) (hB : B ≤ w.heap.size) (hc : n ≤ c) :
    Calls Try.prog 24 #[.slice A n c] w fun e w' => ∃ v zs r v2 ps, e = .returned (.tuple #[v, .int .i64 r, v2]) ∧ Own w' w.heap.size v zs ∧ zs.length ≤ 17 ∧ (-1 ≤ r ∧ r ≤ 3) ∧ OwnQ 42 w' w.heap.size v2 ps ∧ ps.length ≤ 25 ∧ Below w.heap.size w w' := by
  have O := Lib.hid (open_any A n c B bs w h hB hc)
  clear h
  go_enter Try.func24, Try.ntmps24
  go_wp2_with fail
  refine O.out.mono ?_
  rintro e w1 ⟨rfl, hs1, hb1⟩
  have D := Lib.hid (l1Some_any w.heap.size 0 w1 hs1 (by omega))
  have hlt := hs1.lt
  have hsz := hb1.size
  clear hs1
  go_wp2_with fail
  refine D.out.mono ?_
  rintro e w2 ⟨v, zs, rfl, ho, hl, ⟨p2, hp2, hs2⟩, hg2⟩
  have P2 := Lib.hid (pick_any w.heap.size p2 2 w2 hs2 (by omega))
  obtain ⟨A2, c2, rfl, _⟩ := ho.form
  obtain ⟨m, hm⟩ : ∃ m, m = zs.length := ⟨_, rfl⟩
  have HO2 : Hid (∃ zs, zs.length = m ∧ Own w2 w1.heap.size (.slice A2 m c2) zs) := ⟨zs, hm.symm, by rw [hm]; exact ho⟩
  rw [← hm] at hl ⊢
  clear ho hm hs2
  go_wp2_with fail
  refine P2.out.mono ?_
  rintro e w3 ⟨⟨x, rfl, _⟩, hs3, hg3⟩
  have HO3 : Hid (∃ zs, zs.length = m ∧ Own w3 w1.heap.size (.slice A2 m c2) zs) := by
    obtain ⟨zs, hz, ho⟩ := HO2.out
    exact ⟨zs, hz, ho.row hg3 hlt⟩
  have hg3w := grown_trans2 hg2 hg3
  have hs13 : w1.heap.size ≤ w3.heap.size := hg3w.size
  clear HO2 hg2 hg3 P2
  by_cases hx0 : x = 0
  · subst hx0
    have hlit := Own.lit w3 w1.heap.size [6, 8, 16, 5, 3] hs13 (by simp)
    have hlitb := (Below.refl w3.heap.size w3).alloc (Nat.le_refl _) (.cells #[.int .i64 6, .int .i64 8, .int .i64 16, .int .i64 5, .int .i64 3] 3)
    have NU := Lib.hid (num_any w.heap.size (p2 + 1) w1.heap.size _ _ _ (hs3.below hlitb (by omega)) (by omega) hlit hlt (by simp) (by simp))
    have HG4 := Lib.hid (grown_below hg3w (hlitb.mono hs13))
    clear hlit hlitb hg3w hs3 HO3
    go_wp2_with fail
    refine NU.out.mono ?_
    rintro e w4 ⟨⟨j, hj, rfl⟩, hs4, hg4⟩
    have hm4 := nums_mem (p := fun z => 1 ≤ z ∧ z ≤ 16) (zs := [6, 8, 16, 5, 3]) (by
      intro z hz
      simp only [List.mem_cons, List.not_mem_nil, or_false] at hz
      omega) hj
    revert hm4
    generalize ([6, 8, 16, 5, 3] : List Int)[j]?.getD 0 = y
    intro hm4
    obtain ⟨y, rfl⟩ := Int.eq_ofNat_of_zero_le (show 0 ≤ y by omega)
    have hg4w := grown_trans2 HG4.out hg4
    have AL := Lib.hid (alone_any y (by omega) (by omega) w4)
    have hs14 : w1.heap.size ≤ w4.heap.size := hg4w.size
    clear hj NU HG4 hg4
    go_wp2_with fail
    refine AL.out.mono ?_
    rintro e w5 ⟨v5, rfl, ho5, hb5⟩
    obtain ⟨A5, c5, rfl, _⟩ := ho5.form
    rw [roots_len] at ho5 ⊢
    have hs5 := hs4.below hb5 (by omega)
    have LA := Lib.hid (l2Any_any w.heap.size (p2 + 1 + 1) w5 hs5 (by omega))
    have HO5 := Lib.hid (ho5.less hs14)
    have hg5w := grown_below hg4w (hb5.mono hs14)
    clear ho5 hb5 hs4 hs5 hg4w AL
    go_wp2_with fail
    refine LA.out.mono ?_
    rintro e w6 ⟨⟨r, rfl, hr1, hr2⟩, hs6, hg6⟩
    have L := Lib.hid (l2Some_any w.heap.size (p2 + 1 + 1 + 1) y w6 hs6 (by omega) (by omega))
    have HO6 := Lib.hid (HO5.out.row hg6 hlt)
    have hg6w := grown_trans2 hg5w hg6
    have hs16 : w1.heap.size ≤ w6.heap.size := hg6w.size
    clear hs6 hg6 hg5w HO5 LA
    go_wp2_with fail
    refine L.out.mono ?_
    rintro e w7 ⟨v7, ps, rfl, ho7, hl7, _, hg7⟩
    have H7 := Lib.hid (And.intro ((HO6.out.row hg7 hlt).less hsz) (And.intro (ho7.less (Nat.le_trans hsz hs16)) (below_of_grown hb1 (grown_trans2 hg6w hg7))))
    clear ho7 hg7 hg6w hb1
    go_wp2
    go_ret3
    exact ⟨_, _, r, _, ps, rfl, H7.out.1, by rw [roots_len]; omega, ⟨hr1, hr2⟩, H7.out.2.1, hl7, H7.out.2.2⟩
  · have b0 : ((x : Int) == 0) = false := by simp; omega
    have LA := Lib.hid (l2Any_any w.heap.size (p2 + 1) w3 hs3 (by omega))
    clear hx0 hs3
    go_wp2_with fail
    refine LA.out.mono ?_
    rintro e w6 ⟨⟨r, rfl, hr1, hr2⟩, hs6, hg6⟩
    have L := Lib.hid (l2Some_any w.heap.size (p2 + 1 + 1) m w6 hs6 (by omega) (by omega))
    have HO6 : Hid (∃ zs, zs.length = m ∧ Own w6 w1.heap.size (.slice A2 m c2) zs) := by
      obtain ⟨zs, hz, ho⟩ := HO3.out
      exact ⟨zs, hz, ho.row hg6 hlt⟩
    have hg6w := grown_trans2 hg3w hg6
    have hs16 : w1.heap.size ≤ w6.heap.size := hg6w.size
    clear hs6 hg6 hg3w HO3 LA
    go_wp2_with fail
    refine L.out.mono ?_
    rintro e w7 ⟨v7, ps, rfl, ho7, hl7, _, hg7⟩
    have HO7 : Hid (∃ zs, zs.length = m ∧ Own w7 w.heap.size (.slice A2 m c2) zs) := by
      obtain ⟨zs, hz, ho⟩ := HO6.out
      exact ⟨zs, hz, (ho.row hg7 hlt).less hsz⟩
    have H7 := Lib.hid (And.intro (ho7.less (Nat.le_trans hsz hs16)) (below_of_grown hb1 (grown_trans2 hg6w hg7)))
    clear ho7 hg7 hg6w hb1 HO6
    go_wp2
    go_ret3
    obtain ⟨zs, hz, ho⟩ := HO7.out
    exact ⟨_, zs, r, _, ps, rfl, ho, by omega, ⟨hr1, hr2⟩, H7.out.1, hl7, H7.out.2⟩
end Go.Proofs.Ytebgnaiibomjkaa
