/- A join of the program. Conditions: the nodes and the members lie in a block each; what the roots' members tell is right. -/
import Derived.Test.YtemkbheplmimoaaJoin4
import Derived.Handy
import Derived.LaidEqlPtr
namespace Go.Proofs.Ytemkbheplmimoaa
open Go.RowKit Go.Shelf

/-- What the members of the roots tell is right. -/
def RootsTell (u : List Int) (sz ht : Nat → Nat) : Prop := ∀ x, x < u.length → step u x = none → sz x = szN u x ∧ ht x = htN u x
theorem RootsTell.all (u : List Int) : RootsTell u (szN u) (htN u) := fun _ _ _ => ⟨rfl, rfl⟩
theorem RootsTell.hang {u : List Int} {p q : Nat} {sz ht : Nat → Nat} (h : RootsTell u sz ht) (T : Two u p q) :
    RootsTell (hang u p q) (fun x => if x = q then sz q + sz p else sz x) (fun x => if x = q then max (ht q) (ht p + 1) else ht x) := by
  intro x hx hr
  rw [hang_len] at hx
  obtain ⟨hne, hr⟩ := (hang_isroot T).1 hr
  obtain ⟨p1, p2⟩ := h p T.hp T.rp
  obtain ⟨q1, q2⟩ := h q T.hq T.rq
  by_cases e : x = q
  · subst e
    simp only [if_true]
    exact ⟨by rw [hang_sz T, p1, q1], by rw [hang_ht T, p2, q2]⟩
  · simp only [if_neg e]
    rw [hang_sz_other T hr hne e, hang_ht_other T hr hne e]
    exact h x hx hr
theorem szN_le (u : List Int) (x : Nat) : szN u x ≤ u.length := szTo_le _ _ _
theorem htN_le {u : List Int} (h : fvB u = true) (x : Nat) : htN u x ≤ 16 := by
  have h1 : htN u x = htTo u u.length x := rfl
  have h2 := htTo_bound h (Nat.le_refl _) x
  omega
theorem pair_cells (w : World) (x y : Int) : (w.alloc (.cells #[.int .i64 x, .int .i64 y] 42)).cell? ⟨w.heap.size, 0, none⟩ = some (.int .i64 x) ∧ (w.alloc (.cells #[.int .i64 x, .int .i64 y] 42)).cell? ⟨w.heap.size, 1, none⟩ = some (.int .i64 y) := by
  have h := World.alloc_heap_new w (.cells #[.int .i64 x, .int .i64 y] 42)
  constructor
  · unfold World.cell?
    rw [h]
    rfl
  · unfold World.cell?
    rw [h]
    rfl
/-- The three rules as one. -/
theorem goes_any (r : Int) (hr : 0 ≤ r ∧ r ≤ 2) (M N n p q : Nat) (sz ht : Nat → Nat) (u : List Int) (w : World) (hm : MemK w M N n n sz ht) (hN : Nd w N u) (hn : u.length = n) (T : Two u p q) (hs : RootsTell u sz ht) :
    Calls Try.prog (ruleF r) #[.agg #[], .pointer (some ⟨M, p * 3, none⟩), .pointer (some ⟨M, q * 3, none⟩)] w fun e w' => e = .returned (.bool (underB u r p q)) ∧ Below w.heap.size w w' := by
  obtain ⟨p1, p2⟩ := hs p T.hp T.rp
  obtain ⟨q1, q2⟩ := hs q T.hq T.rq
  rcases (show r = 0 ∨ r = 1 ∨ r = 2 by omega) with rfl | rfl | rfl
  · exact plainGoes_any _ _ _
  · have := sizeGoes_any M N n p q sz ht u w hm hN hn (by have := T.hp; omega) (by have := T.hq; omega)
    rw [p1, q1, later_size] at this
    exact this
  · have := heightGoes_any M N n p q sz ht u w hm hN hn (by have := T.hp; omega) (by have := T.hq; omega)
    rw [p2, q2, later_height] at this
    exact this

set_option maxRecDepth 100000 in
set_option maxHeartbeats 4000000 in
theorem join_any (r : Int) (hr : 0 ≤ r ∧ r ≤ 2) (J M N n a b : Nat) (sz ht : Nat → Nat) (u : List Int) (w : World) (hm : MemK w M N n n sz ht) (hj : Boxed w J 147 (.slice (some ⟨M, 0, none⟩) n n)) (hN : Nd w N u) (hNM : N ≠ M) (hv : fvB u = true) (hn : u.length = n) (ha : a < n) (hb : b < n) (hs : RootsTell u sz ht) :
    Calls Try.prog 86 #[.pointer (some ⟨J, 0, none⟩), .iface (ruleT r) (.agg #[]), .agg #[.int .i64 (a : Int), .int .i64 (b : Int)]] w fun e w' =>
      e = .returned (.bool (!decide (rootI u a = rootI u b))) ∧ Nd w' N (joinL u r a b) ∧ (∃ sz' ht', MemK w' M N n n sz' ht' ∧ RootsTell (joinL u r a b) sz' ht') ∧ Chg (fun k => k = N ∨ k = M) w w' := by
  obtain ⟨W, hW⟩ : ∃ W, W = w.alloc (.cells #[.int .i64 (a : Int), .int .i64 (b : Int)] 42) := ⟨_, rfl⟩
  have hba : Below w.heap.size w W := by rw [hW]; exact (Below.refl w.heap.size w).alloc (Nat.le_refl _) _
  have g1 : W.cell? ⟨w.heap.size, 0, none⟩ = some (.int .i64 (a : Int)) := by rw [hW]; exact (pair_cells w _ _).1
  have g2 : W.cell? ⟨w.heap.size, 1, none⟩ = some (.int .i64 (b : Int)) := by rw [hW]; exact (pair_cells w _ _).2
  obtain ⟨ρ, hρ⟩ : ∃ ρ, ρ = rootI u := ⟨_, rfl⟩
  have hmW := hm.below hba hm.lt
  have hjW : Boxed W J 147 (.slice (some ⟨M, 0, none⟩) n n) := (hba.block J hj.lt).trans hj
  have hNW := hN.eq (hba.block N hN.lt)
  have R := Lib.hid (fun (w2 : World) (hb2 : Below W.heap.size W w2) (x : Nat) (hx : Hid (x < n)) => rootOf_any J M N n x sz ht u w2 (hmW.below hb2 hmW.lt) ((hb2.block J hjW.lt).trans hjW) (hNW.eq (hb2.block N hNW.lt)) hv hn hx.out)
  rw [← hρ] at R
  have HA := Lib.hid ha
  have HB := Lib.hid hb
  have H0 := Lib.hid (And.intro hmW (And.intro hNW (And.intro hba (And.intro hv (And.intro hn (And.intro ha hb))))))
  have HP := Lib.hid hρ
  have HS := Lib.hid hs
  have HW := Lib.hid hW
  have HR := Lib.hid hr
  have HNM := Lib.hid hNM
  have hbb : Below W.heap.size W W := Below.refl _ _
  obtain ⟨P, hP⟩ : ∃ P, P = w.heap.size := ⟨_, rfl⟩
  rw [← hP] at g1 g2
  have HPP := Lib.hid hP
  clear hm hj hN hv hn ha hb hs hW hba hmW hjW hNW hρ hr hNM hP
  go_enter Try.func86, Try.ntmps86
  go_wp2
  rw [← HW.out, ← HPP.out]
  go_region_held3 (fun w' => Below W.heap.size W w' ∧ w'.cell? ⟨P, 0, none⟩ = some (.int .i64 (a : Int)) ∧ w'.cell? ⟨P, 1, none⟩ = some (.int .i64 (b : Int)))
    (first | exact held2_drew ⟨by assumption, by assumption, by assumption⟩ | exact held2_drew (by assumption) | exact held2_call (by assumption) (by assumption) (Below.size (And.left (by assumption))))
    (first | (go_at_call 133; refine (R.out _ (‹Below W.heap.size W _ ∧ _›).1 _ (by first | exact HA | exact HB)).mono ?_; rintro e w8 ⟨rfl, hb8⟩))
  have hbz := (‹Below W.heap.size W _ ∧ _›).1
  obtain ⟨p, hp⟩ : ∃ p, p = ρ a := ⟨_, rfl⟩
  obtain ⟨q, hq⟩ : ∃ q, q = ρ b := ⟨_, rfl⟩
  rw [← hp, ← hq]
  have HPA : Hid (rootI u a = p) := by
    show _ = _
    rw [hp, HP.out]
  have HQB : Hid (rootI u b = q) := by
    show _ = _
    rw [hq, HP.out]
  clear hp hq HP R HPP HA HB hbb g1 g2
  obtain ⟨hm, hN, hba, hv, hn, ha, hb⟩ := H0.out
  have hmz := hm.below hbz hm.lt
  have hNz := hN.eq (hbz.block N hN.lt)
  have hbw := hba.trans (hbz.mono hba.size)
  obtain ⟨j, hj0, hj1, hj2, hj3⟩ := info_parts Try.info_member
  obtain ⟨cur, hcur, _⟩ := id hmz
  have HEQ := Lib.hid (fun W' : World => run_eql_ptr_same (P := Try.prog) (tp := 148) W' (⟨M, p * 3, none⟩ : Addr) Try.underlying148 hj0)
  have HNE := Lib.hid (fun h => run_eql_ptr_other (P := Try.prog) (tp := 148) _ (a := ⟨M, p * 3, none⟩) (b := ⟨M, q * 3, none⟩) Try.underlying148 hj0 (by rw [hj2]; decide) h hcur hcur)
  clear hj0 hj1 hj2 hj3 hcur
  by_cases hpq : p = q
  · subst hpq
    have HF : Hid ((!decide (rootI u a = rootI u b)) = false) := by
      show _ = _
      rw [HPA.out, HQB.out]
      simp
    have HJL : Hid (joinL u r a b = u) := by
      show _ = _
      unfold joinL
      rw [HPA.out, HQB.out, if_pos rfl]
    have HZ := Lib.hid (And.intro hmz (And.intro hNz hbw))
    clear hm hN hba hv hn ha hb hmz hNz hbw hbz HPA HQB H0 HNE
    go_wp2
    rw [HEQ.out]
    go_wp2
    go_ret
    rw [HF.out, HJL.out]
    exact ⟨rfl, HZ.out.2.1, ⟨sz, ht, HZ.out.1, HS.out⟩, Chg.of_below HZ.out.2.2⟩
  · have T : Two u p q := by
      have := roots_two hv (a := a) (b := b) (by omega) (by omega) (by rw [HPA.out, HQB.out]; exact hpq)
      rw [HPA.out, HQB.out] at this
      exact this
    have HF : Hid ((!decide (rootI u a = rootI u b)) = true) := by
      show _ = _
      rw [HPA.out, HQB.out, decide_eq_false hpq]
      rfl
    have HJL : Hid (joinL u r a b = joinTo u r p q) := by
      show _ = _
      unfold joinL
      rw [HPA.out, HQB.out, if_neg hpq]
    have HNQ := Lib.hid (HNE.out (fun e => by have := congrArg Addr.off e; simp at this; omega))
    have HG := Lib.hid (goes_any r HR.out M N n p q sz ht u _ hmz hNz hn T HS.out)
    have hle1 := szN_le u
    have hle2 := htN_le hv
    have h16 := (fv_parts hv).2.1
    have HU := Lib.hid (fun (w9 : World) (h9 : Below _ _ w9) (x y : Nat) (T2 : Hid (Two u x y)) => goUnder_any M N n x y sz ht u w9 (hmz.below h9 hmz.lt) (hNz.eq (h9.block N hNz.lt)) hn (by have := T2.out.hp; omega) (by have := T2.out.hq; omega) T2.out.ne HNM.out
      (by have := (HS.out x T2.out.hp T2.out.rp).1; have := hle1 x; omega) (by have := (HS.out y T2.out.hq T2.out.rq).1; have := hle1 y; omega) (by have := (HS.out x T2.out.hp T2.out.rp).2; have := hle2 x; omega) (by have := (HS.out y T2.out.hq T2.out.rq).2; have := hle2 y; omega))
    have HT := Lib.hid T
    have HTS := Lib.hid T.symm
    have HZ := Lib.hid hbw
    clear hm hN hba hv hn ha hb hmz hNz hbw hbz HPA HQB H0 T HEQ HNE hle1 hle2 h16
    go_wp2_with fail
    rw [HNQ.out]
    go_wp2_with fail
    obtain ⟨c, hc⟩ : ∃ c, c = underB u r p q := ⟨_, rfl⟩
    rw [← hc] at HG
    have HC := Lib.hid hc
    clear hc HNQ
    rcases (show r = 0 ∨ r = 1 ∨ r = 2 by have := HR.out; omega) with rfl | rfl | rfl
    all_goals
      go_invoke
      go_wp2_with fail
      refine HG.out.mono ?_
      rintro e w9 ⟨rfl, h9⟩
      have h9w := Lib.hid (HZ.out.trans (h9.mono HZ.out.size))
      cases c with
      | true =>
        have U := Lib.hid (HU.out w9 h9 p q HT)
        clear HU HG h9
        go_wp2_with fail
        refine U.out.mono ?_
        rintro e w10 ⟨⟨v, rfl⟩, hN10, hm10, hc10⟩
        have K := Lib.hid (And.intro hN10 (And.intro hm10 hc10))
        clear hN10 hm10 hc10
        go_wp2_with fail
        go_ret
        rw [HF.out, HJL.out]
        unfold joinTo
        rw [if_pos HC.out.symm]
        exact ⟨rfl, K.out.1, ⟨_, _, K.out.2.1, HS.out.hang HT.out⟩, (Chg.of_below h9w.out).trans K.out.2.2⟩
      | false =>
        have U := Lib.hid (HU.out w9 h9 q p HTS)
        clear HU HG h9
        go_wp2_with fail
        refine U.out.mono ?_
        rintro e w10 ⟨⟨v, rfl⟩, hN10, hm10, hc10⟩
        have K := Lib.hid (And.intro hN10 (And.intro hm10 hc10))
        clear hN10 hm10 hc10
        go_wp2_with fail
        go_ret
        rw [HF.out, HJL.out]
        unfold joinTo
        rw [if_neg (by rw [← HC.out]; simp)]
        exact ⟨rfl, K.out.1, ⟨_, _, K.out.2.1, HS.out.hang HTS.out⟩, (Chg.of_below h9w.out).trans K.out.2.2⟩
end Go.Proofs.Ytemkbheplmimoaa
