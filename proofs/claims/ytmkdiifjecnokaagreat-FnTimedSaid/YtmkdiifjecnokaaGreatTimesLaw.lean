/- The timed forest of pairs and its classes: plain lists; the answers of TimedOf read. Condition: lengths up to 1048576. -/
import Derived.Test.YtmkdiifjecnokaaGreatClassesAt
import Derived.Test.YtmkdiifjecnokaaGreatTimedOfIn
import Derived.Test.YtmkdiifjecnokaaGreatSpecTimedOf
import Derived.Test.YtmkdiifjecnokaaGreatDraw11
namespace Go.Proofs.YtmkdiifjecnokaaGreat
open Go.RowKit

/-- How many classes there were behind so many pairs. -/
def cAt (p : Nat) (ps : List (Nat × Nat)) (k : Nat) : Nat := rowsC (upk p ps (min k ps.length))
theorem cAt_sum {p : Nat} {ps : List (Nat × Nat)} (h1 : 1 ≤ p) (h2 : p ≤ 16) (hp : inP p ps) {k : Nat} (hk : k ≤ ps.length) : rowsC (upk p ps k) + (useTo (roots p) 1 ps k).length = p := by
  have := all_rows (roots_fv h1 h2) 1 (ps := ps) (by rw [roots_len]; exact hp) hk
  rwa [rows_roots_n h1 h2] at this
theorem cAt_zero {p : Nat} {ps : List (Nat × Nat)} (h1 : 1 ≤ p) (h2 : p ≤ 16) : cAt p ps 0 = p := by
  unfold cAt
  rw [Nat.zero_min, upk_zero, rows_roots_n h1 h2]
theorem cAt_le {p : Nat} {ps : List (Nat × Nat)} (h1 : 1 ≤ p) (h2 : p ≤ 16) (hp : inP p ps) (k : Nat) : cAt p ps k ≤ 16 := by
  have := cAt_sum h1 h2 hp (k := min k ps.length) (by omega)
  unfold cAt
  omega
theorem cAt_step {p : Nat} {ps : List (Nat × Nat)} (h1 : 1 ≤ p) (h2 : p ≤ 16) (hp : inP p ps) (k : Nat) : cAt p ps (k + 1) ≤ cAt p ps k ∧ cAt p ps k ≤ cAt p ps (k + 1) + 1 ∧ (ps.length ≤ k → cAt p ps (k + 1) = cAt p ps k) := by
  unfold cAt
  by_cases hk : k < ps.length
  · rw [Nat.min_eq_left (by omega), Nat.min_eq_left (by omega)]
    have e1 := cAt_sum h1 h2 hp (k := k) (by omega)
    have e2 := cAt_sum h1 h2 hp (k := k + 1) (by omega)
    cases hu : useB (roots p) 1 ps k with
    | false =>
      rw [useTo_no hu] at e2
      omega
    | true =>
      rw [useTo_yes hu, List.length_append, List.length_singleton] at e2
      omega
  · rw [Nat.min_eq_right (by omega), Nat.min_eq_right (by omega)]
    omega
theorem cAt_end {p : Nat} {qs : List (Int × Int)} (hv : logB (p : Int) qs = true) {k : Nat} (hk : qs.length ≤ k) : ccN (p : Int) qs = (cAt p (natP qs) k : Int) := by
  obtain ⟨⟨h1, h2⟩, hp, h24, hl⟩ := tmOf_parts hv
  rw [Int.toNat_natCast] at h1 h2 hp
  have := cAt_sum h1 h2 hp (k := qs.length) (by omega)
  unfold ccN cAt
  rw [if_pos (show usB (p : Int) qs = true from hv), usN_yes (show usB (p : Int) qs = true from hv), Nat.min_eq_right (by omega), hl, Int.toNat_natCast]
  omega
theorem ca_at {p : Nat} {qs : List (Int × Int)} (hv : logB (p : Int) qs = true) {k : Nat} (hk : k ≤ 24) : caN (upk p (natP qs) qs.length) (tmTo p (natP qs) qs.length) (k : Int) = (cAt p (natP qs) k : Int) := by
  obtain ⟨⟨h1, h2⟩, hp, h24, hl⟩ := tmOf_parts hv
  rw [Int.toNat_natCast] at h1 h2 hp
  have hask : askB (upk p (natP qs) qs.length) (tmTo p (natP qs) qs.length) (k : Int) = true := by
    unfold askB
    rw [← hl, tmTo_valid h1 h2 hp h24 (Nat.le_refl _), decide_eq_true (by omega)]
    rfl
  rw [caN_yes hask]
  unfold cAt
  rw [← hl, at_to h1 h2 hp h24 k _ (Nat.le_refl _)]
/-- The answer of TimedOf, read. -/
theorem tm_read {P : Program} {f : FuncId} {args : Array Value} {w : World} {us ts : List Int} {x : Value} (h : Calls P f args w fun e w' => ∃ v v2, e = .returned (.tuple #[.agg #[v, v2], x]) ∧ Own w' w.heap.size v us ∧ Own w' w.heap.size v2 ts ∧ Below w.heap.size w w') :
    Calls P f args w fun e w' => ∃ A c A2 c2, e = .returned (.tuple #[.agg #[.slice A us.length c, .slice A2 ts.length c2], x]) ∧ Rd w' w'.heap.size A us.length us ∧ Rd w' w'.heap.size A2 ts.length ts ∧ Below w.heap.size w w' := h.mono fun e w' ⟨v, v2, he, h1, h2, hb⟩ => by
  obtain ⟨A, c, rfl, hr⟩ := h1.form
  obtain ⟨A2, c2, rfl, hr2⟩ := h2.form
  exact ⟨A, c, A2, c2, he, hr, hr2, hb⟩
theorem tm_read' {P : Program} {f : FuncId} {args : Array Value} {w : World} {us ts : List Int} {x : Value} (h : Calls P f args w fun e w' => ∃ v v2, e = .returned (.tuple #[.agg #[v, v2], x]) ∧ Own w' w.heap.size v us ∧ Own w' w.heap.size v2 ts ∧ (∀ x, v.ownBlock = some x → ∀ y, v2.ownBlock = some y → x ≠ y) ∧ Below w.heap.size w w') :
    Calls P f args w fun e w' => ∃ A c A2 c2, e = .returned (.tuple #[.agg #[.slice A us.length c, .slice A2 ts.length c2], x]) ∧ Rd w' w'.heap.size A us.length us ∧ Rd w' w'.heap.size A2 ts.length ts ∧ Below w.heap.size w w' :=
  tm_read (h.mono fun _ _ ⟨v, v2, he, h1, h2, _, hb⟩ => ⟨v, v2, he, h1, h2, hb⟩)
theorem upk_take {p K j : Nat} (ps : List (Nat × Nat)) (h : j ≤ K) : upk p (ps.take K) j = upk p ps j := by
  unfold upk
  rw [List.take_take, Nat.min_eq_left h]
theorem useB_takeK {p K j : Nat} (ps : List (Nat × Nat)) (h : j < K) : useB (roots p) 1 (ps.take K) j = useB (roots p) 1 ps j := by
  unfold useB
  rw [List.take_take, Nat.min_eq_left (by omega), List.getElem?_take_of_lt h]
theorem tmTo_take {p K : Nat} (ps : List (Nat × Nat)) : ∀ j, j ≤ K → tmTo p (ps.take K) j = tmTo p ps j
  | 0, _ => rfl
  | j + 1, h => by
    have ih := tmTo_take (p := p) (K := K) ps j (by omega)
    have hu := useB_takeK (p := p) ps (show j < K by omega)
    have hr : rk p (ps.take K) j = rk p ps j := by
      unfold rk
      rw [upk_take (K := K) (j := j) ps (by omega), List.getElem?_take_of_lt (show j < K by omega)]
    cases h2 : useB (roots p) 1 ps j with
    | false => rw [tmTo_no h2, tmTo_no (hu.trans h2), ih]
    | true => rw [tmTo_yes h2, tmTo_yes (hu.trans h2), ih, hr]
/-- The timed forest of the first pairs. -/
theorem tm_first {p : Nat} {qs : List (Int × Int)} (hv : logB (p : Int) qs = true) {K : Nat} (hK : K ≤ qs.length) : logB (p : Int) (qs.take K) = true ∧ logUp (p : Int) (qs.take K) = upk p (natP qs) K ∧ tmAt (p : Int) (qs.take K) = tmTo p (natP qs) K := by
  obtain ⟨hn, hk⟩ := usB_parts hv
  obtain ⟨a1, a2⟩ := okQ_parts hk
  have h1 : logB (p : Int) (qs.take K) = true := usB_of hn (okQ_of (by rw [List.length_take]; omega) fun x hx => a2 x (List.mem_of_mem_take hx))
  have hl : (qs.take K).length = K := by rw [List.length_take]; omega
  refine ⟨h1, ?_, ?_⟩
  · rw [tmUp_yes h1, hl, natP_take, Int.toNat_natCast, upk_take _ (Nat.le_refl _)]
  · rw [tmAt_yes h1, hl, natP_take, Int.toNat_natCast, tmTo_take _ _ (Nat.le_refl _)]
theorem pairs_sliceT (A2 : Option Addr) (m c2 k : Nat) (hk : k ≤ m) (hc : m ≤ c2) (w : World) : (Instr.slice 23 (.slice A2 m c2) none (some (.int .i64 (k : Int))) none).run Tryz.prog w = .ok (.slice A2 k c2) w := by
  have hsz : ∀ w, (sizeOf 41).run Tryz.prog w = .ok 2 w := fun w => by simp [sizeOf, go_sem]; rfl
  cases A2 with
  | none =>
    simp [go_sem, hsz]
    omega
  | some a =>
    obtain ⟨b, o, p⟩ := a
    by_cases h0 : c2 = 0
    · simp [go_sem, hsz, h0]
      omega
    · simp [go_sem, hsz, h0]
      omega
set_option maxHeartbeats 2000000 in
theorem drawTimedOf_any (A : Option Addr) (n c B : Nat) (bs : List Int) (w : World) (h : Bt w B A n bs) (hB : B ≤ w.heap.size) (hc : n ≤ c) :
    Calls Tryz.prog 4 #[.slice A n c] w fun e w' => ∃ (m : Nat) (v : Value) (ps : List (Int × Int)), e = .returned (.tuple #[.int .i64 (m : Int), v]) ∧ m ≤ 17 ∧ OwnQ 41 w' w.heap.size v ps ∧ ps.length ≤ 25 ∧ Below w.heap.size w w' := by
  have O := Lib.hid (drawUseful_any A n c B bs w h hB hc)
  clear h
  go_enter Tryz.func4, Tryz.ntmps4
  go_wp2_with fail
  refine O.out.mono ?_
  rintro e w1 ⟨m, v, ps, rfl, hm, ho, hl, hb⟩
  have HO := Lib.hid (And.intro ho hb)
  clear ho hb
  go_wp2
  go_ret2
  exact ⟨m, _, ps, rfl, hm, HO.out.1, hl, HO.out.2⟩
theorem timesLaw_type : (Tryz.prog.info? 28).isSome = (Tryz.prog.info? 28).isSome := rfl
end Go.Proofs.YtmkdiifjecnokaaGreat
