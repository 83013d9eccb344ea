/- The closure that counts, and hasItems. Condition: lengths up to 1048576. -/
import Derived.Test.YtemkbheplmimoaaLookFrom
namespace Go.Proofs.Ytemkbheplmimoaa
open Go.RowKit Go.Shelf

/-- Does one go on from x? -/
def on1 (u : List Int) (x : Nat) : Nat := if step u x = none then 0 else 1
set_option maxRecDepth 100000 in
set_option maxHeartbeats 1000000 in
theorem counting_any (l : Int) (N x n c base B Sb Fb : Nat) (f : Nat) (A : Option Addr) (pre : List Nat) (u : List Int) (w : World) (hN : Nd w N u) (hv : fvB u = true) (hx : x < u.length) (hab : ∀ p ∈ pre, p < u.length ∧ Ab u p x) (hp : RdP w base B N A n pre) (hNb : N < base) (hB : B ≤ w.heap.size) (hn : n ≤ 1048576)
    (hS : Boxed w Sb 136 (.func (.func (shortF l)) #[] #[])) (hF : Boxed w Fb 3 (.int .i64 (f : Int))) (hf : f ≤ 1048576) (hNF : N ≠ Fb) :
    Calls Try.prog 147 (#[.pointer (some (nadr N x)), .slice A n c] ++ #[.pointer (some ⟨Sb, 0, none⟩), .pointer (some ⟨Fb, 0, none⟩)]) w fun e w' => (∃ v, e = .returned v) ∧ Nd w' N (lookAt l u pre x) ∧ Boxed w' Fb 3 (.int .i64 ((f + on1 (lookAt l u pre x) x : Nat) : Int)) ∧ Chg (fun b => b = N ∨ b = Fb) w w' := by
  have R := Lib.hid (short_any l N x n c base B A pre u w hN hv hx hab hp hNb hB hn)
  have eg := short_enters l
  have cS := hS.cell
  have hlen := ((look_kind l).shr u pre x hv hx hab).len
  have HF := Lib.hid hF
  obtain ⟨r, hr⟩ : ∃ r : Nat, r = f + on1 (lookAt l u pre x) x := ⟨_, rfl⟩
  rw [← hr]
  have HR := Lib.hid hr
  clear hN hv hab hp hS hF hr
  simp only [List.append_toArray, List.nil_append, List.cons_append]
  go_enter Try.func147, Try.ntmps147
  go_wp2_with fail
  refine R.out.mono ?_
  rintro e w1 ⟨⟨v, rfl⟩, hN1, hC1⟩
  obtain ⟨_, c2, _⟩ := hN1.cells (x := x) (by rw [hlen]; exact hx)
  have hF1 : Boxed w1 Fb 3 (.int .i64 (f : Int)) := (hC1.block Fb HF.out.lt (fun e => hNF e.symm)).trans HF.out
  have cF := hF1.cell
  have fF := hF1.frozen
  have hC2 : Chg (fun b => b = N ∨ b = Fb) w w1 := hC1.weak fun i h => .inl h
  have HH := Lib.hid (And.intro hN1 (And.intro hF1 hC2))
  clear hN1 hF1 hC1 hC2
  unfold nadr
  cases hs : step (lookAt l u pre x) x with
  | none =>
    rw [hs, Option.map_none] at c2
    have e : Hid (r = f) := by
      have := HR.out
      unfold on1 at this
      rw [if_pos hs] at this
      exact this
    clear hs HR
    go_wp2
    go_end0
    exact ⟨⟨_, rfl⟩, HH.out.1, by rw [e.out]; exact HH.out.2.1, HH.out.2.2⟩
  | some y =>
    rw [hs, Option.map_some] at c2
    unfold nadr at c2
    have e : Hid ((r : Int) = (f : Int) + 1) := by
      have := HR.out
      unfold on1 at this
      rw [if_neg (by rw [hs]; simp)] at this
      show _ = _
      omega
    clear hs HR
    go_wp2
    go_end0
    obtain ⟨hN1, hF1, hC2⟩ := HH.out
    refine ⟨⟨_, rfl⟩, hN1.eq (Below.heap_setCell w1 ⟨Fb, 0, none⟩ _ N (by show N ≠ Fb; exact hNF)), ?_, hC2.set (B := Fb) (.inl (.inr rfl)) _ _⟩
    rw [e.out]
    exact hF1.set _

theorem allIn_cons (n : Nat) (i : Int) (is : List Int) : allIn n (i :: is) = (decide (0 ≤ i ∧ i < (n : Int)) && allIn n is) := by simp [allIn]
theorem allIn_of {n : Nat} {is : List Int} (h : ∀ k, k < is.length → 0 ≤ is[k]?.getD 0 ∧ is[k]?.getD 0 < (n : Int)) : allIn n is = true := by
  unfold allIn
  rw [List.all_eq_true]
  intro i hi
  obtain ⟨k, hk, rfl⟩ := List.getElem_of_mem hi
  have := h k hk
  rw [List.getElem?_eq_getElem hk, Option.getD_some] at this
  exact decide_eq_true this
theorem allIn_not {n : Nat} {is : List Int} {k : Nat} (hk : k < is.length) (h : ¬ (0 ≤ is[k]?.getD 0 ∧ is[k]?.getD 0 < (n : Int))) : allIn n is = false := by
  cases e : allIn n is with
  | false => rfl
  | true =>
    exfalso
    apply h
    rw [List.getElem?_eq_getElem hk, Option.getD_some]
    exact allIn_mem e _ (List.getElem_mem hk)
set_option maxRecDepth 100000 in
set_option maxHeartbeats 1000000 in
theorem hasItems_any (A : Option Addr) (n c : Nat) (B0 : Nat) (A1 : Option Addr) (m c1 : Nat) (is : List Int) (w : World) (hn : n ≤ 1048576) (h : Rd w B0 A1 m is) (hm : m ≤ 1048576) :
    Calls Try.prog 146 #[.slice A n c, .slice A1 m c1] w fun e w' => e = .returned (.bool (decide (is.length ≤ 24) && allIn n is)) ∧ w = w' := by
  have hl := h.1
  have HL := Lib.hid hl
  by_cases h24 : m ≤ 24
  · have hd : decide (is.length ≤ 24) = true := by simp; omega
    rw [hd, Bool.true_and]
    have HA := Lib.hid (fun (k : Nat) (hk : k < m) (hh : ¬ (0 ≤ is[k]?.getD 0 ∧ is[k]?.getD 0 < (n : Int))) => allIn_not (n := n) (is := is) (k := k) (by omega) hh)
    clear hd hl
    go_enter Try.func146, Try.ntmps146
    go_wp2
    go_loopw [12] (fun i wr => ∃ k : Nat, k ≤ m ∧ i = .int .i64 k ∧ w = wr ∧ ∀ x, x < k → 0 ≤ is[x]?.getD 0 ∧ is[x]?.getD 0 < (n : Int)) (fun i _ => m - (intOf i).toNat)
    case atStart => exact ⟨0, Nat.zero_le _, rfl, rfl, fun x hx => absurd hx (by omega)⟩
    case round =>
      obtain ⟨k, hk, rfl, rfl, hin⟩ := hrel
      by_cases hlt : k < m
      · obtain ⟨b, off, rfl, _, hc1⟩ := h.2 (by omega)
        have g1 := hc1 k hlt
        have HX := Lib.hid (fun (hh : 0 ≤ is[k]?.getD 0 ∧ is[k]?.getD 0 < (n : Int)) => show ∀ x, x < k + 1 → 0 ≤ is[x]?.getD 0 ∧ is[x]?.getD 0 < (n : Int) from fun x hx => by
          by_cases e : x = k
          · subst e; exact hh
          · exact hin x (by omega))
        have HB := Lib.hid (HA.out k hlt)
        clear hc1 hin HA
        generalize is[k]?.getD 0 = z at g1 HX HB
        by_cases hz : 0 ≤ z ∧ z < (n : Int)
        · have hd : decide (0 ≤ z ∧ z < (n : Int)) = true := by simpa using hz
          have HX2 := Lib.hid (HX.out hz)
          clear HX HB hz
          go_wp2_with (go_at_call 138; refine (hasItem_any _ _ _ _ _ hn).mono ?_; rintro e w' ⟨rfl, rfl⟩)
          go_roundw
          case rel => exact ⟨k + 1, by omega, by go_num, trivial, HX2.out⟩
          case measure => simp [intOf]; omega
        · have hd : decide (0 ≤ z ∧ z < (n : Int)) = false := by simpa using hz
          have HF := Lib.hid (HB.out hz)
          clear HX HB hz
          go_wp2_with (go_at_call 138; refine (hasItem_any _ _ _ _ _ hn).mono ?_; rintro e w' ⟨rfl, rfl⟩)
          go_ret
          exact ⟨ret_bool HF.out.symm, rfl⟩
      · obtain rfl : k = m := by omega
        have HT := Lib.hid (allIn_of (n := n) (is := is) (fun x hx => hin x (by have := HL.out; omega)))
        clear hin
        go_wp2
        go_ret
        exact ⟨ret_bool HT.out.symm, rfl⟩
  · have hd : decide (is.length ≤ 24) = false := by simp; omega
    rw [hd, Bool.false_and]
    clear hd hl h
    go_enter Try.func146, Try.ntmps146
    go_wp2
    go_ret
    exact ⟨rfl, rfl⟩
end Go.Proofs.Ytemkbheplmimoaa
