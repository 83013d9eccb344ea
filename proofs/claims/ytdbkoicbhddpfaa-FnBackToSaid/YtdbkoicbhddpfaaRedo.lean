/- The steps taken back, done again one by one. Condition: none. -/
import Derived.Test.YtdbkoicbhddpfaaBackwards
import Derived.Test.YtdbkoicbhddpfaaImplJoinLog
namespace Go.Proofs.Ytdbkoicbhddpfaa
open Go.RowKit Go.Shelf

/-- A step of a valid log, done again. -/
theorem jl_redo {xs : List Int} {ss : List (Int × Int)} (hv : logV xs ss = true) {k : Nat} (hk : k < ss.length) :
    jlB (upAt xs ss k) (ss.take k) (ss[k]?.getD (0, 0)).1 (ss[k]?.getD (0, 0)).2 = true ∧ jlUp (upAt xs ss k) (ss.take k) (ss[k]?.getD (0, 0)).1 (ss[k]?.getD (0, 0)).2 = upAt xs ss (k + 1) ∧ jlSt (upAt xs ss k) (ss.take k) (ss[k]?.getD (0, 0)).1 (ss[k]?.getD (0, 0)).2 = ss.take (k + 1) := by
  obtain ⟨hok, e, T⟩ := upAt_step hv hk
  obtain ⟨_, hl, hf, hv'⟩ := upAt_built hv (Nat.le_of_lt hk)
  rw [take_snoc hk (0, 0)]
  revert hok e T
  generalize ss[k]?.getD (0, 0) = s
  obtain ⟨s1, s2⟩ := s
  intro hok e T
  obtain ⟨h1, h2, h3, h4, h5, h6⟩ := okStep_parts hok
  have h1 : 0 ≤ s1 ∧ s1 < ((upAt xs ss k).length : Int) := h1
  have h2 : 0 ≤ s2 ∧ s2 < ((upAt xs ss k).length : Int) := h2
  obtain ⟨p, rfl⟩ := Int.eq_ofNat_of_zero_le h1.1
  obtain ⟨q, rfl⟩ := Int.eq_ofNat_of_zero_le h2.1
  simp only [Int.toNat_natCast] at e T h6
  have rp := rootI_root hf T.rp
  have rq := rootI_root hf T.rq
  have hne : ¬ rootI (upAt xs ss k) p = rootI (upAt xs ss k) q := by rw [rp, rq]; exact T.ne
  have hb : jlB (upAt xs ss k) (ss.take k) (p : Int) (q : Int) = true := by
    rw [jlB_valid hv' p q T.hp T.hq, decide_eq_false hne]
    rfl
  refine ⟨hb, ?_, ?_⟩
  · unfold jlUp
    rw [if_pos hb, Int.toNat_natCast, Int.toNat_natCast, e]
    unfold joinL joinTo
    rw [if_neg hne, rp, rq, if_pos h6]
  · unfold jlSt
    rw [if_pos hb, Int.toNat_natCast, Int.toNat_natCast]
    unfold joinSt stR stT lowI uppI
    rw [if_neg hne, if_neg hne, if_neg hne, rp, rq, if_pos h6, if_pos h6]
/-- The steps from k on, sliced. -/
theorem steps_from (A2 : Option Addr) (m c2 k : Nat) (hk : k ≤ m) (hc : m ≤ c2) : ∃ (SA : Option Addr) (sc : Nat), (∀ w, (Instr.slice 24 (.slice A2 m c2) (some (.int .i64 (k : Int))) none none).run Try.prog w = .ok (.slice SA (m - k) sc) w) ∧ (k < m → ∀ b off, A2 = some ⟨b, off, none⟩ → SA = some ⟨b, off + k * 2, none⟩) := by
  have hsz : ∀ w, (sizeOf 45).run Try.prog w = .ok 2 w := fun w => by simp [sizeOf, go_sem]; rfl
  cases A2 with
  | none =>
    refine ⟨none, c2 - k, fun w => ?_, fun _ b off e => by cases e⟩
    simp [go_sem, hsz]
    omega
  | some a =>
    obtain ⟨b, o, p⟩ := a
    by_cases e : c2 = k
    · subst e
      obtain rfl : m = c2 := by omega
      refine ⟨some ⟨b, o, p⟩, 0, fun w => ?_, fun h => by omega⟩
      simp [go_sem, hsz]
    · refine ⟨some ((⟨b, o, p⟩ : Addr).add (k * 2)), c2 - k, fun w => ?_, fun _ b' off' e => ?_⟩
      · simp [go_sem, hsz, e, hk]
      · simp only [Option.some.injEq, Addr.mk.injEq] at e
        obtain ⟨rfl, rfl, rfl⟩ := e
        simp only [Addr.add]
        split
        · rename_i h
          rw [h]
          rfl
        · rfl
theorem steps_from_rd {w0 : World} {B : Nat} {ss : List (Int × Int)} (A2 : Option Addr) (m c2 k : Nat) (hk : k ≤ m) (hc : m ≤ c2) (h : RdQ w0 B A2 m ss) : ∃ (SA : Option Addr) (sc : Nat), (∀ w, (Instr.slice 24 (.slice A2 m c2) (some (.int .i64 (k : Int))) none none).run Try.prog w = .ok (.slice SA (m - k) sc) w) ∧ RdQ w0 B SA (m - k) (ss.drop k) := by
  obtain ⟨SA, sc, h1, h2⟩ := steps_from A2 m c2 k hk hc
  refine ⟨SA, sc, h1, ?_⟩
  by_cases hlt : k < m
  · obtain ⟨b, off, e, _, _⟩ := h.2 (by omega)
    rw [h2 hlt b off e]
    rw [e] at h
    exact h.drop hk
  · refine ⟨by rw [List.length_drop, h.1], fun hn => by omega⟩
end Go.Proofs.Ytdbkoicbhddpfaa
