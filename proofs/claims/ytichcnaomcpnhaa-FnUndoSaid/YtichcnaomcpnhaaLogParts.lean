/- The log of the first pairs is the beginning of the log of all, as plain lists; slices of pairs from the start. Condition: none. -/
import Derived.Test.YtichcnaomcpnhaaBackTo
import Derived.Test.YtichcnaomcpnhaaLr
import Derived.Test.YtichcnaomcpnhaaLogs
import Derived.Test.YtichcnaomcpnhaaPairs
namespace Go.Proofs.Ytichcnaomcpnhaa
open Go.RowKit Go.Shelf

theorem stepsTo_app (rs : List (Nat × Nat)) : ∀ (ps : List (Nat × Nat)) (u : List Int) (ss : List (Int × Int)), stepsTo u (ps ++ rs) ss = stepsTo (allL u 1 ps) rs (stepsTo u ps ss)
  | [], _, _ => rfl
  | p :: ps, u, ss => stepsTo_app rs ps (joinL u 1 p.1 p.2) (joinSt u p.1 p.2 ss)
theorem stepsTo_ext : ∀ (ps : List (Nat × Nat)) (u : List Int) (ss : List (Int × Int)), ∃ t, stepsTo u ps ss = ss ++ t
  | [], _, ss => ⟨[], by simp [stepsTo]⟩
  | p :: ps, u, ss => by
    obtain ⟨t, ht⟩ := stepsTo_ext ps (joinL u 1 p.1 p.2) (joinSt u p.1 p.2 ss)
    have e : stepsTo u (p :: ps) ss = stepsTo (joinL u 1 p.1 p.2) ps (joinSt u p.1 p.2 ss) := rfl
    rw [e, ht]
    unfold joinSt
    split
    · exact ⟨t, rfl⟩
    · exact ⟨((stR u p.1 p.2 : Int), (stT u p.1 p.2 : Int)) :: t, by simp⟩
theorem lg_yes {n : Int} {qs : List (Int × Int)} (h : logB n qs = true) : logUp n qs = allL (roots n.toNat) 1 (natP qs) ∧ logSteps n qs = stepsTo (roots n.toNat) (natP qs) [] := by
  unfold logUp logSteps
  rw [if_pos h, if_pos h]
  exact ⟨rfl, rfl⟩
theorem lg_no {n : Int} {qs : List (Int × Int)} (h : logB n qs = false) : logUp n qs = [] ∧ logSteps n qs = [] := by
  unfold logUp logSteps
  rw [h]
  exact ⟨rfl, rfl⟩
theorem okQ_first {n : Int} {qs : List (Int × Int)} (h : okQ n qs = true) (k : Nat) : okQ n (qs.take k) = true := by
  obtain ⟨h1, h2⟩ := okQ_parts h
  exact okQ_of (by rw [List.length_take]; omega) fun p hp => h2 p (List.mem_of_mem_take hp)
/-- The log of pairs is valid. -/
theorem lg_valid {n : Int} {qs : List (Int × Int)} (h : logB n qs = true) : logV (logUp n qs) (logSteps n qs) = true ∧ (logUp n qs).length = n.toNat := by
  obtain ⟨hn, hk⟩ := usB_parts h
  obtain ⟨n, rfl⟩ : ∃ x : Nat, n = x := ⟨n.toNat, by omega⟩
  obtain ⟨e1, e2⟩ := lg_yes h
  have hl : (logUp (n : Int) qs).length = n := by rw [e1, allL_len, roots_len, Int.toNat_natCast]
  have hin := okQ_in hk
  refine ⟨logV_of (by rw [hl]; omega) ?_, hl⟩
  rw [hl, e1, e2, Int.toNat_natCast]
  exact built_all (roots_fv (by omega) (by omega)) (by rw [roots_len]; exact hin) rfl
/-- The log of the first k pairs: going back from the log of all. -/
theorem lg_first {n : Int} {qs : List (Int × Int)} (h : logB n qs = true) (k : Nat) :
    logB n (qs.take k) = true ∧ (logSteps n (qs.take k)).length ≤ (logSteps n qs).length ∧ bkB (logUp n qs) (logSteps n qs) ((logSteps n (qs.take k)).length : Int) = true ∧ bkUp (logUp n qs) (logSteps n qs) ((logSteps n (qs.take k)).length : Int) = logUp n (qs.take k) ∧ bkSt (logUp n qs) (logSteps n qs) ((logSteps n (qs.take k)).length : Int) = logSteps n (qs.take k) := by
  obtain ⟨hn, hk⟩ := usB_parts h
  have h1 : logB n (qs.take k) = true := usB_of hn (okQ_first hk k)
  obtain ⟨hv, hl⟩ := lg_valid h
  obtain ⟨hv1, hl1⟩ := lg_valid h1
  have e2 := (lg_yes h).2
  have e3 := (lg_yes h1).2
  obtain ⟨t, ht⟩ := stepsTo_ext ((natP qs).drop k) (allL (roots n.toNat) 1 ((natP qs).take k)) (logSteps n (qs.take k))
  have hs : logSteps n qs = logSteps n (qs.take k) ++ t := by
    rw [← ht, e2, e3, natP_take]
    have := stepsTo_app ((natP qs).drop k) ((natP qs).take k) (roots n.toNat) []
    rw [List.take_append_drop] at this
    exact this
  have hle : (logSteps n (qs.take k)).length ≤ (logSteps n qs).length := by rw [hs, List.length_append]; omega
  have htk : (logSteps n qs).take (logSteps n (qs.take k)).length = logSteps n (qs.take k) := by rw [hs, List.take_left]
  have hb : builtL (roots (logUp n qs).length) ((logSteps n qs).take (logSteps n (qs.take k)).length) = some (logUp n (qs.take k)) := by
    rw [htk, hl, ← hl1]
    exact (logV_parts hv1).2.1
  obtain ⟨g0, g1, g2⟩ := bk_yes hv hle hb
  exact ⟨h1, hle, g0, g1, g2.trans htk⟩
theorem pairs_slice (A2 : Option Addr) (m c2 k : Nat) (hk : k ≤ m) (hc : m ≤ c2) (w : World) : (Instr.slice 61 (.slice A2 m c2) none (some (.int .i64 (k : Int))) none).run Try.prog w = .ok (.slice A2 k c2) w := by
  have hsz : ∀ w, (sizeOf 59).run Try.prog w = .ok 2 w := fun w => by simp [sizeOf, go_sem]; rfl
  cases A2 with
  | none =>
    simp [go_sem, hsz]
    omega
  | some a =>
    obtain ⟨b, o, p⟩ := a
    by_cases h0 : c2 = 0
    · simp [go_sem, hsz, h0]
      omega
    · simp [go_sem, hsz, h0]
      omega
/-- A log that comes back, by its slices. -/
theorem log2_of {P : Program} {f : FuncId} {args : Array Value} {w : World} {us : List Int} {vs : List (Int × Int)} {x : Value} (h : Calls P f args w fun e w' => ∃ v v2, e = .returned (.tuple #[.agg #[v, v2], x]) ∧ Own w' w.heap.size v us ∧ OwnQ 68 w' w.heap.size v2 vs ∧ (∀ x, v.ownBlock = some x → ∀ y, v2.ownBlock = some y → x ≠ y) ∧ Below w.heap.size w w') :
    Calls P f args w fun e w' => ∃ A c A' c', e = .returned (.tuple #[.agg #[.slice A us.length c, .slice A' vs.length c'], x]) ∧ Rd w' w'.heap.size A us.length us ∧ RdQ w' w'.heap.size A' vs.length vs ∧ vs.length ≤ c' ∧ Below w.heap.size w w' :=
  h.mono fun _ _ ⟨v, v2, a, o, q, _, b⟩ => by
    obtain ⟨A, c, rfl, r⟩ := o.form
    obtain ⟨A', c', rfl, r', hc⟩ := OwnQ.form2 q
    exact ⟨A, c, A', c', a, r, r', hc, b⟩
theorem log2_of' {P : Program} {f : FuncId} {args : Array Value} {w : World} {us : List Int} {vs : List (Int × Int)} {x : Value} (h : Calls P f args w fun e w' => ∃ v v2, e = .returned (.tuple #[.agg #[v, v2], x]) ∧ Own w' w.heap.size v us ∧ OwnQ 68 w' w.heap.size v2 vs ∧ Below w.heap.size w w') :
    Calls P f args w fun e w' => ∃ A c A' c', e = .returned (.tuple #[.agg #[.slice A us.length c, .slice A' vs.length c'], x]) ∧ Rd w' w'.heap.size A us.length us ∧ RdQ w' w'.heap.size A' vs.length vs ∧ vs.length ≤ c' ∧ Below w.heap.size w w' :=
  h.mono fun _ _ ⟨v, v2, a, o, q, b⟩ => by
    obtain ⟨A, c, rfl, r⟩ := o.form
    obtain ⟨A', c', rfl, r', hc⟩ := OwnQ.form2 q
    exact ⟨A, c, A', c', a, r, r', hc, b⟩
/-- Steps of a valid log, of pairs. -/
theorem lg_short {n : Int} {qs : List (Int × Int)} : (logSteps n qs).length ≤ 16 ∧ (logUp n qs).length ≤ 16 := by
  cases h : logB n qs with
  | false =>
    obtain ⟨e1, e2⟩ := lg_no h
    rw [e1, e2]
    exact ⟨by simp, by simp⟩
  | true =>
    obtain ⟨hv, _⟩ := lg_valid h
    obtain ⟨⟨p1, p16⟩, hbu, _⟩ := logV_parts hv
    exact ⟨built_short p1 p16 hbu, p16⟩
end Go.Proofs.Ytichcnaomcpnhaa

namespace Go.Proofs.Ytichcnaomcpnhaa
open Go.RowKit Go.Shelf

set_option maxRecDepth 100000 in
set_option maxHeartbeats 4000000 in
theorem lrLog_any (A1 A2 C1 C2 : Option Addr) (n c1 m c2 d1 d2 B1 B2 B3 B4 : Nat) (xs : List Int) (ss : List (Int × Int)) (w : World) (h1 : Rd w B1 A1 n xs) (h2 : RdQ w B2 A2 m ss) (h3 : Rd w B3 C1 n xs) (h4 : RdQ w B4 C2 m ss) (hB : B1 ≤ w.heap.size ∧ B2 ≤ w.heap.size ∧ B3 ≤ w.heap.size ∧ B4 ≤ w.heap.size) (hb : n ≤ 1048576) (hb2 : m ≤ 1048576) :
    Calls Try.prog 12 #[.agg #[.slice A1 n c1, .slice A2 m c2], .agg #[.slice C1 n d1, .slice C2 m d2]] w fun e w' => e = .returned (.bool true) ∧ Below w.heap.size w w' := by
  obtain ⟨W1, hW1⟩ : ∃ W1, W1 = w.alloc (.cells #[.slice A1 n c1, .slice A2 m c2] 26) := ⟨_, rfl⟩
  obtain ⟨W, hW⟩ : ∃ W, W = W1.alloc (.cells #[.slice C1 n d1, .slice C2 m d2] 26) := ⟨_, rfl⟩
  have e1 : W1.heap.size = w.heap.size + 1 := by rw [hW1]; simp
  have eW : W.heap.size = w.heap.size + 2 := by rw [hW]; simp [e1]
  have hA : W1.heap[w.heap.size]? = some (.cells #[.slice A1 n c1, .slice A2 m c2] 26 (0, 0)) := by rw [hW1]; exact World.alloc_heap_new w _
  have hAW : W.heap[w.heap.size]? = some (.cells #[.slice A1 n c1, .slice A2 m c2] 26 (0, 0)) := by rw [hW]; exact (Below.heap_alloc _ _ _ (by omega)).trans hA
  have hCW : W.heap[w.heap.size + 1]? = some (.cells #[.slice C1 n d1, .slice C2 m d2] 26 (0, 0)) := by rw [hW, ← e1]; exact World.alloc_heap_new W1 _
  have hbW : Below w.heap.size w W := by rw [hW, hW1]; exact ((Below.refl _ _).alloc (Nat.le_refl _) _).alloc (by simp) _
  have LS := Lib.hid (lrSame_any A1 C1 n c1 d1 B1 B3 xs W (h1.below hbW hB.1) (h3.below hbW hB.2.2.1) hb)
  have q2 := h2.below hbW hB.2.1
  have q4 := h4.below hbW hB.2.2.2
  obtain ⟨P, hP⟩ : ∃ P, P = w.heap.size := ⟨_, rfl⟩
  obtain ⟨Q, hQ⟩ : ∃ Q, Q = w.heap.size + 1 := ⟨_, rfl⟩
  rw [← hP] at hAW
  rw [← hQ] at hCW
  obtain ⟨⟨a1, a2⟩, _⟩ := boxTwo_cells hAW
  obtain ⟨⟨p1, p2⟩, _⟩ := boxTwo_cells hCW
  have HW := Lib.hid (And.intro hW (And.intro hW1 (And.intro hP (show P + 1 = Q by omega))))
  have HF := Lib.hid hbW
  have HQ := Lib.hid (And.intro q2 q4)
  have hnm : ((m : Int) != (m : Int)) = false := by simp
  clear h1 h2 h3 h4 hB hb hW1 hW e1 eW hA hAW hCW hbW q2 q4 hP hQ
  go_enter Try.func12, Try.ntmps12
  go_wp2_with fail
  rw [← HW.out.2.1, ← HW.out.1, ← HW.out.2.2.1]
  rw [HW.out.2.2.2]
  refine LS.out.mono ?_
  rintro e w1 ⟨rfl, j, rfl⟩
  have HB1 := Lib.hid (below_drewN (Below.refl w.heap.size W) j)
  obtain ⟨V, hV⟩ : ∃ V, V = W.drewN j := ⟨_, rfl⟩
  have a1 : V.cell? ⟨P, 0, none⟩ = some (.slice A1 n c1) := by rw [hV]; exact a1
  have a2 : V.cell? ⟨P, 1, none⟩ = some (.slice A2 m c2) := by rw [hV]; exact a2
  have p1 : V.cell? ⟨Q, 0, none⟩ = some (.slice C1 n d1) := by rw [hV]; exact p1
  have p2 : V.cell? ⟨Q, 1, none⟩ = some (.slice C2 m d2) := by rw [hV]; exact p2
  have HV := Lib.hid hV
  have HQV : Hid (RdQ V B2 A2 m ss ∧ RdQ V B4 C2 m ss) := by
    show _ ∧ _
    rw [hV]
    exact ⟨HQ.out.1.drewN j, HQ.out.2.drewN j⟩
  rw [← hV]
  clear hV
  go_wp2
  go_loopw [24] (fun i wr => ∃ k q : Nat, k ≤ m ∧ i = .int .i64 k ∧ wr = V.drewN q) (fun i _ => m - (intOf i).toNat)
  case atStart => exact ⟨0, 0, Nat.zero_le _, rfl, rfl⟩
  case round =>
    obtain ⟨k, q, hk, rfl, rfl⟩ := hrel
    by_cases hlt : k < m
    · obtain ⟨b, off, rfl, _, hc1⟩ := HQV.out.1.2 (by omega)
      obtain ⟨b2, off2, rfl, _, hc2⟩ := HQV.out.2.2 (by omega)
      obtain ⟨g1, g2⟩ := hc1 k hlt
      obtain ⟨g3, g4⟩ := hc2 k hlt
      clear hc1 hc2
      generalize (ss[k]?.getD (0, 0)).1 = x at g1 g3
      generalize (ss[k]?.getD (0, 0)).2 = y at g2 g4
      go_wp2
      go_quiet (fail)
      go_wp2
      go_roundw
      case rel => exact ⟨k + 1, _, by omega, by go_num, rfl⟩
      case measure => simp [intOf]; omega
    · obtain rfl : k = m := by omega
      go_wp2
      go_ret
      rw [HV.out]
      exact ⟨rfl, below_drewN (below_drewN HF.out j) q⟩
end Go.Proofs.Ytichcnaomcpnhaa
