/- The draws of grids and of their texts, and the comparison of two lists of texts. Condition: lengths up to 1048576. -/
import Derived.Test.YtecleelcnjhimaaDoorDrawG2
import Derived.Test.YtecleelcnjhimaaDoorGridF
import Derived.Test.YtecleelcnjhimaaDoorCutP
namespace Go.Proofs.YtecleelcnjhimaaDoor
open Go.RowKit Go.Shelf

set_option maxRecDepth 100000 in
set_option maxHeartbeats 2000000 in
theorem lrTexts_any (A1 A2 : Option Addr) (n1 c1 n2 c2 B B' : Nat) (xs ys : List ByteArray) (w : World) (h1 : RdT w B A1 n1 xs) (h2 : RdT w B' A2 n2 ys) (hb : n1 ≤ 1048576) (hb2 : n2 ≤ 1048576) :
    Calls Tryd.prog 18 #[.slice A1 n1 c1, .slice A2 n2 c2] w fun e w' => e = .returned (.bool (decide (xs = ys))) ∧ ∃ n, w' = w.drewN n := by
  have l1 := h1.1
  have l2 := h2.1
  obtain ⟨m0, hm0⟩ : ∃ m0, m0 = min n1 n2 := ⟨_, rfl⟩
  have hmn : min (n1 : Int) (n2 : Int) = (m0 : Int) := by omega
  have HL : Hid (m0 ≤ n1 ∧ m0 ≤ n2 ∧ (m0 = n1 ∨ m0 = n2)) := by show _ ∧ _; omega
  have HN := Lib.hid (And.intro l1 l2)
  clear l1 l2 hm0
  go_enter Tryd.func18, Tryd.ntmps18
  go_wp2
  go_loopw [11] (fun i wr => ∃ k m : Nat, k ≤ m0 ∧ i = .int .i64 k ∧ xs.take k = ys.take k ∧ wr = w.drewN m) (fun i _ => m0 - (intOf i).toNat)
  case atStart => exact ⟨0, 0, Nat.zero_le _, rfl, by simp, rfl⟩
  case round =>
    obtain ⟨k, m, hk, rfl, ht, rfl⟩ := hrel
    have hk1 : k ≤ n1 ∧ k ≤ n2 ∧ m0 ≤ 1048576 := by have := HL.out; omega
    by_cases hlt : k < m0
    · have hl1 : k < n1 := by have := HL.out; omega
      have hl2 : k < n2 := by have := HL.out; omega
      have hx1 : k < xs.length := by have := HN.out; omega
      have hx2 : k < ys.length := by have := HN.out; omega
      obtain ⟨b, off, rfl, _, hc1⟩ := h1.2 (by omega)
      obtain ⟨b2, off2, rfl, _, hc2⟩ := h2.2 (by omega)
      have g1 := hc1 k hl1
      have g2 := hc2 k hl2
      have hkk : (k : Int) < (m0 : Int) := by omega
      clear hc1 hc2
      by_cases he : xs[k]?.getD ByteArray.empty = ys[k]?.getD ByteArray.empty
      · have hs := take_succ_eqT ht hx1 hx2 he
        have H := Lib.hid hs
        clear hs ht hx1 hx2
        revert g1 g2 he
        generalize xs[k]?.getD ByteArray.empty = s
        generalize ys[k]?.getD ByteArray.empty = t
        intro g1 g2 he
        subst he
        have hne : (s.toList == s.toList) = true := by simp
        go_wp2
        go_quiet (fail)
        go_wp2
        go_roundw
        case rel => exact ⟨k + 1, _, by omega, by go_num, H.out, rfl⟩
        case measure => simp [intOf]; omega
      · have hf : decide (xs = ys) = false := by simp; exact ne_of_getT he
        have H := Lib.hid hf
        clear hf ht hx1 hx2
        revert g1 g2 he
        generalize xs[k]?.getD ByteArray.empty = s
        generalize ys[k]?.getD ByteArray.empty = t
        intro g1 g2 he
        have hne : (s.toList == t.toList) = false := beq_eq_false_iff_ne.2 fun e => he (bytes_ext e)
        clear he
        go_wp2
        go_quiet (fail)
        go_wp2
        go_ret
        exact ⟨ret_bool H.out.symm, _, World.drewN_drewN _ _ _⟩
    · obtain rfl : k = m0 := by omega
      have H : Hid (((n1 : Int) == (n2 : Int)) = decide (xs = ys)) := by
        show _ = _
        have hn := HN.out
        have hl := HL.out
        by_cases e : n1 = n2
        · subst e
          rw [decide_eq_true (eq_of_takeT ht (by omega) (by omega))]
          simp
        · rw [decide_eq_false (fun h => e (by rw [← hn.1, ← hn.2, h]))]
          simp
          omega
      have hkk : ¬ (k : Int) < (k : Int) := by omega
      clear ht
      go_wp2
      go_ret
      exact ⟨ret_bool H.out, _, rfl⟩

set_option maxRecDepth 100000 in
theorem drawFG_any (A : Option Addr) (n c B : Nat) (bs : List Int) (w : World) (h : Bt w B A n bs) (hB : B ≤ w.heap.size) (hc : n ≤ c) :
    Calls Tryd.prog 9 #[.slice A n c] w fun e w' => ∃ v zs, e = .returned v ∧ OwnT w' w.heap.size v zs ∧ zs.length ≤ 7 ∧ (∀ x ∈ zs, x.size ≤ 20) ∧ Below w.heap.size w w' := by
  have O := Lib.hid (open_any A n c B bs w h hB hc)
  clear h
  go_enter Tryd.func9, Tryd.ntmps9
  go_wp2_with fail
  refine O.out.mono ?_
  rintro e w1 ⟨rfl, hs1, hb1⟩
  have P := Lib.hid (l8Some_any w.heap.size 0 w1 hs1 (by omega))
  have hsz := hb1.size
  go_wp2_with fail
  refine P.out.mono ?_
  rintro e w2 ⟨v, zs, rfl, ho, hl, hx, _, hg⟩
  have hb2 := below_of_grown hb1 hg
  clear hs1 hb1 hg
  go_wp2_with fail
  go_ret
  exact ⟨_, zs, rfl, ho.less hsz, hl, hx, hb2⟩

set_option maxRecDepth 100000 in
theorem drawTG_any (A : Option Addr) (n c B : Nat) (bs : List Int) (w : World) (h : Bt w B A n bs) (hB : B ≤ w.heap.size) (hc : n ≤ c) :
    Calls Tryd.prog 12 #[.slice A n c] w fun e w' => ∃ v zs, e = .returned v ∧ OwnT w' w.heap.size v zs ∧ zs.length ≤ 7 ∧ (∀ x ∈ zs, x.size ≤ 20) ∧ Below w.heap.size w w' := by
  have O := Lib.hid (open_any A n c B bs w h hB hc)
  clear h
  go_enter Tryd.func12, Tryd.ntmps12
  go_wp2_with fail
  refine O.out.mono ?_
  rintro e w1 ⟨rfl, hs1, hb1⟩
  have P := Lib.hid (l8Some_any w.heap.size 0 w1 hs1 (by omega))
  have hsz := hb1.size
  go_wp2_with fail
  refine P.out.mono ?_
  rintro e w2 ⟨v, zs, rfl, ho, hl, hx, _, hg⟩
  have hb2 := below_of_grown hb1 hg
  clear hs1 hb1 hg
  go_wp2_with fail
  go_ret
  exact ⟨_, zs, rfl, ho.less hsz, hl, hx, hb2⟩

set_option maxRecDepth 100000 in
theorem drawGV_any (A : Option Addr) (n c B : Nat) (bs : List Int) (w : World) (h : Bt w B A n bs) (hB : B ≤ w.heap.size) (hc : n ≤ c) :
    Calls Tryd.prog 15 #[.slice A n c] w fun e w' => ∃ v zs, e = .returned v ∧ OwnT w' w.heap.size v zs ∧ zs.length ≤ 7 ∧ (∀ x ∈ zs, x.size ≤ 20) ∧ Below w.heap.size w w' := by
  have O := Lib.hid (open_any A n c B bs w h hB hc)
  clear h
  go_enter Tryd.func15, Tryd.ntmps15
  go_wp2_with fail
  refine O.out.mono ?_
  rintro e w1 ⟨rfl, hs1, hb1⟩
  have P := Lib.hid (l8Some_any w.heap.size 0 w1 hs1 (by omega))
  have hsz := hb1.size
  go_wp2_with fail
  refine P.out.mono ?_
  rintro e w2 ⟨v, zs, rfl, ho, hl, hx, _, hg⟩
  have hb2 := below_of_grown hb1 hg
  clear hs1 hb1 hg
  go_wp2_with fail
  go_ret
  exact ⟨_, zs, rfl, ho.less hsz, hl, hx, hb2⟩

theorem fmtN_size {xs : List ByteArray} (h : gvB xs = true) : 1 ≤ (fmtN xs).size ∧ (fmtN xs).size ≤ 42 := by
  obtain ⟨⟨h1, h6⟩, ⟨g1, g6⟩, hr⟩ := gv_parts h
  rw [fmtN_yes h]
  refine ⟨?_, ?_⟩
  · obtain ⟨k, hk⟩ : ∃ k, xs.length = k + 1 := ⟨xs.length - 1, by omega⟩
    rw [hk, fmtTo, ByteArray.size_append]
    have hkl : k < xs.length := by omega
    have := (hr xs[k] (List.getElem_mem hkl)).1
    rw [List.getElem?_eq_getElem hkl, Option.getD_some]
    omega
  · have := fmtTo_size (xs := xs) (fun k hk => by
      rw [List.getElem?_eq_getElem hk, Option.getD_some]
      have := (hr xs[k] (List.getElem_mem hk)).1
      omega) xs.length (Nat.le_refl _)
    omega
theorem cut_to {s : ByteArray} {k : Nat} (h : k ≤ s.size) (w : World) : (Instr.slice 9 (.string s) none (some (.int .i64 (k : Int))) none).run Tryd.prog w = .ok (.string (s.extract 0 k)) w := by
  have := run_slice_string_h (P := Tryd.prog) (w := w) 9 s Tryd.underlying9 .i64 (k : Int) (by omega) (by omega)
  simpa using this
theorem cut_on {s : ByteArray} {k : Nat} (h : k ≤ s.size) (w : World) : (Instr.slice 9 (.string s) (some (.int .i64 (k : Int))) none none).run Tryd.prog w = .ok (.string (s.extract k s.size)) w := by
  have := run_slice_string_l (P := Tryd.prog) (w := w) 9 s Tryd.underlying9 .i64 (k : Int) (by omega) (by omega)
  simpa using this
end Go.Proofs.YtecleelcnjhimaaDoor
