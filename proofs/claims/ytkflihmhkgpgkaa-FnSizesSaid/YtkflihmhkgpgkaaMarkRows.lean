/- The laws' marks in slices of slices of integers of the call's own, and looking at them. Condition: lengths up to 1048576, not more than 4194304 marks. -/
import Derived.Test.YtkflihmhkgpgkaaRdR
namespace Go.Proofs.Ytkflihmhkgpgkaa
open Go.RowKit

/-- Rows of these lengths, marked from k on. -/
def markRows (k : Int) : List Nat → List (List Int)
  | [] => []
  | n :: ns => marks k n :: markRows (k + n) ns
def sumL (ns : List Nat) : Nat := ns.foldr (· + ·) 0
theorem sumL_take_succ {ns : List Nat} {i : Nat} (h : i < ns.length) : sumL (ns.take (i + 1)) = sumL (ns.take i) + ns[i] := by
  induction ns generalizing i with
  | nil => simp at h
  | cons n ns ih =>
    cases i with
    | zero => simp [sumL]
    | succ i =>
      have hi : i < ns.length := by simpa using h
      have := ih (i := i) hi
      simp only [List.take_succ_cons, List.getElem_cons_succ]
      show n + sumL (ns.take (i + 1)) = n + sumL (ns.take i) + ns[i]
      omega
theorem sumL_take_le (ns : List Nat) (i : Nat) : sumL (ns.take i) ≤ sumL ns := by
  induction ns generalizing i with
  | nil => simp [sumL]
  | cons n ns ih =>
    cases i with
    | zero => simp [sumL]
    | succ i =>
      show n + sumL (ns.take i) ≤ n + sumL ns
      have := ih i
      omega
theorem markRows_len (k : Int) (ns : List Nat) : (markRows k ns).length = ns.length := by
  induction ns generalizing k with
  | nil => rfl
  | cons n ns ih => simp [markRows, ih]
theorem markRows_get {k : Int} {ns : List Nat} {i : Nat} (h : i < ns.length) : (markRows k ns)[i]?.getD [] = marks (k + sumL (ns.take i)) ns[i] := by
  induction ns generalizing k i with
  | nil => simp at h
  | cons n ns ih =>
    cases i with
    | zero => simp [markRows, sumL]
    | succ i =>
      have := ih (k := k + n) (i := i) (by simpa using h)
      simp only [markRows, List.getElem?_cons_succ, List.take_succ_cons, List.getElem_cons_succ]
      rw [this]
      congr 1
      show k + (n : Int) + (sumL (ns.take i) : Int) = k + ((n + sumL (ns.take i) : Nat) : Int)
      omega
def lens (zss : List (List Int)) : List Nat := zss.map List.length
theorem lens_len (zss : List (List Int)) : (lens zss).length = zss.length := by simp [lens]
theorem lens_get {zss : List (List Int)} {i : Nat} (h : i < zss.length) : (lens zss)[i]'(by simpa [lens] using h) = (zss[i]?.getD []).length := by simp [lens, h]

/-- The rows up to i marked, the others as they were. -/
def mixRows (k : Int) (zss : List (List Int)) (i : Nat) : List (List Int) := (markRows k (lens zss)).take i ++ zss.drop i
theorem mixRows_len (k : Int) (zss : List (List Int)) (i : Nat) : (mixRows k zss i).length = zss.length := by
  unfold mixRows
  have := markRows_len k (lens zss)
  rw [lens_len] at this
  simp [this]
  omega
theorem mixRows_get {k : Int} {zss : List (List Int)} {i j : Nat} (hj : j < zss.length) : (mixRows k zss i)[j]?.getD [] = if j < i then (markRows k (lens zss))[j]?.getD [] else zss[j]?.getD [] := by
  have hl := markRows_len k (lens zss)
  rw [lens_len] at hl
  unfold mixRows
  by_cases h : j < i
  · rw [if_pos h, List.getElem?_append_left (by simp [hl]; omega), List.getElem?_take_of_lt h]
  · rw [if_neg h, List.getElem?_append_right (by simp [hl]; omega), List.length_take, hl, List.getElem?_drop]
    congr 2
    omega
theorem mixRows_zero (k : Int) (zss : List (List Int)) : mixRows k zss 0 = zss := by simp [mixRows]
theorem mixRows_all (k : Int) (zss : List (List Int)) : mixRows k zss zss.length = markRows k (lens zss) := by
  have hl := markRows_len k (lens zss)
  rw [lens_len] at hl
  simp [mixRows, ← hl]

/-- One row has turned. -/
theorem OwnRows.turned {w w' : World} {base i : Nat} {v c : Value} {vs : List Value} {xss yss : List (List Int)} (h : OwnRows w base v vs xss) (hi : vs[i]? = some c) (hl : yss.length = xss.length) (hc : Own w' base c (yss[i]?.getD [])) (hg : w.grownBy w' c.ownBlock)
    (hsame : ∀ j, j < xss.length → j ≠ i → yss[j]?.getD [] = xss[j]?.getD []) : OwnRows w' base v vs yss := by
  have hin := (List.getElem?_eq_some_iff.1 hi).1
  have hcv := h.apart c (List.mem_of_getElem? hi)
  refine ⟨World.ownsRow.kept h.row hg ?_, by rw [hl]; exact h.len, fun j d hd => ?_, h.apart, h.apart2⟩
  · cases hb : v.ownBlock with
    | none => exact .inl rfl
    | some g =>
      refine .inr fun e => ?_
      rcases hcv with hcv | hcv
      · rw [hcv] at e; cases e
      · exact hcv (e.symm.trans hb.symm)
  · by_cases e : j = i
    · subst e
      rw [hi] at hd
      injection hd with hd
      subst hd
      exact hc
    · have hj := (List.getElem?_eq_some_iff.1 hd).1
      rw [hsame j (by rw [← h.len]; exact hj) e]
      refine (h.each j d hd).kept hg ?_
      have hp := List.pairwise_iff_getElem.1 h.apart2
      have e1 := (List.getElem?_eq_some_iff.1 hd).2
      have e2 := (List.getElem?_eq_some_iff.1 hi).2
      rcases Nat.lt_or_gt_of_ne e with hlt | hlt
      · have := hp j i hj hin hlt
        rwa [e1, e2] at this
      · have := hp i j hin hj hlt
        rw [e1, e2] at this
        rcases this with h0 | h0
        · cases hb : d.ownBlock with
          | none => exact .inl rfl
          | some g => exact .inr (by rw [h0]; simp)
        · exact .inr (Ne.symm h0)

set_option maxHeartbeats 1600000 in
theorem markIntSS_any (v : Value) (vs : List Value) (k : Int) (zss : List (List Int)) (base : Nat) (w : World) (h : OwnRows w base v vs zss) (hb : zss.length ≤ 1048576) (hl : ∀ zs ∈ zss, zs.length ≤ 1048576) (hk0 : 0 ≤ k) (hk1 : k + sumL (lens zss) ≤ 4194304) (hB : base ≤ w.heap.size) :
    Calls Try.prog 71 #[v, .int .i64 k] w fun e w' => e = .returned (.int .i64 (k + sumL (lens zss))) ∧ OwnRows w' base v vs (markRows k (lens zss)) ∧ Below base w w' := by
  obtain ⟨n, hn⟩ : ∃ n, n = zss.length := ⟨_, rfl⟩
  have hvl := h.len
  obtain ⟨A, c, rfl, _⟩ := h.form hl
  rw [← hn] at h hb hvl
  rw [← hn]
  have HN := Lib.hid hn
  have HVL := Lib.hid hvl
  have HS : Hid (∀ i, i < n → ∃ zs cv, vs[i]? = some cv ∧ zss[i]?.getD [] = zs ∧ zs.length ≤ 1048576) := fun i hi => ⟨_, vs[i]'(by omega), by simp [show i < vs.length by omega], rfl, by
    have hi' : i < zss.length := by omega
    rw [List.getElem?_eq_getElem hi']
    exact hl _ (List.getElem_mem hi')⟩
  have H0 := Lib.hid (show OwnRows w base (.slice A n c) vs (mixRows k zss 0) by rw [mixRows_zero]; exact h)
  have HK := Lib.hid hk1
  clear hn hvl h hl hk1
  go_enter Try.func71, Try.ntmps71
  go_wp2
  go_loopw [1, 5] (fun q i wr => ∃ j : Nat, j ≤ n ∧ i = .int .i64 j ∧ q = .int .i64 (k + sumL ((lens zss).take j)) ∧ Hid (OwnRows wr base (.slice A n c) vs (mixRows k zss j)) ∧ Below base w wr) (fun _ i _ => n - (intOf i).toNat)
  case atStart => exact ⟨0, Nat.zero_le _, rfl, by simp [sumL], H0, Below.refl _ _⟩
  case round =>
    obtain ⟨j, hj, rfl, rfl, HO, hbe⟩ := hrel
    clear H0
    by_cases hlt : j < n
    · obtain ⟨zs, cv, hcv, hzs, hzl⟩ := HS.out j hlt
      have ho := HO.out
      have hnz := HN.out
      have hmix : (mixRows k zss j)[j]?.getD [] = zs := by rw [mixRows_get (by omega), if_neg (by omega)]; exact hzs
      have hrow := ho.each j cv hcv
      rw [hmix] at hrow
      have hlj : (lens zss)[j]'(by rw [lens_len]; omega) = zs.length := by rw [lens_get (by omega), hzs]
      have hsum := sumL_take_succ (ns := lens zss) (i := j) (by rw [lens_len]; omega)
      rw [hlj] at hsum
      have hsle := sumL_take_le (lens zss) (j + 1)
      have hk1 := HK.out
      have hcell : ∃ b off, A = some ⟨b, off, none⟩ ∧ wr.cell? ⟨b, off + j, none⟩ = some cv := by
        rcases ho.row.2 with ⟨hv, hx⟩ | ⟨g, cap, cur, hv, _⟩
        · have := HVL.out; omega
        · have e := ho.row.cells (g := g) (by rw [hv]; rfl) j cv hcv
          rw [add_zero_at] at e
          injection hv with hv
          exact ⟨g, 0, hv, e⟩
      obtain ⟨b, off, rfl, g1⟩ := hcell
      have M := markIntS_any cv (k + sumL ((lens zss).take j)) zs base wr hrow hzl (by omega) (by omega)
      have HT : Hid (∀ w', Own w' base cv (marks (k + sumL ((lens zss).take j)) zs.length) → wr.grownBy w' cv.ownBlock → OwnRows w' base (.slice (some ⟨b, off, none⟩) n c) vs (mixRows k zss (j + 1)) ∧ Below base w w') := fun w' h1 h2 => by
        refine ⟨ho.turned hcv (by rw [mixRows_len, mixRows_len]) ?_ h2 fun x hx hne => ?_, hbe.grown h2 (Nat.le_trans hB hbe.size) fun r e => (hrow.blockOf r e).1⟩
        · rw [mixRows_get (by omega), if_pos (by omega), markRows_get (by rw [lens_len]; omega), hlj]
          exact h1
        · rw [mixRows_len] at hx
          rw [mixRows_get hx, mixRows_get hx]
          by_cases hxj : x < j
          · rw [if_pos (by omega), if_pos hxj]
          · rw [if_neg (by omega), if_neg hxj]
      have HSUM := Lib.hid hsum
      have M := Lib.hid M
      obtain ⟨A3, c3, rfl, _⟩ := hrow.form
      clear hcv hzs hmix hrow hlj hsum hsle hk1 ho hnz HO
      go_wp2_with fail
      refine M.out.mono ?_
      rintro e w' ⟨rfl, h1, h2⟩
      obtain ⟨h3, h4⟩ := HT.out w' h1 h2
      have H3 := Lib.hid h3
      clear h1 h2 h3
      go_wp2_with fail
      go_roundw
      case rel => exact ⟨j + 1, by omega, by go_num, by rw [HSUM.out]; go_num, H3, h4⟩
      case measure => simp [intOf]; omega
    · obtain rfl : j = n := by omega
      have ho := HO.out
      have hn := HN.out
      rw [hn, mixRows_all] at ho
      rw [← hn] at ho
      have hfin : sumL ((lens zss).take j) = sumL (lens zss) := by rw [hn, ← lens_len, List.take_length]
      have HF := Lib.hid hfin
      have HO := Lib.hid ho
      clear ho hn hfin
      go_wp2
      go_ret
      exact ⟨ret_int (by rw [HF.out]), HO.out, hbe⟩

set_option maxHeartbeats 1600000 in
theorem heldIntSS_any (A : Option Addr) (n c B : Nat) (k : Int) (ns : List Nat) (w : World) (h : RdR w B A n (markRows k ns)) (hb : n ≤ 1048576) (hk0 : 0 ≤ k) (hk1 : k + sumL ns ≤ 4194304) :
    Calls Try.prog 72 #[.slice A n c, .int .i64 k] w fun e w' => e = .returned (.int .i64 (k + sumL ns)) ∧ ∃ n, w' = w.drewN n := by
  have hnl : ns.length = n := by rw [← markRows_len k ns]; exact h.1
  have HN := Lib.hid hnl
  have HK := Lib.hid hk1
  clear hnl hk1
  go_enter Try.func72, Try.ntmps72
  go_wp2
  go_loopw [1, 5] (fun q i wr => ∃ j : Nat, j ≤ n ∧ i = .int .i64 j ∧ q = .int .i64 (k + sumL (ns.take j)) ∧ Hid (∃ m, wr = w.drewN m)) (fun _ i _ => n - (intOf i).toNat)
  case atStart => exact ⟨0, Nat.zero_le _, rfl, by simp [sumL], ⟨0, rfl⟩⟩
  case round =>
    obtain ⟨j, hj, rfl, rfl, HW⟩ := hrel
    by_cases hlt : j < n
    · obtain ⟨b, off, rfl, _, hc1⟩ := h.2 (by omega)
      obtain ⟨A3, n3, c3, g1, r1, b3⟩ := hc1 j hlt
      have hnl := HN.out
      have hold : ∀ a, wr.cell? a = w.cell? a := by obtain ⟨m, e⟩ := HW.out; intro a; rw [e]; rfl
      rw [← hold] at g1
      rw [markRows_get (by omega)] at r1
      have hn3 : ns[j] = n3 := by have := r1.1; rw [marks_len] at this; exact this
      rw [hn3] at r1
      have hsum := sumL_take_succ (ns := ns) (i := j) (by omega)
      rw [hn3] at hsum
      have hsle := sumL_take_le ns (j + 1)
      have hk1 := HK.out
      have r2 : Rd wr B A3 n3 (marks (k + sumL (ns.take j)) n3) := by obtain ⟨m, e⟩ := HW.out; rw [e]; exact r1
      have M := Lib.hid (heldIntS_any A3 n3 c3 B (k + sumL (ns.take j)) wr r2 b3 (by omega) (by omega))
      have HSUM := Lib.hid hsum
      have hnn : ¬ (k + (sumL (ns.take j) : Int) + (n3 : Int) < 0) := by omega
      clear hc1 hold r1 r2 hn3 hsum hsle hk1 hnl
      go_wp2_with fail
      refine M.out.mono ?_
      rintro e w' ⟨rfl, q, rfl⟩
      have HW2 := Lib.hid (drew_chain HW.out q)
      go_wp2_with fail
      go_roundw
      case rel => exact ⟨j + 1, by omega, by go_num, by rw [HSUM.out]; go_num, HW2⟩
      case measure => simp [intOf]; omega
    · obtain rfl : j = n := by omega
      have hfin : ns.take j = ns := by rw [List.take_of_length_le (by have := HN.out; omega)]
      have HF := Lib.hid hfin
      clear hfin
      go_wp2
      go_ret
      exact ⟨ret_int (by rw [HF.out]), HW.out⟩
end Go.Proofs.Ytkflihmhkgpgkaa
