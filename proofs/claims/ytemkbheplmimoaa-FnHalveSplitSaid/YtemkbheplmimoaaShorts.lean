/- The four functions that shorten: each changes the forest as its way of looking says. Conditions: the nodes lie in one block; the forest is valid. -/
import Derived.Test.YtemkbheplmimoaaShort
namespace Go.Proofs.Ytemkbheplmimoaa
open Go.RowKit Go.Shelf

theorem RdP.chg {w w' : World} {S : Nat → Prop} {base B N n : Nat} {A : Option Addr} {xs : List Nat} (h : RdP w base B N A n xs) (hc : Chg S w w') (hB : B ≤ w.heap.size) (hS : ∀ i, S i → i < base) : RdP w' base B N A n xs :=
  ⟨h.1, fun hn => by
    obtain ⟨b, off, e, ⟨h1, h2⟩, hcell⟩ := h.2 hn
    exact ⟨b, off, e, ⟨h1, h2⟩, fun k hk => (hc.cell (p := ⟨b, off + k, none⟩) (by show b < _; omega) (fun hs => absurd (hS b hs) (by omega))).trans (hcell k hk)⟩⟩

theorem bare_any (N x n c : Nat) (A : Option Addr) (pre : List Nat) (u : List Int) (w : World) (hN : Nd w N u) :
    Calls Try.prog 149 #[.pointer (some (nadr N x)), .slice A n c] w fun e w' => (∃ v, e = .returned v) ∧ Nd w' N (bareAt u pre x) ∧ Chg (fun b => b = N) w w' := by
  have HN := Lib.hid hN
  clear hN
  go_enter Try.func149, Try.ntmps149
  go_wp2
  go_end0
  exact ⟨⟨_, rfl⟩, HN.out, Chg.refl _ _⟩

set_option maxRecDepth 100000 in
set_option maxHeartbeats 1000000 in
theorem halve_any (N x n c : Nat) (A : Option Addr) (pre : List Nat) (u : List Int) (w : World) (hN : Nd w N u) (hv : fvB u = true) (hx : x < u.length) :
    Calls Try.prog 151 #[.pointer (some (nadr N x)), .slice A n c] w fun e w' => (∃ v, e = .returned v) ∧ Nd w' N (halveAt u pre x) ∧ Chg (fun b => b = N) w w' := by
  obtain ⟨_, c2, c3⟩ := hN.cells hx
  cases hs : step u x with
  | none =>
    have HR := Lib.hid (halve_root hs pre)
    have HN := Lib.hid hN
    rw [hs, Option.map_none] at c2
    clear hN hs
    unfold nadr
    go_enter Try.func151, Try.ntmps151
    go_wp2
    go_end0
    exact ⟨⟨_, rfl⟩, by rw [HR.out]; exact HN.out, Chg.refl _ _⟩
  | some y =>
    have hy := path_step_lt (fv_in hv) hx hs
    obtain ⟨_, d2, _⟩ := hN.cells hy
    rw [hs, Option.map_some] at c2
    cases hs2 : step u y with
    | none =>
      have HR := Lib.hid (halve_eq_one hs hs2 pre)
      have HN := Lib.hid hN
      rw [hs2, Option.map_none] at d2
      clear hN hs hs2
      unfold nadr at c2 ⊢
      go_enter Try.func151, Try.ntmps151
      go_wp2
      go_end0
      exact ⟨⟨_, rfl⟩, by rw [HR.out]; exact HN.out, Chg.refl _ _⟩
    | some z =>
      have HR := Lib.hid (halve_eq_two hs hs2 pre)
      have hne := (ab_up hv hx (ab_trans (ab_one hs) (ab_one hs2))).ne
      have HN := Lib.hid (hN.hang hx hne)
      rw [hs2, Option.map_some] at d2
      clear hN hs hs2
      unfold nadr at c2 d2 HN ⊢
      go_enter Try.func151, Try.ntmps151
      go_wp2
      go_end0
      exact ⟨⟨_, rfl⟩, by rw [HR.out]; exact HN.out, (Chg.refl (fun b => b = N) w).set (B := N) (.inl rfl) _ _⟩

set_option maxRecDepth 100000 in
set_option maxHeartbeats 1000000 in
theorem split_any (N x n c base B : Nat) (A : Option Addr) (pre : List Nat) (u : List Int) (w : World) (hN : Nd w N u) (hv : fvB u = true) (hab : ∀ p ∈ pre, p < u.length ∧ Ab u p x) (hp : RdP w base B N A n pre) (hn : n ≤ 1048576) :
    Calls Try.prog 152 #[.pointer (some (nadr N x)), .slice A n c] w fun e w' => (∃ v, e = .returned v) ∧ Nd w' N (splitAt' u pre x) ∧ Chg (fun b => b = N) w w' := by
  have hl := hp.1
  by_cases h2 : 2 ≤ n
  · obtain ⟨b, off, rfl, _, hc⟩ := hp.2 (by omega)
    have g := hc (n - 2) (by omega)
    have hm := split_mem (pre := pre) (by omega)
    rw [hl] at hm
    obtain ⟨q1, q2⟩ := hab _ hm
    have HR : Hid (splitAt' u pre x = hang u (pre[n - 2]?.getD 0) x) := by
      show _ = _
      unfold splitAt'
      rw [if_pos (by omega), hl]
    obtain ⟨q, hq⟩ : ∃ q, q = pre[n - 2]?.getD 0 := ⟨_, rfl⟩
    rw [← hq] at g q1 q2 HR
    have hne := (ab_up hv q1 q2).ne
    have HN := Lib.hid (hN.hang q1 hne)
    obtain ⟨_, _, c3⟩ := hN.cells q1
    obtain ⟨m, rfl⟩ : ∃ m, n = m + 2 := ⟨n - 2, by omega⟩
    rw [Nat.add_sub_cancel] at g
    have k1 : IntKind.i64.wrap (((m + 2 : Nat) : Int) - 2) = (m : Int) := by rw [show ((m + 2 : Nat) : Int) - 2 = (m : Int) by omega]; exact IntWalk.i64_in _ (by omega)
    have k2 : IntKind.i64.wrap ((m : Int) + 2 - 2) = (m : Int) := by rw [show (m : Int) + 2 - 2 = (m : Int) by omega]; exact IntWalk.i64_in _ (by omega)
    have k3 : IntKind.i64.wrap (m : Int) = (m : Int) := IntWalk.i64_in _ (by omega)
    have k4 : (2 : Int) ≤ (m : Int) + 2 := by omega
    clear hN hc hq hm hp hl hab q2 hv h2
    unfold nadr at g HN ⊢
    go_enter Try.func152, Try.ntmps152
    go_wp2
    go_end0
    exact ⟨⟨_, rfl⟩, by rw [HR.out]; exact HN.out, (Chg.refl (fun b => b = N) w).set (B := N) (.inl rfl) _ _⟩
  · have HR : Hid (splitAt' u pre x = u) := by
      show _ = _
      unfold splitAt'
      rw [if_neg (by omega)]
    have HN := Lib.hid hN
    clear hN hp hab hl
    go_enter Try.func152, Try.ntmps152
    go_wp2
    go_end0
    exact ⟨⟨_, rfl⟩, by rw [HR.out]; exact HN.out, Chg.refl _ _⟩

/-- The first k passed items have links to x. -/
def cutTo (u : List Int) (pre : List Nat) (x k : Nat) : List Int := (pre.take k).foldl (fun v p => hang v p x) u
theorem cutTo_succ {u : List Int} {pre : List Nat} {x k : Nat} (hk : k < pre.length) : cutTo u pre x (k + 1) = hang (cutTo u pre x k) (pre[k]?.getD 0) x := by
  unfold cutTo
  rw [List.take_succ_eq_append_getElem hk, List.foldl_append, List.foldl_cons, List.foldl_nil, List.getElem?_eq_getElem hk, Option.getD_some]
theorem cutTo_len (u : List Int) (pre : List Nat) (x : Nat) : ∀ k, (cutTo u pre x k).length = u.length := fun k => by
  unfold cutTo
  exact allTo_len u x (pre.take k)
set_option maxRecDepth 100000 in
set_option maxHeartbeats 1000000 in
theorem cut_any (N x n c base B : Nat) (A : Option Addr) (pre : List Nat) (u : List Int) (w : World) (hN : Nd w N u) (hv : fvB u = true) (hx : x < u.length) (hab : ∀ p ∈ pre, p < u.length ∧ Ab u p x) (hp : RdP w base B N A n pre) (hNb : N < base) (hB : B ≤ w.heap.size) (hn : n ≤ 1048576) :
    Calls Try.prog 150 #[.pointer (some (nadr N x)), .slice A n c] w fun e w' => (∃ v, e = .returned v) ∧ Nd w' N (cutAt u pre x) ∧ Chg (fun b => b = N) w w' := by
  obtain ⟨_, c2, _⟩ := hN.cells hx
  cases hs : step u x with
  | some y =>
    have HR : Hid (cutAt u pre x = u) := by
      show _ = _
      unfold cutAt
      rw [hs]
      rfl
    have HN := Lib.hid hN
    rw [hs, Option.map_some] at c2
    clear hN hs hp hab
    unfold nadr at c2 ⊢
    go_enter Try.func150, Try.ntmps150
    go_wp2
    refine bodyPost_ret (results_none rfl _ _ _) rfl ?_
    exact ⟨⟨_, rfl⟩, by rw [HR.out]; exact HN.out, Chg.refl _ _⟩
  | none =>
    have HR : Hid (cutAt u pre x = cutTo u pre x n) := by
      show _ = _
      unfold cutAt cutTo
      rw [hs, ← hp.1, List.take_length]
      rfl
    have HP := Lib.hid hp
    have HA : Hid (∀ k, k < n → pre[k]?.getD 0 < u.length ∧ x ≠ pre[k]?.getD 0) := fun k hk => by
      have hk' : k < pre.length := by rw [hp.1]; exact hk
      rw [List.getElem?_eq_getElem hk', Option.getD_some]
      have := hab _ (List.getElem_mem hk')
      exact ⟨this.1, (ab_up hv this.1 this.2).ne⟩
    have H0 : Hid (Nd w N (cutTo u pre x 0)) := hN
    rw [hs, Option.map_none] at c2
    clear hN hs hp hab hv
    unfold nadr
    go_enter Try.func150, Try.ntmps150
    go_wp2
    go_loopw [13] (fun i wr => ∃ k : Nat, k ≤ n ∧ i = .int .i64 k ∧ Hid (Nd wr N (cutTo u pre x k)) ∧ Chg (fun b => b = N) w wr) (fun i _ => n - (intOf i).toNat)
    case atStart => exact ⟨0, Nat.zero_le _, rfl, H0, Chg.refl _ _⟩
    case round =>
      obtain ⟨k, hk, rfl, HQ, hg⟩ := hrel
      clear H0
      by_cases hlt : k < n
      · obtain ⟨b, off, rfl, _, hc⟩ := (HP.out.chg hg hB (fun i e => by omega)).2 (by omega)
        have g := hc k hlt
        obtain ⟨a1, a2⟩ := HA.out k hlt
        have hsucc := cutTo_succ (u := u) (x := x) (show k < pre.length by rw [HP.out.1]; exact hlt)
        obtain ⟨p, hpe⟩ : ∃ p, p = pre[k]?.getD 0 := ⟨_, rfl⟩
        rw [← hpe] at g a1 a2 hsucc
        have hQ := HQ.out
        obtain ⟨_, _, c3⟩ := hQ.cells (x := p) (by rw [cutTo_len]; exact a1)
        have HNX := Lib.hid (show Nd (wr.setCell ⟨N, p * 2 + 1, none⟩ (.pointer (some (nadr N x)))) N (cutTo u pre x (k + 1)) by
          rw [hsucc]
          exact hQ.hang (by rw [cutTo_len]; exact a1) a2)
        have HG := Lib.hid (hg.set (B := N) (.inl rfl) (p * 2 + 1) (.pointer (some (nadr N x))))
        clear hQ hc hpe hsucc HQ hg
        unfold nadr at g HNX HG
        go_wp2
        go_roundw
        case rel => exact ⟨k + 1, by omega, by go_num, HNX, HG.out⟩
        case measure => simp [intOf]; omega
      · obtain rfl : k = n := by omega
        go_wp2
        go_end0
        exact ⟨⟨_, rfl⟩, by rw [HR.out]; exact HQ.out, hg⟩

/-- The four functions, by their numbers. -/
def shortF (l : Int) : Nat := if l = 0 then 149 else if l = 1 then 150 else if l = 2 then 151 else 152
theorem short_any (l : Int) (N x n c base B : Nat) (A : Option Addr) (pre : List Nat) (u : List Int) (w : World) (hN : Nd w N u) (hv : fvB u = true) (hx : x < u.length) (hab : ∀ p ∈ pre, p < u.length ∧ Ab u p x) (hp : RdP w base B N A n pre) (hNb : N < base) (hB : B ≤ w.heap.size) (hn : n ≤ 1048576) :
    Calls Try.prog (shortF l) #[.pointer (some (nadr N x)), .slice A n c] w fun e w' => (∃ v, e = .returned v) ∧ Nd w' N (lookAt l u pre x) ∧ Chg (fun b => b = N) w w' := by
  unfold shortF lookAt
  split
  · exact bare_any N x n c A pre u w hN
  · split
    · exact cut_any N x n c base B A pre u w hN hv hx hab hp hNb hB hn
    · split
      · exact halve_any N x n c A pre u w hN hv hx
      · exact split_any N x n c base B A pre u w hN hv hab hp hn
theorem short_enters (l : Int) : ∀ args w, (callFunc (shortF l) args).run Try.prog w = .ok (.enter (shortF l) args) w := by
  intro args w
  unfold shortF
  split
  · exact enters_of Try.func149 (by kernel_rfl) rfl args w
  · split
    · exact enters_of Try.func150 (by kernel_rfl) rfl args w
    · split
      · exact enters_of Try.func151 (by kernel_rfl) rfl args w
      · exact enters_of Try.func152 (by kernel_rfl) rfl args w
end Go.Proofs.Ytemkbheplmimoaa
