/- lookFrom of the program: the forest when one has looked from all items, and how many links were followed; nothing and -1 where the arguments are not valid. Condition: lengths up to 1048576. -/
import Derived.Test.YtemkbheplmimoaaLookFrom2
namespace Go.Proofs.Ytemkbheplmimoaa
open Go.RowKit Go.Shelf

/-- How many links have been followed over pre. -/
def cntT (T : List Int → List Nat → Nat → List Int) (u : List Int) (j : Nat) (pre : List Nat) : Nat := if nxT T u j pre = none then pre.length - 1 else pre.length
theorem cntT_nil (T : List Int → List Nat → Nat → List Int) (u : List Int) (j : Nat) : cntT T u j [] = 0 := rfl
theorem cntT_snoc {T : List Int → List Nat → Nat → List Int} {u : List Int} {j x : Nat} {pre : List Nat} (h : nxT T u j pre = some x) : cntT T u j (pre ++ [x]) = cntT T u j pre + on1 (foT T u (pre ++ [x])) x := by
  unfold cntT on1
  rw [nxT_snoc, h]
  cases hs : step (foT T u (pre ++ [x])) x with
  | none => simp
  | some y => simp
theorem steps_le16 {T : List Int → List Nat → Nat → List Int} (K : Kind T) {up : List Int} (h : fvB up = true) {i : Nat} (hi : i < up.length) : stepsT T up i ≤ 16 := by
  have h1 := visits_len K h hi
  have h2 := (fv_parts h).2.1
  unfold stepsT
  omega
theorem manyS_le {T : List Int → List Nat → Nat → List Int} (K : Kind T) : ∀ {its : List Nat} {up : List Int}, fvB up = true → (∀ i ∈ its, i < up.length) → manyS T up its ≤ 16 * its.length
  | [], _, _, _ => Nat.le_refl _
  | i :: its, up, h, hi => by
    have h1 := lookT_shr K h (hi i (by simp))
    have h2 := manyS_le K (its := its) h1.fv (fun j hj => by rw [h1.len]; exact hi j (by simp [hj]))
    have h3 := steps_le16 K h (hi i (by simp))
    unfold manyS
    rw [List.length_cons]
    omega
theorem nats_take {is : List Int} {k : Nat} (hk : k < is.length) : nats (is.take (k + 1)) = nats (is.take k) ++ [(is[k]?.getD 0).toNat] := by
  unfold nats
  rw [List.take_succ_eq_append_getElem hk, List.map_append, List.getElem?_eq_getElem hk]
  rfl

theorem counted_any (l : Int) (N j n Sb Fb F0 : Nat) (u : List Int) (w : World) (hN : Nd w N u) (hv : fvB u = true) (hj : j < u.length) (_hn : n = u.length) (hNS : N ≠ Sb) (hNF : N ≠ Fb) (hSF : Sb ≠ Fb)
    (hS : Boxed w Sb 136 (.func (.func (shortF l)) #[] #[])) (hF : Boxed w Fb 3 (.int .i64 (F0 : Int))) (hF0 : F0 ≤ 100000) :
    Calls Try.prog 129 #[.pointer (some (nadr N j)), .func (.func 147) #[] #[.pointer (some ⟨Sb, 0, none⟩), .pointer (some ⟨Fb, 0, none⟩)]] w fun e w' => (∃ v, e = .returned v) ∧
      Nd w' N (lookT (lookAt l) u j) ∧ Boxed w' Fb 3 (.int .i64 ((F0 + stepsT (lookAt l) u j : Nat) : Int)) ∧ Boxed w' Sb 136 (.func (.func (shortF l)) #[] #[]) ∧ Chg (fun b => b = N ∨ b = Fb) w w' := by
  have K := look_kind l
  have h16 := (fv_parts hv).2.1
  refine (look_any (lookAt l) K 147 #[.pointer (some ⟨Sb, 0, none⟩), .pointer (some ⟨Fb, 0, none⟩)] (fun b => b = N ∨ b = Fb) (fun pre W => Boxed W Fb 3 (.int .i64 ((F0 + cntT (lookAt l) u j pre : Nat) : Int))) N j u w hN hv hj
    (fun k hk => by
      rcases hk with rfl | rfl
      · exact hN.lt
      · exact hF.lt) (.inl rfl) (Go.Own.from (boxed_own _ _ _) _) (fun pre W W' hb he => (he Fb (.inr rfl)).trans hb) hF (enters_of Try.func147 (by kernel_rfl) rfl) ?_).mono ?_
  · intro pre x A c W hg hNd hX hrd hC
    obtain ⟨g1, g2⟩ := gos_snoc.1 hg
    obtain ⟨s1, s2, _⟩ := goes K hv hj pre g1
    obtain ⟨hx, hab⟩ := s2 x g2
    have hpl := gos_len K hv hj hg
    rw [List.length_append, List.length_singleton] at hpl
    have hS2 : Boxed W Sb 136 (.func (.func (shortF l)) #[] #[]) := (hC.block Sb hS.lt (fun e => by
      rcases e with e | e
      · exact hNS e.symm
      · exact hSF e)).trans hS
    have hc : cntT (lookAt l) u j pre ≤ 16 := by
      unfold cntT
      split <;> omega
    refine (counting_any l N x pre.length c w.heap.size W.heap.size Sb Fb (F0 + cntT (lookAt l) u j pre) A pre (foT (lookAt l) u pre) W hNd s1.fv (by rw [s1.len]; exact hx) (fun p hp => by rw [s1.len]; exact hab p hp) hrd hN.lt (Nat.le_refl _) (by omega) hS2 hX (by omega) hNF).mono ?_
    rintro e W' ⟨hv', hN', hF', hC'⟩
    refine ⟨hv', by rw [foT_snoc]; exact hN', ?_, hC'⟩
    rw [cntT_snoc g2, foT_snoc, ← Nat.add_assoc]
    exact hF'
  · rintro e w' ⟨hv', ⟨hN', hX'⟩, hC'⟩
    refine ⟨hv', hN', ?_, (hC'.block Sb hS.lt (fun e => by
      rcases e with e | e
      · exact hNS e.symm
      · exact hSF e)).trans hS, hC'⟩
    have hd := (visits_done K hv hj).2
    have e : cntT (lookAt l) u j (visits (lookAt l) u j) = stepsT (lookAt l) u j := by
      unfold cntT stepsT
      rw [if_pos hd]
    rw [← e]
    exact hX'
end Go.Proofs.Ytemkbheplmimoaa
