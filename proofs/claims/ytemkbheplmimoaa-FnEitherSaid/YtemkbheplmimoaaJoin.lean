/- The parts of a join of the program: the root of an item, a root that goes under another. Conditions: the nodes and the members lie in a block each; the forest is valid. -/
import Derived.Test.YtemkbheplmimoaaMembers
import Derived.Test.YtemkbheplmimoaaShort
import Derived.Test.YtemkbheplmimoaaJoinL
import Derived.Test.YtemkbheplmimoaaHeld
namespace Go.Proofs.Ytemkbheplmimoaa
open Go.RowKit Go.Shelf

set_option maxRecDepth 100000 in
set_option maxHeartbeats 4000000 in
theorem rootOf_any (J M N n i : Nat) (sz ht : Nat → Nat) (u : List Int) (w : World) (hm : MemK w M N n n sz ht) (hj : Boxed w J 147 (.slice (some ⟨M, 0, none⟩) n n)) (hN : Nd w N u) (hv : fvB u = true) (hn : u.length = n) (hi : i < n) :
    Calls Try.prog 133 #[.pointer (some ⟨J, 0, none⟩), .int .i64 (i : Int)] w fun e w' => e = .returned (.pointer (some ⟨M, rootI u i * 3, none⟩)) ∧ Below w.heap.size w w' := by
  have h16 := (fv_parts hv).2.1
  have hiu : i < u.length := by omega
  have hr := (root_is hv hiu).1
  have cJ := hj.cell
  obtain ⟨⟨c1, _, _⟩, _⟩ := hm.cells hi
  rw [if_pos hi] at c1
  obtain ⟨c2, _, _⟩ := hN.cells hr
  have RT := Lib.hid (fun (w2 : World) (hb2 : Below w.heap.size w w2) => root_any N i (wayOf u i) u w2 (hN.nodes.below hb2 hN.lt) (by have := hN.lt; have := hb2.size; omega) (fv_in hv) hiu (fv_path hv hiu))
  have HL : Hid (lastOf i (wayOf u i) = rootI u i) := rfl
  obtain ⟨r, hre⟩ : ∃ r, r = rootI u i := ⟨_, rfl⟩
  rw [← hre] at hr c2 HL ⊢
  have RT : Hid (∀ (w2 : World), Below w.heap.size w w2 → Calls Try.prog 95 #[.pointer (some ⟨N, i * 2, none⟩)] w2 fun e w' => e = .returned (.pointer (some ⟨N, r * 2, none⟩)) ∧ Below w2.heap.size w2 w') := fun w2 hb2 => by
    have := RT.out w2 hb2
    rw [HL.out] at this
    exact this
  have hrn : r < n := by omega
  have hbb : Below w.heap.size w w := Below.refl _ _
  have hii : (i : Int) < (n : Int) := by omega
  have hrr : (r : Int) < (n : Int) := by omega
  unfold nadr at c1
  clear hm hj hN hv hn h16 hiu hr hre HL
  go_enter Try.func133, Try.ntmps133
  go_wp2
  go_region_held3 (fun w' => Below w.heap.size w w' ∧ w'.cell? ⟨J, 0, none⟩ = some (.slice (some ⟨M, 0, none⟩) n n) ∧ w'.cell? ⟨M, i * 3, none⟩ = some (.pointer (some ⟨N, i * 2, none⟩)) ∧ w'.cell? ⟨N, r * 2, none⟩ = some (.int .i64 (r : Int)))
    (first | exact held3_drew ⟨by assumption, by assumption, by assumption, by assumption⟩ | exact held3_drew (by assumption) | exact held3_call (by assumption) (by assumption) (Below.size (And.left (by assumption))))
    (first | (go_at_call 95; refine (RT.out _ (‹Below w.heap.size w _ ∧ _›).1).mono ?_; rintro e w8 ⟨rfl, hb8⟩))
  have hbz := (‹Below w.heap.size w _ ∧ _›).1
  go_wp2
  go_ret
  exact ⟨rfl, hbz⟩

set_option maxRecDepth 100000 in
set_option maxHeartbeats 4000000 in
theorem goUnder_any (M N n p q : Nat) (sz ht : Nat → Nat) (u : List Int) (w : World) (hm : MemK w M N n n sz ht) (hN : Nd w N u) (hn : u.length = n) (hp : p < n) (hq : q < n) (hne : p ≠ q) (hNM : N ≠ M) (hs1 : sz p ≤ 100000) (hs2 : sz q ≤ 100000) (hh1 : ht p ≤ 100000) (_hh2 : ht q ≤ 100000) :
    Calls Try.prog 134 #[.pointer (some ⟨M, p * 3, none⟩), .pointer (some ⟨M, q * 3, none⟩)] w fun e w' => (∃ v, e = .returned v) ∧ Nd w' N (hang u p q) ∧ MemK w' M N n n (fun x => if x = q then sz q + sz p else sz x) (fun x => if x = q then max (ht q) (ht p + 1) else ht x) ∧ Chg (fun b => b = N ∨ b = M) w w' := by
  obtain ⟨⟨c1, _, _⟩, _⟩ := hm.cells hp
  obtain ⟨⟨c2, _, _⟩, _⟩ := hm.cells hq
  rw [if_pos hp] at c1
  rw [if_pos hq] at c2
  obtain ⟨_, c3, f3⟩ := hN.cells (x := p) (by omega)
  have HN1 := Lib.hid (hN.hang (p := p) (q := q) (by omega) (fun e => hne e.symm))
  have HM1 := Lib.hid (hm.other hNM (p * 2 + 1) (.pointer (some (nadr N q))))
  unfold nadr at c1 c2 HN1 HM1
  clear hm hN
  go_enter Try.func134, Try.ntmps134
  go_wp2
  go_region
  obtain ⟨V, hV⟩ : ∃ V, V = (w.setCell ⟨N, p * 2 + 1, none⟩ (.pointer (some ⟨N, q * 2, none⟩))).drew := ⟨_, rfl⟩
  rw [← hV]
  have hN1 : Nd V N (hang u p q) := by rw [hV]; exact HN1.out
  have hM1 : MemK V M N n n sz ht := by rw [hV]; exact HM1.out
  have hC1 : Chg (fun b => b = N ∨ b = M) w V := by rw [hV]; exact ((Chg.refl _ w).set (B := N) (.inl (.inl rfl)) _ _).drew
  obtain ⟨⟨_, d1, _⟩, _, _, _⟩ := hM1.cells hp
  obtain ⟨⟨_, d2, _⟩, _, fd2, _⟩ := hM1.cells hq
  have HH := Lib.hid (And.intro hN1 (And.intro hM1 hC1))
  clear hN1 hM1 hC1 hV c1 c2 c3 f3 HN1 HM1
  go_wp2
  go_region
  obtain ⟨V2, hV2⟩ : ∃ V2, V2 = (V.setCell ⟨M, q * 3 + 1, none⟩ (.int .i64 ((sz q : Int) + (sz p : Int)))).drew := ⟨_, rfl⟩
  rw [← hV2]
  have hN2 : Nd V2 N (hang u p q) := by rw [hV2]; exact HH.out.1.eq (Below.heap_setCell V ⟨M, q * 3 + 1, none⟩ _ N hNM)
  have hM2 : MemK V2 M N n n (fun x => if x = q then sz q + sz p else sz x) ht := by
    rw [hV2]
    have := HH.out.2.1.size hq (sz q + sz p)
    rw [show ((sz q + sz p : Nat) : Int) = (sz q : Int) + (sz p : Int) by omega] at this
    exact this
  have hC2 : Chg (fun b => b = N ∨ b = M) w V2 := by rw [hV2]; exact (HH.out.2.2.set (B := M) (.inl (.inr rfl)) _ _).drew
  obtain ⟨⟨_, _, e1⟩, _, _, _⟩ := hM2.cells hp
  obtain ⟨⟨_, _, e2⟩, _, _, fe2⟩ := hM2.cells hq
  have e1 : V2.cell? ⟨M, p * 3 + 1 + 1, none⟩ = some (.int .i64 (ht p : Int)) := e1
  have e2 : V2.cell? ⟨M, q * 3 + 1 + 1, none⟩ = some (.int .i64 (ht q : Int)) := e2
  have fe2 : V2.frozen? ⟨M, q * 3 + 1 + 1, none⟩ = false := fe2
  have HH2 := Lib.hid (And.intro hN2 (And.intro hM2 hC2))
  clear hN2 hM2 hC2 hV2 d1 d2 fd2 HH
  have HE : Hid (∀ z : Nat, z = max (ht q) (ht p + 1) → Nd ((V2.setCell ⟨M, q * 3 + 1 + 1, none⟩ (.int .i64 (z : Int))).drew) N (hang u p q) ∧ MemK ((V2.setCell ⟨M, q * 3 + 1 + 1, none⟩ (.int .i64 (z : Int))).drew) M N n n (fun x => if x = q then sz q + sz p else sz x) (fun x => if x = q then max (ht q) (ht p + 1) else ht x) ∧ Chg (fun b => b = N ∨ b = M) w ((V2.setCell ⟨M, q * 3 + 1 + 1, none⟩ (.int .i64 (z : Int))).drew)) := fun z hz => by
    rw [← hz]
    exact ⟨HH2.out.1.eq (Below.heap_setCell V2 ⟨M, q * 3 + 1 + 1, none⟩ _ N hNM), HH2.out.2.1.height hq z, (HH2.out.2.2.set (B := M) (.inl (.inr rfl)) _ _).drew⟩
  by_cases hlt : (ht q : Int) < (ht p : Int) + 1
  · go_wp2
    go_region
    go_wp2
    go_end0
    refine ⟨⟨_, rfl⟩, ?_⟩
    exact HE.out (ht p + 1) (by omega)
  · go_wp2
    go_region
    go_wp2
    go_end0
    refine ⟨⟨_, rfl⟩, ?_⟩
    exact HE.out (ht q) (by omega)
end Go.Proofs.Ytemkbheplmimoaa
