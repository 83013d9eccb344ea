/- The program's LookUp, LookAll, StepsUp and TotalUp. Condition: lengths up to 1048576. -/
import Derived.Test.YtemkbheplmimoaaLookFrom4
namespace Go.Proofs.Ytemkbheplmimoaa
open Go.RowKit Go.Shelf

theorem run_neq_nil {P : Program} (w : World) (t e : TypeId) (a : Option Addr) (n c : Nat) (h : P.underlying t = some (.slice e)) :
    (binOp .neq t (.slice a n c) (.slice none 0 0)).run P w = .ok (.bool (!a.isNone)) w := by
  simp only [binOp]
  simp [Op.equal, Op.maxDepth, Lib.run_equalIn_slice_nil w 9999 t e a n c 0 0 h]
theorem Below.back {a b c : World} (h : Below a.heap.size a b) (k : Below a.heap.size b c) : Below a.heap.size a c := h.trans k
theorem followed_not {up : List Int} {l : Int} {is : List Int} (h : lookB up l is = false) : (-1 : Int) = followedN up l is := (followedN_no h).symm

/-- lookFrom in the words of its answer. -/
theorem lookFrom_says (A : Option Addr) (n c B0 : Nat) (zs : List Int) (l : Int) (A1 : Option Addr) (m c1 B1 : Nat) (is : List Int) (w : World) (h : Rd w B0 A n zs) (hB0 : B0 ≤ w.heap.size) (hb : n ≤ 1048576) (h1 : Rd w B1 A1 m is) (hB1 : B1 ≤ w.heap.size) (hm : m ≤ 1048576) :
    Calls Try.prog 120 #[.slice A n c, .int .i64 l, .slice A1 m c1] w fun e w' => ∃ a k, e = .returned (.tuple #[.slice a (lookedN zs l is).length k, .int .i64 (followedN zs l is)]) ∧ a.isSome = lookB zs l is ∧ Own w' w.heap.size (.slice a (lookedN zs l is).length k) (lookedN zs l is) ∧ Below w.heap.size w w' := by
  have hln := h.1
  refine (lookFrom_any A n c B0 zs l A1 m c1 B1 is w h hB0 hb h1 hB1 hm).mono ?_
  rintro e w' ⟨hb', ⟨hv, rfl⟩ | ⟨hv, g, k, rfl, ho⟩⟩
  · refine ⟨none, 0, ?_, by rw [hv]; rfl, ?_, hb'⟩
    · rw [lookedN_no hv, followedN_no hv]; rfl
    · rw [lookedN_no hv]; exact ⟨by simp, .inl ⟨rfl, rfl⟩⟩
  · have hl := looked_len hv
    rw [hln] at hl
    refine ⟨some g, k, ?_, by rw [hv]; rfl, ?_, hb'⟩
    · rw [hl, followedN_yes hv]
    · rw [hl, lookedN_yes hv]; exact ho
theorem one_rd (w : World) (i : Int) : Rd (w.alloc (.cells #[.int .i64 i] 3)) (w.heap.size + 1) (some ⟨w.heap.size, 0, none⟩) 1 [i] := by
  have := (Own.lit w w.heap.size [i] (Nat.le_refl _) (by simp)).rd
  simpa using this

set_option maxRecDepth 100000 in
set_option maxHeartbeats 1000000 in
theorem implLookUp_any (A : Option Addr) (n c B0 : Nat) (zs : List Int) (l i : Int) (w : World) (h : Rd w B0 A n zs) (hB0 : B0 ≤ w.heap.size) (hb : n ≤ 1048576) :
    Calls Try.prog 54 #[.slice A n c, .int .i64 l, .int .i64 i] w fun e w' => ∃ v, e = .returned (.tuple #[v, .bool (lookB zs l [i])]) ∧ Own w' w.heap.size v (lookedN zs l [i]) ∧ Below w.heap.size w w' := by
  have hba := (Below.refl w.heap.size w).alloc (Nat.le_refl _) (.cells #[.int .i64 i] 3)
  have R := Lib.hid (lookFrom_says A n c B0 zs l (some ⟨w.heap.size, 0, none⟩) 1 1 (w.heap.size + 1) [i] (w.alloc (.cells #[.int .i64 i] 3)) (h.below hba hB0) (Nat.le_trans hB0 hba.size) hb (one_rd w i) (by simp) (by omega))
  have HBA := Lib.hid hba
  have hq := fun (w : World) (a : Option Addr) (n c : Nat) => run_neq_nil (P := Try.prog) w 23 3 a n c Try.underlying23
  obtain ⟨ok, hok⟩ : ∃ ok, ok = lookB zs l [i] := ⟨_, rfl⟩
  rw [← hok] at R ⊢
  clear h hba hok
  go_enter Try.func54, Try.ntmps54
  go_wp2_with fail
  refine R.out.mono ?_
  rintro e w1 ⟨a, k, rfl, rfl, ho, hb1⟩
  have HO := Lib.hid (ho.less (show w.heap.size ≤ _ by simp))
  have HB := Lib.hid (HBA.out.trans (hb1.mono (by simp)))
  clear ho hb1
  go_wp2
  go_ret2
  exact ⟨_, rfl, HO.out, HB.out⟩
set_option maxRecDepth 100000 in
set_option maxHeartbeats 1000000 in
theorem implStepsUp_any (A : Option Addr) (n c B0 : Nat) (zs : List Int) (l i : Int) (w : World) (h : Rd w B0 A n zs) (hB0 : B0 ≤ w.heap.size) (hb : n ≤ 1048576) :
    Calls Try.prog 58 #[.slice A n c, .int .i64 l, .int .i64 i] w fun e w' => e = .returned (.int .i64 (followedN zs l [i])) ∧ Below w.heap.size w w' := by
  have hba := (Below.refl w.heap.size w).alloc (Nat.le_refl _) (.cells #[.int .i64 i] 3)
  have R := Lib.hid (lookFrom_says A n c B0 zs l (some ⟨w.heap.size, 0, none⟩) 1 1 (w.heap.size + 1) [i] (w.alloc (.cells #[.int .i64 i] 3)) (h.below hba hB0) (Nat.le_trans hB0 hba.size) hb (one_rd w i) (by simp) (by omega))
  have HBA := Lib.hid hba
  clear h hba
  go_enter Try.func58, Try.ntmps58
  go_wp2_with fail
  refine R.out.mono ?_
  rintro e w1 ⟨a, k, rfl, _, _, hb1⟩
  have HB := Lib.hid (HBA.out.trans (hb1.mono (by simp)))
  clear hb1
  go_wp2
  go_ret
  exact ⟨rfl, HB.out⟩
set_option maxRecDepth 100000 in
set_option maxHeartbeats 1000000 in
theorem implLookAll_any (A : Option Addr) (n c B0 : Nat) (zs : List Int) (l : Int) (A1 : Option Addr) (m c1 B1 : Nat) (is : List Int) (w : World) (h : Rd w B0 A n zs) (hB0 : B0 ≤ w.heap.size) (hb : n ≤ 1048576) (h1 : Rd w B1 A1 m is) (hB1 : B1 ≤ w.heap.size) (hm : m ≤ 1048576) :
    Calls Try.prog 61 #[.slice A n c, .int .i64 l, .slice A1 m c1] w fun e w' => ∃ v, e = .returned (.tuple #[v, .bool (lookB zs l is)]) ∧ Own w' w.heap.size v (lookedN zs l is) ∧ Below w.heap.size w w' := by
  have R := Lib.hid (lookFrom_says A n c B0 zs l A1 m c1 B1 is w h hB0 hb h1 hB1 hm)
  have hq := fun (w : World) (a : Option Addr) (n c : Nat) => run_neq_nil (P := Try.prog) w 23 3 a n c Try.underlying23
  obtain ⟨ok, hok⟩ : ∃ ok, ok = lookB zs l is := ⟨_, rfl⟩
  rw [← hok] at R ⊢
  clear h h1 hok
  go_enter Try.func61, Try.ntmps61
  go_wp2_with fail
  refine R.out.mono ?_
  rintro e w1 ⟨a, k, rfl, rfl, ho, hb1⟩
  have HO := Lib.hid ho
  have HB := Lib.hid hb1
  clear ho hb1
  go_wp2
  go_ret2
  exact ⟨_, rfl, HO.out, HB.out⟩
set_option maxRecDepth 100000 in
set_option maxHeartbeats 1000000 in
theorem implTotalUp_any (A : Option Addr) (n c B0 : Nat) (zs : List Int) (l : Int) (A1 : Option Addr) (m c1 B1 : Nat) (is : List Int) (w : World) (h : Rd w B0 A n zs) (hB0 : B0 ≤ w.heap.size) (hb : n ≤ 1048576) (h1 : Rd w B1 A1 m is) (hB1 : B1 ≤ w.heap.size) (hm : m ≤ 1048576) :
    Calls Try.prog 64 #[.slice A n c, .int .i64 l, .slice A1 m c1] w fun e w' => e = .returned (.int .i64 (followedN zs l is)) ∧ Below w.heap.size w w' := by
  have R := Lib.hid (lookFrom_says A n c B0 zs l A1 m c1 B1 is w h hB0 hb h1 hB1 hm)
  clear h h1
  go_enter Try.func64, Try.ntmps64
  go_wp2_with fail
  refine R.out.mono ?_
  rintro e w1 ⟨a, k, rfl, _, _, hb1⟩
  have HB := Lib.hid hb1
  clear hb1
  go_wp2
  go_ret
  exact ⟨rfl, HB.out⟩
end Go.Proofs.Ytemkbheplmimoaa
