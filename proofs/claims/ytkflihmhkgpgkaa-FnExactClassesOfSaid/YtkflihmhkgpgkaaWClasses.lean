/- The walk of the exact law of ClassesOf: for every slice of ints the law returns true and nothing that was there has turned. -/
import Derived.Test.YtkflihmhkgpgkaaClasses
import Derived.Test.YtkflihmhkgpgkaaSpecClasses
import Derived.Test.YtkflihmhkgpgkaaEqRows
import Derived.Test.YtkflihmhkgpgkaaMarkRows
import Derived.Test.YtkflihmhkgpgkaaArgs
namespace Go.Proofs.Ytkflihmhkgpgkaa
open Go.RowKit

theorem sumL_le {ns : List Nat} {M : Nat} (h : ∀ n ∈ ns, n ≤ M) : sumL ns ≤ ns.length * M := by
  induction ns with
  | nil => simp [sumL]
  | cons n ns ih =>
    have h1 := h n (by simp)
    have h2 := ih fun m hm => h m (List.mem_cons_of_mem _ hm)
    show n + sumL ns ≤ (ns.length + 1) * M
    rw [Nat.add_mul]
    omega
theorem rowsN_small (up : List Int) : (rowsN up).length ≤ 16 ∧ (∀ zs ∈ rowsN up, zs.length ≤ 16) ∧ sumL (lens (rowsN up)) ≤ 256 := by
  have h1 : (rowsN up).length ≤ 16 := by
    cases hv : fvB up with
    | false => rw [rowsN_no hv]; simp
    | true =>
      rw [rowsN_yes hv]
      have := rowsTo_len up up.length
      have := (fv_parts hv).2.1
      omega
  have h2 : ∀ zs ∈ rowsN up, zs.length ≤ 16 := by
    cases hv : fvB up with
    | false => rw [rowsN_no hv]; simp
    | true =>
      rw [rowsN_yes hv]
      intro zs hz
      unfold rowsTo at hz
      obtain ⟨i, _, rfl⟩ := List.mem_map.1 hz
      have := cls_len up (rootI up i : Int) up.length
      have := (fv_parts hv).2.1
      omega
  refine ⟨h1, h2, ?_⟩
  have := sumL_le (ns := lens (rowsN up)) (M := 16) fun n hn => by
    obtain ⟨zs, hz, rfl⟩ := List.mem_map.1 hn
    exact h2 zs hz
  rw [lens_len] at this
  omega
theorem small_big {zss : List (List Int)} (h : ∀ zs ∈ zss, zs.length ≤ 16) : ∀ zs ∈ zss, zs.length ≤ 1048576 := fun zs hz => Nat.le_trans (h zs hz) (by omega)
theorem marks_small {k : Int} {zss : List (List Int)} (h : ∀ zs ∈ zss, zs.length ≤ 16) : ∀ zs ∈ markRows k (lens zss), zs.length ≤ 1048576 := by
  intro zs hz
  obtain ⟨i, hi, rfl⟩ := List.getElem_of_mem hz
  rw [markRows_len, lens_len] at hi
  have h1 := markRows_get (k := k) (ns := lens zss) (i := i) (by rw [lens_len]; exact hi)
  have hi2 : i < (markRows k (lens zss)).length := by rw [markRows_len, lens_len]; exact hi
  rw [List.getElem?_eq_getElem hi2] at h1
  simp only [Option.getD_some] at h1
  rw [h1, marks_len, lens_get hi, List.getElem?_eq_getElem hi]
  exact Nat.le_trans (h _ (List.getElem_mem hi)) (by omega)
/-- The rows stay when something of theirs is not touched. -/
theorem OwnRows.kept {w w' : World} {base : Nat} {v : Value} {vs : List Value} {zss : List (List Int)} {row : Option Nat} (h : OwnRows w base v vs zss) (hg : w.grownBy w' row) (hr : ∀ r, row = some r → r < base) : OwnRows w' base v vs zss :=
  ⟨World.ownsRow.kept h.row hg (by
    cases hb : v.ownBlock with
    | none => exact .inl rfl
    | some g =>
      refine .inr fun e => ?_
      have := hr g e.symm
      have := (h.row.lt g hb).1
      omega), h.len, fun i c hc => (h.each i c hc).kept hg (by
    cases hb : c.ownBlock with
    | none => exact .inl rfl
    | some g =>
      refine .inr fun e => ?_
      have := hr g e.symm
      have := ((h.each i c hc).blockOf g hb).1
      omega), h.apart, h.apart2⟩

set_option maxRecDepth 100000 in
set_option maxHeartbeats 4000000 in
theorem exactClasses (A : Option Addr) (n c : Nat) (zs : List Int) (w : World) (h0 : Row .i64 w A n c zs) :
    Calls Try.prog 17 #[.slice A n c] w fun e w' => e = .returned (.bool true) ∧ Below w.heap.size w w' := by
  by_cases hl : 1048576 < n
  · go_enter Try.func17, Try.ntmps17
    go_wp2
    go_ret
    exact ⟨rfl, Below.refl _ _⟩
  · have hr := h0.rd
    obtain ⟨xs, hxs⟩ : ∃ xs, xs = zs.take n := ⟨_, rfl⟩
    rw [← hxs] at hr
    have T := Lib.hid (fun (w1 : World) (hb : Below w.heap.size w w1) => toIntS_any A n c xs w1 ((hr.below hb (Nat.le_refl _)).more hb.size) (by omega))
    have hln := hr.len
    have hl2 : xs.length ≤ 1048576 := by omega
    have SP := Lib.hid (fun (A : Option Addr) (c : Nat) (w : World) (h : Rd w w.heap.size A xs.length xs) => specClasses_any A xs.length c _ xs w h (Nat.le_refl _) hl2)
    have IM := Lib.hid (fun (A : Option Addr) (c : Nat) (w : World) (h : Rd w w.heap.size A xs.length xs) => implClasses_any A xs.length c _ xs w h (Nat.le_refl _) hl2)
    have hy := rowsN_small xs
    revert SP IM hy
    generalize rowsN xs = ys
    generalize fvB xs = ok
    rintro SP IM ⟨hy, hy2, hy3⟩
    have HY2 := Lib.hid hy2
    clear hxs h0 hr hln hy2
    have dx : decide (xs = xs) = true := by simp
    have dy : decide (ys = ys) = true := by simp
    have dk : (ok != ok) = false := by cases ok <;> rfl
    go_enter Try.func17, Try.ntmps17
    go_wp2_with fail
    refine (T.out _ (Below.refl _ _)).mono ?_
    rintro e w1 ⟨v1, rfl, ho1, hb1⟩
    obtain ⟨A1, c1, rfl, hr1⟩ := ho1.form
    go_wp2_with fail
    refine (SP.out A1 c1 w1 hr1).mono ?_
    rintro e w2 ⟨v2, vs2, rfl, ho2, hb2⟩
    obtain ⟨A2, c2, rfl, hr2⟩ := ho2.form (small_big HY2.out)
    have hb2 := hb1.trans (hb2.mono hb1.size)
    clear ho1 hr1 ho2
    go_wp2_with fail
    refine (T.out _ hb2).mono ?_
    rintro e w3 ⟨v3, rfl, ho3, hb3⟩
    obtain ⟨A3, c3, rfl, hr3⟩ := ho3.form
    have hs23 := hb3.size
    have hr2 := hr2.below hb3 (Nat.le_refl _)
    have hb3 := hb2.trans (hb3.mono hb2.size)
    go_wp2_with fail
    refine (IM.out A3 c3 w3 hr3).mono ?_
    rintro e w4 ⟨v4, vs4, rfl, ho4, hb4⟩
    obtain ⟨A4, c4, rfl, hr4⟩ := ho4.form (small_big HY2.out)
    have hs34 := hb4.size
    have hr2 := hr2.below hb4 hs23
    have hx3 := ho3.blockOf
    have ho3 := ho3.keep hb4 (Nat.le_refl _)
    have hb4 := hb3.trans (hb4.mono hb3.size)
    clear hr3
    have HO4 := Lib.hid ho4
    clear ho4
    go_wp2_with fail
    refine (eqIntSS_any _ _ _ _ _ _ _ _ ys ys _ hr4 hr2 (by omega) (by omega)).mono ?_
    rintro e w' ⟨rfl, n1, rfl⟩
    go_wp2_with fail
    refine (T.out _ (below_drewN hb4 n1)).mono ?_
    rintro e w5 ⟨v5, rfl, ho5, hb5⟩
    have hb5 : Below w4.heap.size w4 w5 := below_of_drewN hb5
    obtain ⟨A5, c5, rfl, hr5⟩ := ho5.form
    have hs45 := hb5.size
    have hr2 := hr2.below hb5 (by omega)
    have hr3 := ho3.rd.below hb5 (Nat.le_refl _)
    have ho3 := ho3.keep hb5 (Nat.le_refl _)
    have HO4 := Lib.hid (HO4.out.keep hb5)
    have hb5 := hb4.trans (hb5.mono hb4.size)
    clear ho5 hr4
    go_wp2_with fail
    refine (eqIntS_any _ _ _ _ _ _ _ _ xs xs _ hr3 hr5 hl2 hl2).mono ?_
    rintro e w' ⟨rfl, n2, rfl⟩
    clear hr3 hr5
    go_wp2_with fail
    refine (markIntS_any _ 1 xs _ _ (ho3.drewN n2) hl2 (by omega) (by omega)).mono ?_
    rintro e w6 ⟨rfl, ho6, hg6⟩
    have hb6 : Below w2.heap.size w5 w6 := below_of_drewN (below_row hg6 (by simp; omega) (fun r e => (hx3 r e).1))
    have hs56 := hb6.size
    have hr2 := hr2.below hb6 (Nat.le_refl _)
    have HO4 := Lib.hid ((HO4.out.drewN n2).kept hg6 fun r e => (hx3 r e).2)
    have hr4 := HO4.out.rd (small_big HY2.out)
    have hb6 := hb5.trans (hb6.mono (by have := hb2.size; omega))
    clear ho3 ho6 hg6
    have k1 : ¬ (1 + (xs.length : Int) < 0) := by omega
    go_wp2_with fail
    refine (eqIntSS_any _ _ _ _ _ _ _ _ ys ys _ hr4 hr2 (by omega) (by omega)).mono ?_
    rintro e w' ⟨rfl, n3, rfl⟩
    go_wp2_with fail
    have q1 : ys.length ≤ 1048576 := by omega
    have q2 : (1 : Int) + (sumL (lens ys) : Int) ≤ 4194304 := by omega
    have q3 : w3.heap.size ≤ (w6.drewN n3).heap.size := by show _ ≤ w6.heap.size; omega
    have M := markIntSS_any _ vs4 1 ys _ _ (HO4.out.drewN n3) q1 (small_big HY2.out) (by omega) q2 q3
    have M := Lib.hid M
    clear q1 q2 q3
    refine M.out.mono ?_
    rintro e w7 ⟨rfl, ho7, hb7⟩
    have hb7 : Below w3.heap.size w6 w7 := below_of_drewN hb7
    have hs67 := hb7.size
    have hr2 := hr2.below hb7 (by omega)
    have hb7 := hb6.trans (hb7.mono (by have := hb3.size; omega))
    have hml : (markRows 1 (lens ys)).length = ys.length := by rw [markRows_len, lens_len]
    have hr7 := ho7.rd (marks_small HY2.out)
    rw [hml] at hr7
    clear hr4 hml HO4 ho7
    go_wp2_with fail
    refine (heldIntSS_any _ _ _ _ 1 (lens ys) _ hr7 (by omega) (by omega) (by omega)).mono ?_
    rintro e w' ⟨rfl, n4, rfl⟩
    have k2 : ¬ (1 + (sumL (lens ys) : Int) < 0) := by omega
    have t1 : ((1 + (sumL (lens ys) : Int)) != 1 + (sumL (lens ys) : Int)) = false := by simp
    go_wp2_with fail
    refine (T.out _ (below_drewN hb7 n4)).mono ?_
    rintro e w8 ⟨v8, rfl, ho8, hb8⟩
    have hb8 : Below w7.heap.size w7 w8 := below_of_drewN hb8
    obtain ⟨A8, c8, rfl, hr8⟩ := ho8.form
    have hs78 := hb8.size
    have hr2 := hr2.below hb8 (by omega)
    have hr7 := hr7.below hb8 (Nat.le_refl _)
    have hb8 := hb7.trans (hb8.mono hb7.size)
    clear ho8
    go_wp2_with fail
    refine (IM.out A8 c8 w8 hr8).mono ?_
    rintro e w9 ⟨v9, vs9, rfl, ho9, hb9⟩
    obtain ⟨A9, c9, rfl, hr9⟩ := ho9.form (small_big HY2.out)
    have hr2 := hr2.below hb9 (by omega)
    have hr7 := hr7.below hb9 (by omega)
    have hb9 := hb8.trans (hb9.mono hb8.size)
    clear ho9 hr8
    go_wp2_with fail
    refine (eqIntSS_any _ _ _ _ _ _ _ _ ys ys _ hr9 hr2 (by omega) (by omega)).mono ?_
    rintro e w' ⟨rfl, n5, rfl⟩
    go_wp2_with fail
    refine (heldIntSS_any _ _ _ _ 1 (lens ys) _ (hr7.drewN n5) (by omega) (by omega) (by omega)).mono ?_
    rintro e w' ⟨rfl, n6, rfl⟩
    go_wp2_with fail
    go_ret
    exact ⟨rfl, below_drewN hb9 _⟩
end Go.Proofs.Ytkflihmhkgpgkaa
