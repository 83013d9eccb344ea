/- The parts of a join of the program: the root of an item, a root that goes under another. Conditions: the nodes and the members lie in a block each; the forest is valid. -/
import Derived.Test.YtebgnaiibomjkaaHang
import Derived.Test.YtebgnaiibomjkaaTell
import Derived.Test.YtebgnaiibomjkaaShort
import Derived.Test.YtebgnaiibomjkaaArgs
import Derived.StillTailTactics
import Derived.Test.YtebgnaiibomjkaaLookFrom
import Derived.Handy
import Derived.LaidEqlPtr
namespace Go.Proofs.Ytebgnaiibomjkaa

def inRule (r : Int) : Bool := decide (0 ≤ r ∧ r ≤ 2)
/-- What a rule asks of a root. -/
def numOf (r : Int) (up : List Int) (x : Nat) : Nat := if r = 1 then szN up x else htN up x
/-- Does the first of two roots go under the second? -/
def underB (up : List Int) (r : Int) (p q : Nat) : Bool := if r = 0 then true else if numOf r up p = numOf r up q then decide (q < p) else decide (numOf r up p < numOf r up q)
def joinTo (up : List Int) (r : Int) (p q : Nat) : List Int := if underB up r p q = true then hang up p q else hang up q p
def joinL (up : List Int) (r : Int) (a b : Nat) : List Int := if rootI up a = rootI up b then up else joinTo up r (rootI up a) (rootI up b)
theorem joinTo_len (up : List Int) (r : Int) (p q : Nat) : (joinTo up r p q).length = up.length := by
  unfold joinTo
  split <;> exact hang_len _ _ _
theorem joinL_len (up : List Int) (r : Int) (a b : Nat) : (joinL up r a b).length = up.length := by
  unfold joinL
  split
  · rfl
  · exact joinTo_len _ _ _ _
theorem roots_two {up : List Int} (h : fvB up = true) {a b : Nat} (ha : a < up.length) (hb : b < up.length) (hne : rootI up a ≠ rootI up b) : Two up (rootI up a) (rootI up b) :=
  ⟨h, (root_is h ha).1, (root_is h hb).1, (root_is h ha).2, (root_is h hb).2, hne⟩
theorem joinTo_fv {up : List Int} {p q : Nat} (T : Two up p q) (r : Int) : fvB (joinTo up r p q) = true := by
  unfold joinTo
  split
  · exact hang_fv T
  · exact hang_fv T.symm
theorem joinL_fv {up : List Int} (h : fvB up = true) {a b : Nat} (ha : a < up.length) (hb : b < up.length) (r : Int) : fvB (joinL up r a b) = true := by
  unfold joinL
  split
  · exact h
  · rename_i hne
    exact joinTo_fv (roots_two h ha hb hne) r
/-- The same whichever is named first, but by the first rule. -/
theorem under_not {up : List Int} {p q : Nat} (hne : p ≠ q) {r : Int} (hr : r ≠ 0) : underB up r p q = !(underB up r q p) := by
  unfold underB
  rw [if_neg hr, if_neg hr]
  generalize numOf r up p = a
  generalize numOf r up q = b
  by_cases e : a = b
  · rw [if_pos e, if_pos e.symm]
    by_cases h : q < p
    · rw [decide_eq_true h, decide_eq_false (show ¬ p < q by omega)]; rfl
    · rw [decide_eq_false h, decide_eq_true (show p < q by omega)]; rfl
  · rw [if_neg e, if_neg (fun e2 => e e2.symm)]
    by_cases h : a < b
    · rw [decide_eq_true h, decide_eq_false (show ¬ b < a by omega)]; rfl
    · rw [decide_eq_false h, decide_eq_true (show b < a by omega)]; rfl
theorem joinTo_symm {up : List Int} {p q : Nat} (T : Two up p q) {r : Int} (hr : r ≠ 0) : joinTo up r p q = joinTo up r q p := by
  unfold joinTo
  rw [under_not T.ne hr]
  cases underB up r q p <;> simp
/-- What Join answers. -/
def joinB (up : List Int) (r a b : Int) : Bool := itemB up a && itemB up b && inRule r && !(rootN up a == rootN up b)
def joinN (up : List Int) (r a b : Int) : List Int := if joinB up r a b = true then joinL up r a.toNat b.toNat else []
theorem joinN_yes {up : List Int} {r a b : Int} (h : joinB up r a b = true) : joinN up r a b = joinL up r a.toNat b.toNat := by unfold joinN; rw [if_pos h]
theorem joinN_no {up : List Int} {r a b : Int} (h : joinB up r a b = false) : joinN up r a b = [] := by unfold joinN; rw [h]; simp
theorem joinB_parts {up : List Int} {r a b : Int} (h : joinB up r a b = true) : itemB up a = true ∧ itemB up b = true ∧ (0 ≤ r ∧ r ≤ 2) ∧ rootI up a.toNat ≠ rootI up b.toNat := by
  unfold joinB inRule at h
  simp only [Bool.and_eq_true, decide_eq_true_eq, Bool.not_eq_true', beq_eq_false_iff_ne, ne_eq] at h
  obtain ⟨⟨⟨h1, h2⟩, h3⟩, h4⟩ := h
  refine ⟨h1, h2, h3, fun e => h4 ?_⟩
  unfold rootN
  rw [if_pos h1, if_pos h2, e]
theorem joinN_len16 (up : List Int) (r a b : Int) : (joinN up r a b).length ≤ 16 := by
  cases h : joinB up r a b with
  | false => rw [joinN_no h]; simp
  | true =>
    rw [joinN_yes h, joinL_len]
    exact (fv_parts (item_fv (joinB_parts h).1)).2.1
end Go.Proofs.Ytebgnaiibomjkaa

namespace Go.Proofs.Ytebgnaiibomjkaa
open Go.RowKit Go.Shelf

set_option maxRecDepth 100000 in
set_option maxHeartbeats 4000000 in
theorem rootOf_any (J M N n i : Nat) (sz ht : Nat → Nat) (u : List Int) (w : World) (hm : MemK w M N n n sz ht) (hj : Boxed w J 136 (.slice (some ⟨M, 0, none⟩) n n)) (hN : Nd w N u) (hv : fvB u = true) (hn : u.length = n) (hi : i < n) :
    Calls Try.prog 121 #[.pointer (some ⟨J, 0, none⟩), .int .i64 (i : Int)] w fun e w' => e = .returned (.pointer (some ⟨M, rootI u i * 3, none⟩)) ∧ Below w.heap.size w w' := by
  have h16 := (fv_parts hv).2.1
  have hiu : i < u.length := by omega
  have hr := (root_is hv hiu).1
  have cJ := hj.cell
  obtain ⟨⟨c1, _, _⟩, _⟩ := hm.cells hi
  rw [if_pos hi] at c1
  obtain ⟨c2, _, _⟩ := hN.cells hr
  have RT := Lib.hid (fun (w2 : World) (hb2 : Below w.heap.size w w2) => root_any N i (wayOf u i) u w2 (hN.nodes.below hb2 hN.lt) (by have := hN.lt; have := hb2.size; omega) (fv_in hv) hiu (fv_path hv hiu))
  have HL : Hid (lastOf i (wayOf u i) = rootI u i) := rfl
  obtain ⟨r, hre⟩ : ∃ r, r = rootI u i := ⟨_, rfl⟩
  rw [← hre] at hr c2 HL ⊢
  have RT : Hid (∀ (w2 : World), Below w.heap.size w w2 → Calls Try.prog 67 #[.pointer (some ⟨N, i * 2, none⟩)] w2 fun e w' => e = .returned (.pointer (some ⟨N, r * 2, none⟩)) ∧ Below w2.heap.size w2 w') := fun w2 hb2 => by
    have := RT.out w2 hb2
    rw [HL.out] at this
    exact this
  have hrn : r < n := by omega
  have hbb : Below w.heap.size w w := Below.refl _ _
  have hii : (i : Int) < (n : Int) := by omega
  have hrr : (r : Int) < (n : Int) := by omega
  unfold nadr at c1
  clear hm hj hN hv hn h16 hiu hr hre HL
  go_enter Try.func121, Try.ntmps121
  go_wp2
  go_region_held3 (fun w' => Below w.heap.size w w' ∧ w'.cell? ⟨J, 0, none⟩ = some (.slice (some ⟨M, 0, none⟩) n n) ∧ w'.cell? ⟨M, i * 3, none⟩ = some (.pointer (some ⟨N, i * 2, none⟩)) ∧ w'.cell? ⟨N, r * 2, none⟩ = some (.int .i64 (r : Int)))
    (first | exact held3_drew ⟨by assumption, by assumption, by assumption, by assumption⟩ | exact held3_drew (by assumption) | exact held3_call (by assumption) (by assumption) (Below.size (And.left (by assumption))))
    (first | (go_at_call 67; refine (RT.out _ (‹Below w.heap.size w _ ∧ _›).1).mono ?_; rintro e w8 ⟨rfl, hb8⟩))
  have hbz := (‹Below w.heap.size w _ ∧ _›).1
  go_wp2
  go_ret
  exact ⟨rfl, hbz⟩

set_option maxRecDepth 100000 in
set_option maxHeartbeats 4000000 in
theorem goUnder_any (M N n p q : Nat) (sz ht : Nat → Nat) (u : List Int) (w : World) (hm : MemK w M N n n sz ht) (hN : Nd w N u) (hn : u.length = n) (hp : p < n) (hq : q < n) (hne : p ≠ q) (hNM : N ≠ M) (hs1 : sz p ≤ 100000) (hs2 : sz q ≤ 100000) (hh1 : ht p ≤ 100000) (_hh2 : ht q ≤ 100000) :
    Calls Try.prog 102 #[.pointer (some ⟨M, p * 3, none⟩), .pointer (some ⟨M, q * 3, none⟩)] w fun e w' => (∃ v, e = .returned v) ∧ Nd w' N (hang u p q) ∧ MemK w' M N n n (fun x => if x = q then sz q + sz p else sz x) (fun x => if x = q then max (ht q) (ht p + 1) else ht x) ∧ Chg (fun b => b = N ∨ b = M) w w' := by
  obtain ⟨⟨c1, _, _⟩, _⟩ := hm.cells hp
  obtain ⟨⟨c2, _, _⟩, _⟩ := hm.cells hq
  rw [if_pos hp] at c1
  rw [if_pos hq] at c2
  obtain ⟨_, c3, f3⟩ := hN.cells (x := p) (by omega)
  have HN1 := Lib.hid (hN.hang (p := p) (q := q) (by omega) (fun e => hne e.symm))
  have HM1 := Lib.hid (hm.other hNM (p * 2 + 1) (.pointer (some (nadr N q))))
  unfold nadr at c1 c2 HN1 HM1
  clear hm hN
  go_enter Try.func102, Try.ntmps102
  go_wp2
  go_region
  obtain ⟨V, hV⟩ : ∃ V, V = (w.setCell ⟨N, p * 2 + 1, none⟩ (.pointer (some ⟨N, q * 2, none⟩))).drew := ⟨_, rfl⟩
  rw [← hV]
  have hN1 : Nd V N (hang u p q) := by rw [hV]; exact HN1.out
  have hM1 : MemK V M N n n sz ht := by rw [hV]; exact HM1.out
  have hC1 : Chg (fun b => b = N ∨ b = M) w V := by rw [hV]; exact ((Chg.refl _ w).set (B := N) (.inl (.inl rfl)) _ _).drew
  obtain ⟨⟨_, d1, _⟩, _, _, _⟩ := hM1.cells hp
  obtain ⟨⟨_, d2, _⟩, _, fd2, _⟩ := hM1.cells hq
  have HH := Lib.hid (And.intro hN1 (And.intro hM1 hC1))
  clear hN1 hM1 hC1 hV c1 c2 c3 f3 HN1 HM1
  go_wp2
  go_region
  obtain ⟨V2, hV2⟩ : ∃ V2, V2 = (V.setCell ⟨M, q * 3 + 1, none⟩ (.int .i64 ((sz q : Int) + (sz p : Int)))).drew := ⟨_, rfl⟩
  rw [← hV2]
  have hN2 : Nd V2 N (hang u p q) := by rw [hV2]; exact HH.out.1.eq (Below.heap_setCell V ⟨M, q * 3 + 1, none⟩ _ N hNM)
  have hM2 : MemK V2 M N n n (fun x => if x = q then sz q + sz p else sz x) ht := by
    rw [hV2]
    have := HH.out.2.1.size hq (sz q + sz p)
    rw [show ((sz q + sz p : Nat) : Int) = (sz q : Int) + (sz p : Int) by omega] at this
    exact this
  have hC2 : Chg (fun b => b = N ∨ b = M) w V2 := by rw [hV2]; exact (HH.out.2.2.set (B := M) (.inl (.inr rfl)) _ _).drew
  obtain ⟨⟨_, _, e1⟩, _, _, _⟩ := hM2.cells hp
  obtain ⟨⟨_, _, e2⟩, _, _, fe2⟩ := hM2.cells hq
  have e1 : V2.cell? ⟨M, p * 3 + 1 + 1, none⟩ = some (.int .i64 (ht p : Int)) := e1
  have e2 : V2.cell? ⟨M, q * 3 + 1 + 1, none⟩ = some (.int .i64 (ht q : Int)) := e2
  have fe2 : V2.frozen? ⟨M, q * 3 + 1 + 1, none⟩ = false := fe2
  have HH2 := Lib.hid (And.intro hN2 (And.intro hM2 hC2))
  clear hN2 hM2 hC2 hV2 d1 d2 fd2 HH
  have HE : Hid (∀ z : Nat, z = max (ht q) (ht p + 1) → Nd ((V2.setCell ⟨M, q * 3 + 1 + 1, none⟩ (.int .i64 (z : Int))).drew) N (hang u p q) ∧ MemK ((V2.setCell ⟨M, q * 3 + 1 + 1, none⟩ (.int .i64 (z : Int))).drew) M N n n (fun x => if x = q then sz q + sz p else sz x) (fun x => if x = q then max (ht q) (ht p + 1) else ht x) ∧ Chg (fun b => b = N ∨ b = M) w ((V2.setCell ⟨M, q * 3 + 1 + 1, none⟩ (.int .i64 (z : Int))).drew)) := fun z hz => by
    rw [← hz]
    exact ⟨HH2.out.1.eq (Below.heap_setCell V2 ⟨M, q * 3 + 1 + 1, none⟩ _ N hNM), HH2.out.2.1.height hq z, (HH2.out.2.2.set (B := M) (.inl (.inr rfl)) _ _).drew⟩
  by_cases hlt : (ht q : Int) < (ht p : Int) + 1
  · go_wp2
    go_region
    go_wp2
    go_end0
    refine ⟨⟨_, rfl⟩, ?_⟩
    exact HE.out (ht p + 1) (by omega)
  · go_wp2
    go_region
    go_wp2
    go_end0
    refine ⟨⟨_, rfl⟩, ?_⟩
    exact HE.out (ht q) (by omega)
end Go.Proofs.Ytebgnaiibomjkaa

namespace Go.Proofs.Ytebgnaiibomjkaa
open Go.RowKit Go.Shelf

theorem isNaN_any (a : Int) (w : World) : Calls Try.prog 166 #[.int .i64 a] w fun e w' => e = .returned (.bool false) ∧ w = w' := by
  have h : (a != a) = false := by simp
  go_enter Try.func166, Try.ntmps166
  go_wp2
  go_ret
  exact ⟨rfl, rfl⟩
def cmpJ (a b : Int) : Int := if a < b then -1 else if b < a then 1 else 0
set_option maxHeartbeats 1000000 in
theorem compare_any (a b : Int) (w : World) : Calls Try.prog 165 #[.int .i64 a, .int .i64 b] w fun e w' => e = .returned (.int .i64 (cmpJ a b)) ∧ w = w' := by
  obtain ⟨r, hr⟩ : ∃ r, r = cmpJ a b := ⟨_, rfl⟩
  rw [← hr]
  unfold cmpJ at hr
  by_cases h1 : a < b
  · rw [if_pos h1] at hr
    subst hr
    go_enter Try.func165, Try.ntmps165
    go_wp2_with (first | (go_at_call 166; refine (isNaN_any _ _).mono ?_; rintro e w' ⟨rfl, rfl⟩))
    go_ret
    exact ⟨rfl, rfl⟩
  · rw [if_neg h1] at hr
    by_cases h2 : b < a
    · rw [if_pos h2] at hr
      subst hr
      go_enter Try.func165, Try.ntmps165
      go_wp2_with (first | (go_at_call 166; refine (isNaN_any _ _).mono ?_; rintro e w' ⟨rfl, rfl⟩))
      go_ret
      exact ⟨rfl, rfl⟩
    · rw [if_neg h2] at hr
      subst hr
      go_enter Try.func165, Try.ntmps165
      go_wp2_with (first | (go_at_call 166; refine (isNaN_any _ _).mono ?_; rintro e w' ⟨rfl, rfl⟩))
      go_ret
      exact ⟨rfl, rfl⟩
def orI (x y : Int) : Int := if x = 0 then y else x
set_option maxHeartbeats 1000000 in
theorem or_any (b : Nat) (x y : Int) (w : World) (h1 : w.cell? ⟨b, 0, none⟩ = some (.int .i64 x)) (h2 : w.cell? ⟨b, 1, none⟩ = some (.int .i64 y)) : Calls Try.prog 164 #[.slice (some ⟨b, 0, none⟩) 2 2] w fun e w' => e = .returned (.int .i64 (orI x y)) ∧ w = w' := by
  obtain ⟨r, hr⟩ : ∃ r, r = orI x y := ⟨_, rfl⟩
  rw [← hr]
  unfold orI at hr
  have HR := Lib.hid hr
  clear hr
  go_enter Try.func164, Try.ntmps164
  go_wp2
  go_loopw [8] (fun i wr => ∃ k : Nat, k ≤ 2 ∧ i = .int .i64 k ∧ w = wr ∧ Hid ((0 < k → x = 0) ∧ (1 < k → y = 0))) (fun i _ => 2 - (intOf i).toNat)
  case atStart => exact ⟨0, by omega, rfl, rfl, ⟨fun h => absurd h (by omega), fun h => absurd h (by omega)⟩⟩
  case round =>
    obtain ⟨k, hk, rfl, rfl, HZ⟩ := hrel
    rcases (show k = 0 ∨ k = 1 ∨ k = 2 by omega) with rfl | rfl | rfl
    · by_cases hx : x = 0
      · have HZ2 : Hid ((0 < 1 → x = 0) ∧ (1 < 1 → y = 0)) := ⟨fun _ => hx, fun h => absurd h (by omega)⟩
        have hx2 : (x != 0) = false := by simp [hx]
        clear hx HZ
        go_wp2
        go_roundw
        case rel => exact ⟨1, by omega, by go_num, trivial, HZ2⟩
        case measure => simp [intOf]
      · have e : Hid (r = x) := by
          show _ = _
          rw [HR.out, if_neg hx]
        have hx2 : (x != 0) = true := by simp [hx]
        clear hx
        go_wp2
        go_ret
        exact ⟨ret_int e.out.symm, rfl⟩
    · have h0 := HZ.out.1 (by omega)
      have e0 : Hid (r = y) := by
        show _ = _
        rw [HR.out, if_pos h0]
      clear h0
      by_cases hy : y = 0
      · have HZ2 : Hid ((0 < 2 → x = 0) ∧ (1 < 2 → y = 0)) := ⟨fun _ => HZ.out.1 (by omega), fun _ => hy⟩
        have hy2 : (y != 0) = false := by simp [hy]
        clear hy HZ
        go_wp2
        go_roundw
        case rel => exact ⟨2, by omega, by go_num, trivial, HZ2⟩
        case measure => simp [intOf]
      · have hy2 : (y != 0) = true := by simp [hy]
        clear hy
        go_wp2
        go_ret
        exact ⟨ret_int e0.out.symm, rfl⟩
    · have e0 : Hid (r = 0) := by
        show _ = _
        rw [HR.out, if_pos (HZ.out.1 (by omega)), HZ.out.2 (by omega)]
      go_wp2
      go_ret
      exact ⟨ret_int e0.out.symm, rfl⟩

/-- The first has less, or as much and the greater number. -/
def laterB (a b : Int) (p q : Nat) : Bool := decide (orI (cmpJ a b) (cmpJ (q : Int) (p : Int)) < 0)
theorem two_cells (w : World) (x y : Int) : (w.alloc (.cells #[.int .i64 x, .int .i64 y] 3)).cell? ⟨w.heap.size, 0, none⟩ = some (.int .i64 x) ∧ (w.alloc (.cells #[.int .i64 x, .int .i64 y] 3)).cell? ⟨w.heap.size, 1, none⟩ = some (.int .i64 y) := by
  have h := Own.lit w w.heap.size [x, y] (Nat.le_refl _) (by simp)
  exact ⟨h.slot (k := 0) (by simp), h.slot (k := 1) (by simp)⟩
set_option maxRecDepth 100000 in
set_option maxHeartbeats 4000000 in
theorem lessOrLater_any (M N n p q : Nat) (sz ht : Nat → Nat) (u : List Int) (a b : Int) (w : World) (hm : MemK w M N n n sz ht) (hN : Nd w N u) (hn : u.length = n) (hp : p < n) (hq : q < n) :
    Calls Try.prog 163 #[.pointer (some ⟨M, p * 3, none⟩), .pointer (some ⟨M, q * 3, none⟩), .int .i64 a, .int .i64 b] w fun e w' => e = .returned (.bool (laterB a b p q)) ∧ Below w.heap.size w w' := by
  obtain ⟨⟨c1, _, _⟩, _⟩ := hm.cells hp
  obtain ⟨⟨c2, _, _⟩, _⟩ := hm.cells hq
  rw [if_pos hp] at c1
  rw [if_pos hq] at c2
  obtain ⟨d1, _, _⟩ := hN.cells (x := p) (by omega)
  obtain ⟨d2, _, _⟩ := hN.cells (x := q) (by omega)
  unfold nadr at c1 c2
  have K1 : Calls Try.prog 165 #[.int .i64 a, .int .i64 b] w.drew fun e w' => e = .returned (.int .i64 (cmpJ a b)) ∧ w' = w.drew := (compare_any a b w.drew).mono fun _ _ ⟨h1, h2⟩ => ⟨h1, h2.symm⟩
  have K2 : Calls Try.prog 165 #[.int .i64 (q : Int), .int .i64 (p : Int)] w.drew fun e w' => e = .returned (.int .i64 (cmpJ (q : Int) (p : Int))) ∧ w' = w.drew := (compare_any (q : Int) (p : Int) w.drew).mono fun _ _ ⟨h1, h2⟩ => ⟨h1, h2.symm⟩
  obtain ⟨r, hr⟩ : ∃ r, r = laterB a b p q := ⟨_, rfl⟩
  rw [← hr]
  have HR := Lib.hid hr
  unfold laterB at HR
  obtain ⟨x, hx⟩ : ∃ x, x = cmpJ a b := ⟨_, rfl⟩
  obtain ⟨y, hy⟩ : ∃ y, y = cmpJ (q : Int) (p : Int) := ⟨_, rfl⟩
  rw [← hx] at K1 HR
  rw [← hy] at K2 HR
  have T := two_cells w.drew x y
  have OR := Lib.hid (or_any w.drew.heap.size x y _ T.1 T.2)
  obtain ⟨z, hz⟩ : ∃ z, z = orI x y := ⟨_, rfl⟩
  rw [← hz] at OR HR
  have K1 := Lib.hid K1
  have K2 := Lib.hid K2
  clear hm hN hr hx hy hz T
  go_enter Try.func163, Try.ntmps163
  go_wp2
  refine wp_region_still_tail 18 (by kernel_rfl) (by kernel_rfl) ?_
  simp only [List.take_succ_cons, List.take_zero, List.drop_succ_cons, List.drop_zero]
  iterate 2 still_step
  still_call K1.out
  iterate 14 still_step
  still_call K2.out
  refine wpStill_nil ?_
  change wpList _ _ _ _ _ w.drew
  have hbd : Below w.heap.size w (w.drew.alloc (.cells #[.int .i64 x, .int .i64 y] 3)) := (⟨rfl, rfl, rfl, Nat.le_refl _, fun _ _ => rfl⟩ : Below w.heap.size w w.drew).alloc (Nat.le_refl _) _
  have HBD := Lib.hid hbd
  clear hbd c1 c2 d1 d2
  go_wp2_with fail
  refine OR.out.mono ?_
  rintro e w2 ⟨rfl, rfl⟩
  go_wp2
  go_ret
  exact ⟨ret_bool HR.out.symm, HBD.out⟩

theorem cmpJ_lt {a b : Int} (h : a < b) : cmpJ a b = -1 := by unfold cmpJ; rw [if_pos h]
theorem cmpJ_gt {a b : Int} (h : b < a) : cmpJ a b = 1 := by unfold cmpJ; rw [if_neg (by omega), if_pos h]
theorem cmpJ_eq (a : Int) : cmpJ a a = 0 := by unfold cmpJ; rw [if_neg (by omega), if_neg (by omega)]
theorem later_nat (a b p q : Nat) : laterB (a : Int) (b : Int) p q = if a = b then decide (q < p) else decide (a < b) := by
  unfold laterB orI
  rcases Nat.lt_trichotomy a b with h | h | h
  · rw [cmpJ_lt (show (a : Int) < (b : Int) by omega), if_neg (by omega), if_neg (by omega), decide_eq_true h]
    rfl
  · subst h
    rw [cmpJ_eq, if_pos rfl, if_pos rfl]
    rcases Nat.lt_trichotomy q p with h | h | h
    · rw [cmpJ_lt (show (q : Int) < (p : Int) by omega), decide_eq_true h]
      rfl
    · subst h
      rw [cmpJ_eq, decide_eq_false (show ¬ q < q by omega)]
      rfl
    · rw [cmpJ_gt (show (p : Int) < (q : Int) by omega), decide_eq_false (show ¬ q < p by omega)]
      rfl
  · rw [cmpJ_gt (show (b : Int) < (a : Int) by omega), if_neg (by omega), if_neg (by omega), decide_eq_false (show ¬ a < b by omega)]
    rfl
theorem later_size (u : List Int) (p q : Nat) : laterB (szN u p : Int) (szN u q : Int) p q = underB u 1 p q := by
  rw [later_nat]
  rfl
theorem later_height (u : List Int) (p q : Nat) : laterB (htN u p : Int) (htN u q : Int) p q = underB u 2 p q := by
  rw [later_nat]
  rfl
/-- The type of a rule's value. -/
def ruleT (r : Int) : Nat := if r = 0 then 128 else if r = 1 then 104 else 129
def ruleF (r : Int) : Nat := if r = 0 then 167 else if r = 1 then 162 else 168
set_option maxRecDepth 100000 in
set_option maxHeartbeats 4000000 in
theorem plainGoes_any (a b : Option Addr) (w : World) : Calls Try.prog 167 #[.agg #[], .pointer a, .pointer b] w fun e w' => e = .returned (.bool true) ∧ Below w.heap.size w w' := by
  go_enter Try.func167, Try.ntmps167
  go_wp2
  go_ret
  exact ⟨rfl, (Below.refl _ w).alloc (Nat.le_refl _) _⟩
set_option maxRecDepth 100000 in
set_option maxHeartbeats 4000000 in
theorem sizeGoes_any (M N n p q : Nat) (sz ht : Nat → Nat) (u : List Int) (w : World) (hm : MemK w M N n n sz ht) (hN : Nd w N u) (hn : u.length = n) (hp : p < n) (hq : q < n) :
    Calls Try.prog 162 #[.agg #[], .pointer (some ⟨M, p * 3, none⟩), .pointer (some ⟨M, q * 3, none⟩)] w fun e w' => e = .returned (.bool (laterB (sz p : Int) (sz q : Int) p q)) ∧ Below w.heap.size w w' := by
  obtain ⟨⟨_, c1, _⟩, _⟩ := hm.cells hp
  obtain ⟨⟨_, c2, _⟩, _⟩ := hm.cells hq
  have LL := Lib.hid (fun (w2 : World) (hb2 : Below w.heap.size w w2) => lessOrLater_any M N n p q sz ht u (sz p : Int) (sz q : Int) w2 (hm.below hb2 hm.lt) (hN.eq (hb2.block N hN.lt)) hn hp hq)
  obtain ⟨W, hW⟩ : ∃ W, W = w.alloc (.cells #[] 104) := ⟨_, rfl⟩
  have hba : Below w.heap.size w W := by rw [hW]; exact (Below.refl w.heap.size w).alloc (Nat.le_refl _) _
  have g1 := (hba.cell (p := ⟨M, p * 3 + 1, none⟩) hm.lt).trans c1
  have g2 := (hba.cell (p := ⟨M, q * 3 + 1, none⟩) hm.lt).trans c2
  have hbd : Below w.heap.size w W.drew := ⟨hba.os, hba.tape, hba.output, hba.size, hba.block⟩
  have LD := Lib.hid (LL.out W.drew hbd)
  have HBD := Lib.hid hbd
  have HW := Lib.hid hW
  clear hm hN c1 c2 hba hbd hW LL
  go_enter Try.func162, Try.ntmps162
  go_wp2
  rw [← HW.out]
  refine wp_region_still_tail 12 (by kernel_rfl) (by kernel_rfl) ?_
  simp only [List.take_succ_cons, List.take_zero, List.drop_succ_cons, List.drop_zero]
  iterate 12 still_step
  refine wpStill_nil ?_
  change wpList _ _ _ _ _ W.drew
  clear g1 g2 HW
  go_wp2_with fail
  refine LD.out.mono ?_
  rintro e w2 ⟨rfl, hb2⟩
  go_wp2
  go_ret
  exact ⟨rfl, HBD.out.trans (hb2.mono HBD.out.size)⟩
set_option maxRecDepth 100000 in
set_option maxHeartbeats 4000000 in
theorem heightGoes_any (M N n p q : Nat) (sz ht : Nat → Nat) (u : List Int) (w : World) (hm : MemK w M N n n sz ht) (hN : Nd w N u) (hn : u.length = n) (hp : p < n) (hq : q < n) :
    Calls Try.prog 168 #[.agg #[], .pointer (some ⟨M, p * 3, none⟩), .pointer (some ⟨M, q * 3, none⟩)] w fun e w' => e = .returned (.bool (laterB (ht p : Int) (ht q : Int) p q)) ∧ Below w.heap.size w w' := by
  obtain ⟨⟨_, _, c1⟩, _⟩ := hm.cells hp
  obtain ⟨⟨_, _, c2⟩, _⟩ := hm.cells hq
  have LL := Lib.hid (fun (w2 : World) (hb2 : Below w.heap.size w w2) => lessOrLater_any M N n p q sz ht u (ht p : Int) (ht q : Int) w2 (hm.below hb2 hm.lt) (hN.eq (hb2.block N hN.lt)) hn hp hq)
  obtain ⟨W, hW⟩ : ∃ W, W = w.alloc (.cells #[] 129) := ⟨_, rfl⟩
  have hba : Below w.heap.size w W := by rw [hW]; exact (Below.refl w.heap.size w).alloc (Nat.le_refl _) _
  have g1 : W.cell? ⟨M, p * 3 + 1 + 1, none⟩ = some (.int .i64 (ht p : Int)) := (hba.cell (p := ⟨M, p * 3 + 2, none⟩) hm.lt).trans c1
  have g2 : W.cell? ⟨M, q * 3 + 1 + 1, none⟩ = some (.int .i64 (ht q : Int)) := (hba.cell (p := ⟨M, q * 3 + 2, none⟩) hm.lt).trans c2
  have hbd : Below w.heap.size w W.drew := ⟨hba.os, hba.tape, hba.output, hba.size, hba.block⟩
  have LD := Lib.hid (LL.out W.drew hbd)
  have HBD := Lib.hid hbd
  have HW := Lib.hid hW
  clear hm hN c1 c2 hba hbd hW LL
  go_enter Try.func168, Try.ntmps168
  go_wp2
  rw [← HW.out]
  refine wp_region_still_tail 12 (by kernel_rfl) (by kernel_rfl) ?_
  simp only [List.take_succ_cons, List.take_zero, List.drop_succ_cons, List.drop_zero]
  iterate 12 still_step
  refine wpStill_nil ?_
  change wpList _ _ _ _ _ W.drew
  clear g1 g2 HW
  go_wp2_with fail
  refine LD.out.mono ?_
  rintro e w2 ⟨rfl, hb2⟩
  go_wp2
  go_ret
  exact ⟨rfl, HBD.out.trans (hb2.mono HBD.out.size)⟩
end Go.Proofs.Ytebgnaiibomjkaa

namespace Go.Proofs.Ytebgnaiibomjkaa
open Go.RowKit Go.Shelf

theorem nx_list {u : List Int} (hb : InB u) : ((List.range u.length).map fun x : Nat => (nx u x : Int)) = u := by
  refine List.ext_getElem (by simp) fun i h1 h2 => ?_
  rw [List.getElem_map, List.getElem_range, nx_links hb h2, List.getElem?_eq_getElem h2]
  rfl
theorem ruleFor_no (r : Int) (h : ¬ (0 ≤ r ∧ r ≤ 2)) (w : World) : Calls Try.prog 56 #[.int .i64 r] w fun e w' => e = .returned .nilIface ∧ w = w' := by
  have h0 : (r == 0) = false := by simp; omega
  have h1 : (r == 1) = false := by simp; omega
  have h2 : (r == 2) = false := by simp; omega
  clear h
  go_enter Try.func56, Try.ntmps56
  go_wp2
  go_ret
  exact ⟨rfl, rfl⟩
theorem ruleFor_yes (r : Int) (h : 0 ≤ r ∧ r ≤ 2) (w : World) : Calls Try.prog 56 #[.int .i64 r] w fun e w' => e = .returned (.iface (ruleT r) (.agg #[])) ∧ w = w' := by
  rcases (show r = 0 ∨ r = 1 ∨ r = 2 by omega) with rfl | rfl | rfl
  · go_enter Try.func56, Try.ntmps56
    go_wp2
    go_ret
    exact ⟨rfl, rfl⟩
  · go_enter Try.func56, Try.ntmps56
    go_wp2
    go_ret
    exact ⟨rfl, rfl⟩
  · go_enter Try.func56, Try.ntmps56
    go_wp2
    go_ret
    exact ⟨rfl, rfl⟩

set_option maxRecDepth 100000 in
set_option maxHeartbeats 2000000 in
theorem forest_any (J M N n : Nat) (sz ht : Nat → Nat) (u : List Int) (w : World) (hm : MemK w M N n n sz ht) (hj : Boxed w J 136 (.slice (some ⟨M, 0, none⟩) n n)) (hN : Nd w N u) (hv : fvB u = true) (hn : u.length = n) (hb : n ≤ 1048576) :
    Calls Try.prog 59 #[.pointer (some ⟨J, 0, none⟩)] w fun e w' => ∃ v, e = .returned v ∧ Own w' w.heap.size v u ∧ Below w.heap.size w w' := by
  have cJ := hj.cell
  have HJ := Lib.hid hj
  have HM := Lib.hid hm
  have HNd := Lib.hid hN
  have HV := Lib.hid hv
  have HN := Lib.hid hn
  obtain ⟨i0, hi, hz0, hz1, hz2⟩ := info_parts Try.info_int
  clear hj hm hN hv hn
  go_enter Try.func59, Try.ntmps59
  go_wp2_with (at_make; go_must (refine wpList_make_full _ rfl _ _ 23 rfl w.heap.size 3 i0 (.int .i64 0) 1 Try.underlying23 hi hz0 hz1 .i64 .i64 _ _ n rfl rfl rfl rfl (by rw [hz2]; omega) (by unfold maxLen; omega) (Nat.le_refl _) ?_); intro w1 hown hgrow; have hb1 : Below w.heap.size w w1 := (Below.refl _ w).grown hgrow (Nat.le_refl _) (fun k e => by cases e); have cJ1 := (World.cell?_of_block (hb1.block J HJ.out.lt)).trans cJ)
  have H0 : Hid (Own w1 w.heap.size (.slice (some ⟨w.heap.size, 0, none⟩) n n) (tellL (nx u) n 0)) := by
    rw [tellL_zero]
    exact Own.made hown
  clear hown hgrow hi hz0 hz1 hz2
  go_loopw [17] (fun i wr => ∃ k : Nat, k ≤ n ∧ i = .int .i64 k ∧ Hid (Own wr w.heap.size (.slice (some ⟨w.heap.size, 0, none⟩) n n) (tellL (nx u) n k)) ∧ Below w.heap.size w wr) (fun i _ => n - (intOf i).toNat)
  case atStart => exact ⟨0, Nat.zero_le _, rfl, H0, hb1⟩
  case round =>
    obtain ⟨k, hk, rfl, HO, hbe⟩ := hrel
    clear H0 hb1 cJ cJ1
    by_cases hlt : k < n
    · obtain ⟨⟨q1, q2, q3⟩, _⟩ := (HM.out.below hbe HM.out.lt).cells hlt
      rw [if_pos hlt] at q1
      have hkk : (k : Int) < (n : Int) := by omega
      obtain ⟨w2, hw2⟩ : ∃ w2, w2 = ((wr.alloc (.cells #[.pointer (some (nadr N k)), .int .i64 (sz k : Int), .int .i64 (ht k : Int)] 114))) := ⟨_, rfl⟩
      have hb2 : Below w.heap.size w w2 := by rw [hw2]; exact (hbe.alloc hbe.size _)
      have hO2 : Own w2 w.heap.size (.slice (some ⟨w.heap.size, 0, none⟩) n n) (tellL (nx u) n k) := by
        rw [hw2]
        exact HO.out.keep ((Below.refl _ wr).alloc (Nat.le_refl _) _) (Nat.le_refl _)
      have LK := Lib.hid (link_any N k u w2 ((HNd.out.eq (hb2.block N HNd.out.lt)).nodes) HV.out (by rw [HN.out]; exact hlt))
      have HO3 : Hid (∀ w3, Below w2.heap.size w2 w3 → Own w3 w.heap.size (.slice (some ⟨w.heap.size, 0, none⟩) n n) (tellL (nx u) n k) ∧ Below w.heap.size w w3) := fun w3 hb3 => ⟨hO2.keep hb3 (Nat.le_refl _), hb2.trans (hb3.mono hb2.size)⟩
      clear HO hbe hb2 hO2
      subst hw2
      go_wp2_with fail
      refine LK.out.mono ?_
      rintro e w3 ⟨rfl, hb3⟩
      obtain ⟨ho, hbe⟩ := HO3.out w3 hb3
      have hsl := ho.slot hlt
      have hfr := ho.free k
      have hns := ho.set_ k (nx u k : Int)
      rw [tellL_set (nx u) hlt] at hns
      have HNS := Lib.hid hns
      have hb4 := Lib.hid (hbe.setCell (p := ⟨w.heap.size, k, none⟩) (Nat.le_refl _) (.int .i64 (nx u k : Int)))
      clear hns ho hbe hb3 q1 q2 q3
      go_wp2
      go_roundw
      case rel => exact ⟨k + 1, by omega, by go_num, HNS, hb4.out⟩
      case measure => simp [intOf]; omega
    · obtain rfl : k = n := by omega
      go_wp2
      go_ret
      refine ⟨_, rfl, ?_, hbe⟩
      have := HO.out
      rw [← HN.out, tellL_all, nx_list (fv_in HV.out)] at this
      rw [← HN.out]
      exact this
end Go.Proofs.Ytebgnaiibomjkaa

namespace Go.Proofs.Ytebgnaiibomjkaa
open Go.RowKit Go.Shelf

set_option maxRecDepth 100000 in
set_option maxHeartbeats 2000000 in
theorem pairsValid_one (n a b : Int) (P : Nat) (r : Bool) (hr : r = decide (0 ≤ min a b ∧ max a b < n)) (w : World) (h1 : w.cell? ⟨P, 0, none⟩ = some (.int .i64 a)) (h2 : w.cell? ⟨P, 1, none⟩ = some (.int .i64 b)) :
    Calls Try.prog 57 #[.int .i64 n, .slice (some ⟨P, 0, none⟩) 1 1] w fun e w' => e = .returned (.bool r) ∧ Below w.heap.size w w' := by
  have HR := Lib.hid hr
  clear hr
  go_enter Try.func57, Try.ntmps57
  go_wp2
  go_loopw [12] (fun i wr => ∃ k : Nat, k ≤ 1 ∧ i = .int .i64 k ∧ Hid (k = 0 → wr = w) ∧ Hid (k = 1 → r = true) ∧ Below w.heap.size w wr) (fun i _ => 1 - (intOf i).toNat)
  case atStart => exact ⟨0, by omega, rfl, fun _ => rfl, fun h => absurd h (by omega), Below.refl _ _⟩
  case round =>
    obtain ⟨k, hk, rfl, hw, HT, hbe⟩ := hrel
    rcases (show k = 0 ∨ k = 1 by omega) with rfl | rfl
    · have e := hw.out rfl
      subst e
      have hba : Below wr.heap.size wr (wr.alloc (.cells #[.int .i64 a, .int .i64 b] 42)) := (Below.refl _ wr).alloc (Nat.le_refl _) _
      have HBA := Lib.hid hba
      clear hbe hw HT hba
      rcases Int.lt_trichotomy a b with hab | hab | hab
      · have hle : a ≤ b := by omega
        by_cases hl : a < 0
        · have HF : Hid (r = false) := by
            show _ = _
            rw [HR.out, decide_eq_false (by omega)]
          clear HR
          go_wp2
          go_ret
          exact ⟨ret_bool HF.out.symm, HBA.out⟩
        · by_cases hh : n ≤ b
          · have HF : Hid (r = false) := by
              show _ = _
              rw [HR.out, decide_eq_false (by omega)]
            clear HR
            go_wp2
            go_ret
            exact ⟨ret_bool HF.out.symm, HBA.out⟩
          · have HF : Hid (r = true) := by
              show _ = _
              rw [HR.out, decide_eq_true (by omega)]
            clear HR
            go_wp2
            go_roundw
            case rel => exact ⟨1, by omega, by go_num, fun h => absurd h (by omega), fun _ => HF.out, HBA.out⟩
            case measure => simp [intOf]
      · subst hab
        by_cases hl : a < 0
        · have HF : Hid (r = false) := by
            show _ = _
            rw [HR.out, decide_eq_false (by omega)]
          clear HR
          go_wp2
          go_ret
          exact ⟨ret_bool HF.out.symm, HBA.out⟩
        · by_cases hh : n ≤ a
          · have HF : Hid (r = false) := by
              show _ = _
              rw [HR.out, decide_eq_false (by omega)]
            clear HR
            go_wp2
            go_ret
            exact ⟨ret_bool HF.out.symm, HBA.out⟩
          · have HF : Hid (r = true) := by
              show _ = _
              rw [HR.out, decide_eq_true (by omega)]
            clear HR
            go_wp2
            go_roundw
            case rel => exact ⟨1, by omega, by go_num, fun h => absurd h (by omega), fun _ => HF.out, HBA.out⟩
            case measure => simp [intOf]
      · have hle : ¬ a ≤ b := by omega
        have hlt : ¬ a < b := by omega
        by_cases hl : b < 0
        · have HF : Hid (r = false) := by
            show _ = _
            rw [HR.out, decide_eq_false (by omega)]
          clear HR
          go_wp2
          go_ret
          exact ⟨ret_bool HF.out.symm, HBA.out⟩
        · by_cases hh : n ≤ a
          · have HF : Hid (r = false) := by
              show _ = _
              rw [HR.out, decide_eq_false (by omega)]
            clear HR
            go_wp2
            go_ret
            exact ⟨ret_bool HF.out.symm, HBA.out⟩
          · have HF : Hid (r = true) := by
              show _ = _
              rw [HR.out, decide_eq_true (by omega)]
            clear HR
            go_wp2
            go_roundw
            case rel => exact ⟨1, by omega, by go_num, fun h => absurd h (by omega), fun _ => HF.out, HBA.out⟩
            case measure => simp [intOf]
    · have HF : Hid (r = true) := HT.out rfl
      go_wp2
      go_ret
      exact ⟨ret_bool HF.out.symm, hbe⟩
end Go.Proofs.Ytebgnaiibomjkaa

namespace Go.Proofs.Ytebgnaiibomjkaa
open Go.RowKit Go.Shelf

/-- What the members of the roots tell is right. -/
def RootsTell (u : List Int) (sz ht : Nat → Nat) : Prop := ∀ x, x < u.length → step u x = none → sz x = szN u x ∧ ht x = htN u x
theorem RootsTell.all (u : List Int) : RootsTell u (szN u) (htN u) := fun _ _ _ => ⟨rfl, rfl⟩
theorem RootsTell.hang {u : List Int} {p q : Nat} {sz ht : Nat → Nat} (h : RootsTell u sz ht) (T : Two u p q) :
    RootsTell (hang u p q) (fun x => if x = q then sz q + sz p else sz x) (fun x => if x = q then max (ht q) (ht p + 1) else ht x) := by
  intro x hx hr
  rw [hang_len] at hx
  obtain ⟨hne, hr⟩ := (hang_isroot T).1 hr
  obtain ⟨p1, p2⟩ := h p T.hp T.rp
  obtain ⟨q1, q2⟩ := h q T.hq T.rq
  by_cases e : x = q
  · subst e
    simp only [if_true]
    exact ⟨by rw [hang_sz T, p1, q1], by rw [hang_ht T, p2, q2]⟩
  · simp only [if_neg e]
    rw [hang_sz_other T hr hne e, hang_ht_other T hr hne e]
    exact h x hx hr
theorem szN_leJ (u : List Int) (x : Nat) : szN u x ≤ u.length := szTo_le _ _ _
theorem htN_leJ {u : List Int} (h : fvB u = true) (x : Nat) : htN u x ≤ 16 := by
  have h1 : htN u x = htTo u u.length x := rfl
  have h2 := htTo_bound h (Nat.le_refl _) x
  omega
theorem pair_cells (w : World) (x y : Int) : (w.alloc (.cells #[.int .i64 x, .int .i64 y] 42)).cell? ⟨w.heap.size, 0, none⟩ = some (.int .i64 x) ∧ (w.alloc (.cells #[.int .i64 x, .int .i64 y] 42)).cell? ⟨w.heap.size, 1, none⟩ = some (.int .i64 y) := by
  have h := World.alloc_heap_new w (.cells #[.int .i64 x, .int .i64 y] 42)
  constructor
  · unfold World.cell?
    rw [h]
    rfl
  · unfold World.cell?
    rw [h]
    rfl
/-- The three rules as one. -/
theorem goes_any (r : Int) (hr : 0 ≤ r ∧ r ≤ 2) (M N n p q : Nat) (sz ht : Nat → Nat) (u : List Int) (w : World) (hm : MemK w M N n n sz ht) (hN : Nd w N u) (hn : u.length = n) (T : Two u p q) (hs : RootsTell u sz ht) :
    Calls Try.prog (ruleF r) #[.agg #[], .pointer (some ⟨M, p * 3, none⟩), .pointer (some ⟨M, q * 3, none⟩)] w fun e w' => e = .returned (.bool (underB u r p q)) ∧ Below w.heap.size w w' := by
  obtain ⟨p1, p2⟩ := hs p T.hp T.rp
  obtain ⟨q1, q2⟩ := hs q T.hq T.rq
  rcases (show r = 0 ∨ r = 1 ∨ r = 2 by omega) with rfl | rfl | rfl
  · exact plainGoes_any _ _ _
  · have := sizeGoes_any M N n p q sz ht u w hm hN hn (by have := T.hp; omega) (by have := T.hq; omega)
    rw [p1, q1, later_size] at this
    exact this
  · have := heightGoes_any M N n p q sz ht u w hm hN hn (by have := T.hp; omega) (by have := T.hq; omega)
    rw [p2, q2, later_height] at this
    exact this

/-- The root that goes under, and the one it goes under. -/
def lowI (u : List Int) (r : Int) (p q : Nat) : Nat := if underB u r p q = true then p else q
def uppI (u : List Int) (r : Int) (p q : Nat) : Nat := if underB u r p q = true then q else p
theorem joinTo_low (u : List Int) (r : Int) (p q : Nat) : joinTo u r p q = hang u (lowI u r p q) (uppI u r p q) := by
  unfold joinTo lowI uppI
  split <;> rfl
theorem low_two {u : List Int} {p q : Nat} (T : Two u p q) (r : Int) : Two u (lowI u r p q) (uppI u r p q) := by
  unfold lowI uppI
  split
  · exact T
  · exact T.symm
def lowA (M : Nat) (u : List Int) (r : Int) (a b : Nat) : Option Addr := if rootI u a = rootI u b then none else some ⟨M, lowI u r (rootI u a) (rootI u b) * 3, none⟩
def uppA (M : Nat) (u : List Int) (r : Int) (a b : Nat) : Option Addr := if rootI u a = rootI u b then none else some ⟨M, uppI u r (rootI u a) (rootI u b) * 3, none⟩

set_option maxRecDepth 100000 in
set_option maxHeartbeats 4000000 in
theorem rootsToJoin_any (r : Int) (hr : 0 ≤ r ∧ r ≤ 2) (J M N n a b : Nat) (sz ht : Nat → Nat) (u : List Int) (w : World) (hm : MemK w M N n n sz ht) (hj : Boxed w J 136 (.slice (some ⟨M, 0, none⟩) n n)) (hN : Nd w N u) (hv : fvB u = true) (hn : u.length = n) (ha : a < n) (hb : b < n) (hs : RootsTell u sz ht) :
    Calls Try.prog 101 #[.pointer (some ⟨J, 0, none⟩), .iface (ruleT r) (.agg #[]), .agg #[.int .i64 (a : Int), .int .i64 (b : Int)]] w fun e w' =>
      e = .returned (.tuple #[.pointer (lowA M u r a b), .pointer (uppA M u r a b)]) ∧ Below w.heap.size w w' := by
  obtain ⟨W, hW⟩ : ∃ W, W = w.alloc (.cells #[.int .i64 (a : Int), .int .i64 (b : Int)] 42) := ⟨_, rfl⟩
  have hba : Below w.heap.size w W := by rw [hW]; exact (Below.refl w.heap.size w).alloc (Nat.le_refl _) _
  have g1 : W.cell? ⟨w.heap.size, 0, none⟩ = some (.int .i64 (a : Int)) := by rw [hW]; exact (pair_cells w _ _).1
  have g2 : W.cell? ⟨w.heap.size, 1, none⟩ = some (.int .i64 (b : Int)) := by rw [hW]; exact (pair_cells w _ _).2
  obtain ⟨ρ, hρ⟩ : ∃ ρ, ρ = rootI u := ⟨_, rfl⟩
  have hmW := hm.below hba hm.lt
  have hjW : Boxed W J 136 (.slice (some ⟨M, 0, none⟩) n n) := (hba.block J hj.lt).trans hj
  have hNW := hN.eq (hba.block N hN.lt)
  have R := Lib.hid (fun (w2 : World) (hb2 : Below W.heap.size W w2) (x : Nat) (hx : Hid (x < n)) => rootOf_any J M N n x sz ht u w2 (hmW.below hb2 hmW.lt) ((hb2.block J hjW.lt).trans hjW) (hNW.eq (hb2.block N hNW.lt)) hv hn hx.out)
  rw [← hρ] at R
  have HA := Lib.hid ha
  have HB := Lib.hid hb
  have H0 := Lib.hid (And.intro hmW (And.intro hNW (And.intro hba (And.intro hv (And.intro hn (And.intro ha hb))))))
  have HP := Lib.hid hρ
  have HS := Lib.hid hs
  have HW := Lib.hid hW
  have HR := Lib.hid hr
  have hbb : Below W.heap.size W W := Below.refl _ _
  obtain ⟨P, hP⟩ : ∃ P, P = w.heap.size := ⟨_, rfl⟩
  rw [← hP] at g1 g2
  have HPP := Lib.hid hP
  obtain ⟨x, hx⟩ : ∃ x, x = lowA M u r a b := ⟨_, rfl⟩
  obtain ⟨y, hy⟩ : ∃ y, y = uppA M u r a b := ⟨_, rfl⟩
  rw [← hx, ← hy]
  have HXY := Lib.hid (And.intro hx hy)
  clear hm hj hN hv hn ha hb hs hW hba hmW hjW hNW hρ hr hP hx hy
  go_enter Try.func101, Try.ntmps101
  go_wp2
  rw [← HW.out, ← HPP.out]
  go_region_held3 (fun w' => Below W.heap.size W w' ∧ w'.cell? ⟨P, 0, none⟩ = some (.int .i64 (a : Int)) ∧ w'.cell? ⟨P, 1, none⟩ = some (.int .i64 (b : Int)))
    (first | exact held2_drew ⟨by assumption, by assumption, by assumption⟩ | exact held2_drew (by assumption) | exact held2_call (by assumption) (by assumption) (Below.size (And.left (by assumption))))
    (first | (go_at_call 121; refine (R.out _ (‹Below W.heap.size W _ ∧ _›).1 _ (by first | exact HA | exact HB)).mono ?_; rintro e w8 ⟨rfl, hb8⟩))
  have hbz := (‹Below W.heap.size W _ ∧ _›).1
  obtain ⟨p, hp⟩ : ∃ p, p = ρ a := ⟨_, rfl⟩
  obtain ⟨q, hq⟩ : ∃ q, q = ρ b := ⟨_, rfl⟩
  rw [← hp, ← hq]
  have HPA : Hid (rootI u a = p) := by
    show _ = _
    rw [hp, HP.out]
  have HQB : Hid (rootI u b = q) := by
    show _ = _
    rw [hq, HP.out]
  clear hp hq HP R HPP HA HB hbb g1 g2
  obtain ⟨hm, hN, hba, hv, hn, ha, hb⟩ := H0.out
  have hmz := hm.below hbz hm.lt
  have hNz := hN.eq (hbz.block N hN.lt)
  have hbw := hba.trans (hbz.mono hba.size)
  obtain ⟨j, hj0, hj1, hj2, hj3⟩ := info_parts Try.info_member
  obtain ⟨cur, hcur, _⟩ := id hmz
  have HEQ := Lib.hid (fun W' : World => run_eql_ptr_same (P := Try.prog) (tp := 130) W' (⟨M, p * 3, none⟩ : Addr) Try.underlying130 hj0)
  have HNE := Lib.hid (fun h => run_eql_ptr_other (P := Try.prog) (tp := 130) _ (a := ⟨M, p * 3, none⟩) (b := ⟨M, q * 3, none⟩) Try.underlying130 hj0 (by rw [hj2]; decide) h hcur hcur)
  clear hj0 hj1 hj2 hj3 hcur
  by_cases hpq : p = q
  · subst hpq
    have HJL : Hid (x = none ∧ y = none) := by
      show _ ∧ _
      rw [HXY.out.1, HXY.out.2]
      unfold lowA uppA
      rw [HPA.out, HQB.out, if_pos rfl, if_pos rfl]
      exact ⟨rfl, rfl⟩
    have HZ := Lib.hid hbw
    clear hm hN hba hv hn ha hb hmz hNz hbw hbz HPA HQB H0 HNE
    go_wp2
    rw [HEQ.out]
    go_wp2
    go_ret2
    rw [HJL.out.1, HJL.out.2]
    exact ⟨rfl, HZ.out⟩
  · have T : Two u p q := by
      have := roots_two hv (a := a) (b := b) (by omega) (by omega) (by rw [HPA.out, HQB.out]; exact hpq)
      rw [HPA.out, HQB.out] at this
      exact this
    have HJL : Hid (x = some ⟨M, lowI u r p q * 3, none⟩ ∧ y = some ⟨M, uppI u r p q * 3, none⟩) := by
      show _ ∧ _
      rw [HXY.out.1, HXY.out.2]
      unfold lowA uppA
      rw [HPA.out, HQB.out, if_neg hpq, if_neg hpq]
      exact ⟨rfl, rfl⟩
    have HNQ := Lib.hid (HNE.out (fun e => by have := congrArg Addr.off e; simp at this; omega))
    have HG := Lib.hid (goes_any r HR.out M N n p q sz ht u _ hmz hNz hn T HS.out)
    have HZ := Lib.hid hbw
    clear hm hN hba hv hn ha hb hmz hNz hbw hbz HPA HQB H0 T HEQ HNE
    go_wp2_with fail
    rw [HNQ.out]
    go_wp2_with fail
    unfold lowI uppI at HJL
    obtain ⟨c, hc⟩ : ∃ c, c = underB u r p q := ⟨_, rfl⟩
    rw [← hc] at HG HJL
    clear hc HNQ
    rcases (show r = 0 ∨ r = 1 ∨ r = 2 by have := HR.out; omega) with rfl | rfl | rfl
    all_goals
      go_invoke
      go_wp2_with fail
      refine HG.out.mono ?_
      rintro e w9 ⟨rfl, h9⟩
      have h9w := Lib.hid (HZ.out.trans (h9.mono HZ.out.size))
      cases c with
      | true =>
        clear HG h9
        go_wp2_with fail
        go_ret2
        rw [HJL.out.1, HJL.out.2]
        exact ⟨rfl, h9w.out⟩
      | false =>
        clear HG h9
        go_wp2_with fail
        go_ret2
        rw [HJL.out.1, HJL.out.2]
        exact ⟨rfl, h9w.out⟩

set_option maxRecDepth 100000 in
set_option maxHeartbeats 4000000 in
theorem join_any (r : Int) (hr : 0 ≤ r ∧ r ≤ 2) (J M N n a b : Nat) (sz ht : Nat → Nat) (u : List Int) (w : World) (hm : MemK w M N n n sz ht) (hj : Boxed w J 136 (.slice (some ⟨M, 0, none⟩) n n)) (hN : Nd w N u) (hNM : N ≠ M) (hv : fvB u = true) (hn : u.length = n) (ha : a < n) (hb : b < n) (hs : RootsTell u sz ht) :
    Calls Try.prog 58 #[.pointer (some ⟨J, 0, none⟩), .iface (ruleT r) (.agg #[]), .agg #[.int .i64 (a : Int), .int .i64 (b : Int)]] w fun e w' =>
      e = .returned (.bool (!decide (rootI u a = rootI u b))) ∧ Nd w' N (joinL u r a b) ∧ (∃ sz' ht', MemK w' M N n n sz' ht' ∧ RootsTell (joinL u r a b) sz' ht') ∧ Chg (fun k => k = N ∨ k = M) w w' := by
  obtain ⟨W, hW⟩ : ∃ W, W = w.alloc (.cells #[.int .i64 (a : Int), .int .i64 (b : Int)] 42) := ⟨_, rfl⟩
  have hba : Below w.heap.size w W := by rw [hW]; exact (Below.refl w.heap.size w).alloc (Nat.le_refl _) _
  have hmW := hm.below hba hm.lt
  have hjW : Boxed W J 136 (.slice (some ⟨M, 0, none⟩) n n) := (hba.block J hj.lt).trans hj
  have hNW := hN.eq (hba.block N hN.lt)
  have RJ := Lib.hid (rootsToJoin_any r hr J M N n a b sz ht u W hmW hjW hNW hv hn ha hb hs)
  have HW := Lib.hid hW
  have H0 := Lib.hid (And.intro hmW (And.intro hNW (And.intro hba (And.intro hv (And.intro hn (And.intro ha (And.intro hb (And.intro hs hNM))))))))
  by_cases hpq : rootI u a = rootI u b
  · have h1 : lowA M u r a b = none := by unfold lowA; rw [if_pos hpq]
    have h2 : uppA M u r a b = none := by unfold uppA; rw [if_pos hpq]
    rw [h1, h2] at RJ
    have HF : Hid ((!decide (rootI u a = rootI u b)) = false) := by
      show _ = _
      rw [decide_eq_true hpq]
      rfl
    have HJL : Hid (joinL u r a b = u) := by
      show _ = _
      unfold joinL
      rw [if_pos hpq]
    clear hm hj hN hv hn ha hb hs hW hba hmW hjW hNW hr hNM hpq h1 h2
    go_enter Try.func58, Try.ntmps58
    go_wp2_with fail
    rw [← HW.out]
    refine RJ.out.mono ?_
    rintro e w2 ⟨rfl, hb2⟩
    have HZ := Lib.hid (And.intro (H0.out.1.below hb2 H0.out.1.lt) (And.intro (H0.out.2.1.eq (hb2.block N H0.out.2.1.lt)) (H0.out.2.2.1.trans (hb2.mono H0.out.2.2.1.size))))
    clear hb2
    go_wp2_with fail
    go_ret
    rw [HF.out, HJL.out]
    exact ⟨rfl, HZ.out.2.1, ⟨sz, ht, HZ.out.1, H0.out.2.2.2.2.2.2.2.1⟩, Chg.of_below HZ.out.2.2⟩
  · have T : Two u (rootI u a) (rootI u b) := roots_two hv (by omega) (by omega) hpq
    obtain ⟨p, hp⟩ : ∃ p, p = lowI u r (rootI u a) (rootI u b) := ⟨_, rfl⟩
    obtain ⟨q, hq⟩ : ∃ q, q = uppI u r (rootI u a) (rootI u b) := ⟨_, rfl⟩
    have T2 : Two u p q := by rw [hp, hq]; exact low_two T r
    have h1 : lowA M u r a b = some ⟨M, p * 3, none⟩ := by unfold lowA; rw [if_neg hpq, hp]
    have h2 : uppA M u r a b = some ⟨M, q * 3, none⟩ := by unfold uppA; rw [if_neg hpq, hq]
    rw [h1, h2] at RJ
    have HF : Hid ((!decide (rootI u a = rootI u b)) = true) := by
      show _ = _
      rw [decide_eq_false hpq]
      rfl
    have HJL : Hid (joinL u r a b = hang u p q) := by
      show _ = _
      unfold joinL
      rw [if_neg hpq, joinTo_low, ← hp, ← hq]
    have hle1 := szN_leJ u
    have hle2 := htN_leJ hv
    have h16 := (fv_parts hv).2.1
    have HU := Lib.hid (fun (w9 : World) (h9 : Below W.heap.size W w9) => goUnder_any M N n p q sz ht u w9 (hmW.below h9 hmW.lt) (hNW.eq (h9.block N hNW.lt)) hn (by have := T2.hp; omega) (by have := T2.hq; omega) T2.ne hNM
      (by have := (hs p T2.hp T2.rp).1; have := hle1 p; omega) (by have := (hs q T2.hq T2.rq).1; have := hle1 q; omega) (by have := (hs p T2.hp T2.rp).2; have := hle2 p; omega) (by have := (hs q T2.hq T2.rq).2; have := hle2 q; omega))
    have HT := Lib.hid T2
    clear hm hj hN hv hn ha hb hs hW hba hmW hjW hNW hr hNM hpq h1 h2 hp hq T T2 hle1 hle2 h16
    go_enter Try.func58, Try.ntmps58
    go_wp2_with fail
    rw [← HW.out]
    refine RJ.out.mono ?_
    rintro e w2 ⟨rfl, hb2⟩
    have U := Lib.hid (HU.out w2 hb2)
    have h2w := Lib.hid (H0.out.2.2.1.trans (hb2.mono H0.out.2.2.1.size))
    clear hb2 HU
    go_wp2_with fail
    refine U.out.mono ?_
    rintro e w10 ⟨⟨v, rfl⟩, hN10, hm10, hc10⟩
    have K := Lib.hid (And.intro hN10 (And.intro hm10 hc10))
    clear hN10 hm10 hc10
    go_wp2_with fail
    go_ret
    rw [HF.out, HJL.out]
    exact ⟨rfl, K.out.1, ⟨_, _, K.out.2.1, H0.out.2.2.2.2.2.2.2.1.hang HT.out⟩, (Chg.of_below h2w.out).trans K.out.2.2⟩
end Go.Proofs.Ytebgnaiibomjkaa

namespace Go.Proofs.Ytebgnaiibomjkaa
open Go.RowKit Go.Shelf

theorem joinB_fv {up : List Int} {r a b : Int} (h : fvB up = false) : joinB up r a b = false := by
  unfold joinB itemB
  rw [h]
  simp
theorem joinB_rule {up : List Int} {r a b : Int} (h : ¬ (0 ≤ r ∧ r ≤ 2)) : joinB up r a b = false := by
  unfold joinB inRule
  rw [decide_eq_false h]
  simp
def pairIn (n : Nat) (a b : Int) : Bool := decide (0 ≤ min a b ∧ max a b < (n : Int))
theorem joinB_pair {up : List Int} {r a b : Int} (h : pairIn up.length a b = false) : joinB up r a b = false := by
  unfold pairIn at h
  have h := of_decide_eq_false h
  cases hj : joinB up r a b with
  | false => rfl
  | true =>
    obtain ⟨h1, h2, _⟩ := joinB_parts hj
    unfold itemB at h1 h2
    simp only [Bool.and_eq_true, decide_eq_true_eq] at h1 h2
    omega
theorem pairIn_parts {n : Nat} {a b : Int} (h : pairIn n a b = true) : (0 ≤ a ∧ a < (n : Int)) ∧ 0 ≤ b ∧ b < (n : Int) := by
  unfold pairIn at h
  have h := of_decide_eq_true h
  omega
theorem joinB_in {up : List Int} {r a b : Int} (hv : fvB up = true) (hr : 0 ≤ r ∧ r ≤ 2) (h : pairIn up.length a b = true) : joinB up r a b = !decide (rootI up a.toNat = rootI up b.toNat) := by
  obtain ⟨h1, h2⟩ := pairIn_parts h
  have i1 : itemB up a = true := by unfold itemB; rw [hv, decide_eq_true h1]; rfl
  have i2 : itemB up b = true := by unfold itemB; rw [hv, decide_eq_true h2]; rfl
  unfold joinB inRule rootN
  rw [i1, i2, decide_eq_true hr, if_pos rfl, if_pos rfl]
  by_cases e : rootI up a.toNat = rootI up b.toNat
  · rw [e]; simp
  · rw [decide_eq_false e]
    have : ¬ ((rootI up a.toNat : Nat) : Int) = ((rootI up b.toNat : Nat) : Int) := by omega
    simp [this]

set_option maxRecDepth 100000 in
set_option maxHeartbeats 4000000 in
theorem implJoin_any (A : Option Addr) (n c B0 : Nat) (zs : List Int) (r a b : Int) (w : World) (h : Rd w B0 A n zs) (hB0 : B0 ≤ w.heap.size) (hb : n ≤ 1048576) :
    Calls Try.prog 15 #[.slice A n c, .int .i64 r, .int .i64 a, .int .i64 b] w fun e w' => ∃ v, e = .returned (.tuple #[v, .bool (joinB zs r a b)]) ∧ Own w' w.heap.size v (joinN zs r a b) ∧ Below w.heap.size w w' := by
  have R := Lib.hid (joiningOf_any A n c B0 zs w h hB0 hb)
  have HN := Lib.hid h.1
  have hn0 : Own w w.heap.size (.slice none 0 0) [] := ⟨by simp, .inl ⟨rfl, rfl⟩⟩
  obtain ⟨x, hx⟩ : ∃ x, x = joinB zs r a b := ⟨_, rfl⟩
  obtain ⟨ss, hss⟩ : ∃ ss, ss = joinN zs r a b := ⟨_, rfl⟩
  rw [← hx, ← hss]
  have HX := Lib.hid hx
  have HSS := Lib.hid hss
  have HNO : Hid (x = false → ss = []) := fun e => by rw [HSS.out]; exact joinN_no (HX.out.symm.trans e)
  clear h hx hss
  go_enter Try.func15, Try.ntmps15
  go_wp2_with fail
  refine R.out.mono ?_
  rintro e w1 ⟨hb1, ⟨hv, rfl⟩ | ⟨hv, J, M, N, rfl, hN, hm, hj, h1, h2, h3⟩⟩
  · have hx0 := HX.out.trans (joinB_fv hv)
    have hs0 := HNO.out hx0
    subst hx0
    subst hs0
    have RF : Hid (Calls Try.prog 56 #[.int .i64 r] w1 fun e w' => (∃ v, e = .returned v) ∧ w' = w1) := by
      by_cases hr : 0 ≤ r ∧ r ≤ 2
      · exact (ruleFor_yes r hr w1).mono fun _ _ h => ⟨⟨_, h.1⟩, h.2.symm⟩
      · exact (ruleFor_no r hr w1).mono fun _ _ h => ⟨⟨_, h.1⟩, h.2.symm⟩
    have HB1 := Lib.hid hb1
    clear hv hb1
    go_wp2_with fail
    refine RF.out.mono ?_
    rintro e w2 ⟨⟨v, rfl⟩, hw⟩
    subst hw
    go_wp2
    go_ret2
    exact ⟨_, rfl, hn0.keep (HB1.out.alloc HB1.out.size _) (Nat.le_refl _), HB1.out.alloc HB1.out.size _⟩
  · by_cases hr : 0 ≤ r ∧ r ≤ 2
    · have RF := Lib.hid (ruleFor_yes r hr w1)
      obtain ⟨W, hW⟩ : ∃ W, W = (w1.alloc (.cells #[.int .i64 a, .int .i64 b] 42)).alloc (.cells #[.int .i64 a, .int .i64 b] 42) := ⟨_, rfl⟩
      have hW1 : Below w1.heap.size w1 W := by rw [hW]; exact ((Below.refl _ w1).alloc (Nat.le_refl _) _).alloc (by simp) _
      have hWs : W.heap.size = w1.heap.size + 2 := by rw [hW]; simp
      have c1 := pair_cells w1 a b
      have c2 := pair_cells (w1.alloc (.cells #[.int .i64 a, .int .i64 b] 42)) a b
      rw [show (w1.alloc (.cells #[.int .i64 a, .int .i64 b] 42)).heap.size = w1.heap.size + 1 by simp, ← hW] at c2
      have k1 : W.cell? ⟨w1.heap.size, 0, none⟩ = some (.int .i64 a) := by rw [hW]; exact (World.cell?_of_block (Below.heap_alloc _ _ _ (by simp))).trans c1.1
      have k2 : W.cell? ⟨w1.heap.size, 1, none⟩ = some (.int .i64 b) := by rw [hW]; exact (World.cell?_of_block (Below.heap_alloc _ _ _ (by simp))).trans c1.2
      have hNd : Nd w1 N zs := by unfold Nd; rw [HN.out]; exact hN.1
      have HS1 := Lib.hid (And.intro (hb1.trans (hW1.mono hb1.size)) (And.intro (hNd.eq (hW1.block N hNd.lt)) (And.intro (hm.below hW1 hm.lt) (And.intro ((hW1.block J hj.lt).trans hj : Boxed W J 136 (.slice (some ⟨M, 0, none⟩) n n)) (And.intro h1 (And.intro h2 h3))))))
      have PV := Lib.hid (pairsValid_one n a b (w1.heap.size + 1) (pairIn n a b) rfl W c2.1 c2.2)
      obtain ⟨d, hd⟩ : ∃ d, d = pairIn n a b := ⟨_, rfl⟩
      rw [← hd] at PV
      have HD := Lib.hid hd
      have KK := Lib.hid (And.intro k1 k2)
      have HW := Lib.hid hW
      have HWS := Lib.hid hWs
      have HV := Lib.hid hv
      have HR := Lib.hid hr
      clear hv hb1 hN hm hj h1 h2 h3 hr hW hW1 c1 c2 k1 k2 hNd hd hWs
      go_wp2_with fail
      refine RF.out.mono ?_
      rintro e w2 ⟨rfl, hw⟩
      subst hw
      go_wp2_with fail
      rw [← HW.out]
      refine PV.out.mono ?_
      rintro e w2 ⟨rfl, hb2⟩
      have hbx := Lib.hid (HS1.out.1.trans (hb2.mono HS1.out.1.size))
      cases d with
      | false =>
        have hx0 := HX.out.trans (joinB_pair (by rw [HN.out]; exact HD.out.symm))
        have hs0 := HNO.out hx0
        subst hx0
        subst hs0
        clear hb2
        go_wp2
        go_ret2
        exact ⟨_, rfl, hn0.keep hbx.out (Nat.le_refl _), hbx.out⟩
      | true =>
        obtain ⟨ha, hb'⟩ := pairIn_parts HD.out.symm
        obtain ⟨a', rfl⟩ : ∃ a' : Nat, a = a' := ⟨a.toNat, by omega⟩
        obtain ⟨b', rfl⟩ : ∃ b' : Nat, b = b' := ⟨b.toNat, by omega⟩
        have k1 := (hb2.cell (p := ⟨w1.heap.size, 0, none⟩) (by have := HWS.out; simp; omega)).trans KK.out.1
        have k2 := (hb2.cell (p := ⟨w1.heap.size, 1, none⟩) (by have := HWS.out; simp; omega)).trans KK.out.2
        have hj2 : Boxed w2 J 136 (.slice (some ⟨M, 0, none⟩) n n) := (hb2.block J (Boxed.lt HS1.out.2.2.2.1)).trans HS1.out.2.2.2.1
        have JN := Lib.hid (join_any r HR.out J M N n a' b' (szN zs) (htN zs) zs w2 (HS1.out.2.2.1.below hb2 HS1.out.2.2.1.lt) hj2 (HS1.out.2.1.eq (hb2.block N HS1.out.2.1.lt)) (by have := HS1.out.2.2.2.2; omega) HV.out HN.out (by omega) (by omega) (RootsTell.all zs))
        have HJ2 := Lib.hid hj2
        have hx1 := HX.out.trans (joinB_in HV.out HR.out (by rw [HN.out]; exact HD.out.symm))
        simp only [Int.toNat_natCast] at hx1
        rw [← hx1] at JN
        have HL := Lib.hid (And.intro (show a' < zs.length by have := HN.out; omega) (show b' < zs.length by have := HN.out; omega))
        clear hb2 hj2 hx1 ha hb'
        go_wp2_with fail
        refine JN.out.mono ?_
        rintro e w3 ⟨rfl, hN3, ⟨sz', ht', hm3, _⟩, hc3⟩
        have hlo : ∀ k, (k = N ∨ k = M) → w.heap.size ≤ k := fun k hk => by have := HS1.out.2.2.2.2; omega
        have hbz := hbx.out.trans (hc3.below hbx.out.size hlo)
        have hj3 : Boxed w3 J 136 (.slice (some ⟨M, 0, none⟩) n n) := (hc3.block J (Boxed.lt HJ2.out) (by have := HS1.out.2.2.2.2; omega)).trans HJ2.out
        have HBZ := Lib.hid hbz
        cases x with
        | false =>
          have hs0 := HNO.out rfl
          subst hs0
          clear hN3 hm3 hc3 hlo hbz hj3 k1 k2
          go_wp2
          go_ret2
          exact ⟨_, rfl, hn0.keep HBZ.out (Nat.le_refl _), HBZ.out⟩
        | true =>
          have hss1 := HSS.out.trans (joinN_yes HX.out.symm)
          simp only [Int.toNat_natCast] at hss1
          subst hss1
          have FO := Lib.hid (forest_any J M N n sz' ht' _ w3 hm3 hj3 hN3 (joinL_fv HV.out HL.out.1 HL.out.2 r) (by rw [joinL_len]; exact HN.out) hb)
          clear hN3 hm3 hc3 hlo hbz hj3 k1 k2
          go_wp2_with fail
          refine FO.out.mono ?_
          rintro e w4 ⟨v, rfl, ho, hb4⟩
          have HO := Lib.hid (ho.less HBZ.out.size)
          have HB4 := Lib.hid (HBZ.out.trans (hb4.mono HBZ.out.size))
          clear ho hb4
          go_wp2_with fail
          go_ret2
          exact ⟨_, rfl, HO.out, HB4.out⟩
    · have hx0 := HX.out.trans (joinB_rule hr)
      have hs0 := HNO.out hx0
      subst hx0
      subst hs0
      have RF := Lib.hid (ruleFor_no r hr w1)
      have HB1 := Lib.hid hb1
      clear hv hb1 hN hm hj h1 h2 h3 hr
      go_wp2_with fail
      refine RF.out.mono ?_
      rintro e w2 ⟨rfl, hw⟩
      subst hw
      go_wp2
      go_ret2
      exact ⟨_, rfl, hn0.keep (HB1.out.alloc HB1.out.size _) (Nat.le_refl _), HB1.out.alloc HB1.out.size _⟩
end Go.Proofs.Ytebgnaiibomjkaa
