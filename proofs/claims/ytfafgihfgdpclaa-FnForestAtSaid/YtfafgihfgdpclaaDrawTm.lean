/- Drawn timed forests: the model's l7Some. Condition: none beyond the bytes read. -/
import Derived.Test.YtfafgihfgdpclaaDraw11
import Derived.Test.YtfafgihfgdpclaaSpecTimedOf
import Derived.Deep.RegionHeld3
namespace Go.Proofs.Ytfafgihfgdpclaa
open Go.RowKit Go.Shelf

/-- What holds of a drawn timed forest v, v2 in box X, while the source is in R and the result in Z. -/
structure TmAtX (w V : World) (R X Z : Nat) (v v2 : Value) (xs ss : List Int) (p : Nat) : Prop where
  gr : w.grownBy V (some R)
  src : Src V R p
  box : V.heap[X]? = some (.cells #[v, v2] 64 (0, 0))
  own : Own V (Z + 1) v xs
  ownq : Own V (Z + 1) v2 ss
  ap : ∀ x, v.ownBlock = some x → ∀ y, v2.ownBlock = some y → x ≠ y
  ox : ∀ x, v.ownBlock = some x → x ≠ X
  qx : ∀ x, v2.ownBlock = some x → x ≠ X
  res : V.heap[Z]? = some (.cells #[.slice none 0 0, .slice none 0 0] 64 (0, 0))
  zx : Z < X
  rz : R < Z
  wz : w.heap.size = Z
theorem own_keptG {v : Value} {V V' : World} {base g : Nat} {xs : List Int} (h : Own V base v xs) (hg : V.grownBy V' (some g)) (hv : ∀ x, v.ownBlock = some x → x ≠ g) : Own V' base v xs := by
  refine h.kept hg ?_
  cases hb : v.ownBlock with
  | none => exact .inl rfl
  | some y => exact .inr (fun e => by injection e with e; exact hv y hb e)
section
variable {w V V' : World} {R X Z p : Nat} {v v2 : Value} {xs ss : List Int}
theorem TmAtX.xlt (h : TmAtX w V R X Z v v2 xs ss p) : X < V.heap.size := (Array.getElem?_eq_some_iff.1 h.box).1
theorem TmAtX.big (h : TmAtX w V R X Z v v2 xs ss p) : Z + 1 ≤ V.heap.size := by
  have := h.xlt
  have := h.zx
  omega
theorem TmAtX.next (h : TmAtX w V R X Z v v2 xs ss p) (hb : Below (Z + 1) V V') {v' v2' : Value} {xs' ss' : List Int} (hbox : V'.heap[X]? = some (.cells #[v', v2'] 64 (0, 0)))
    (ho : Own V' (Z + 1) v' xs') (hq : Own V' (Z + 1) v2' ss') (hap : ∀ x, v'.ownBlock = some x → ∀ y, v2'.ownBlock = some y → x ≠ y) (hox : ∀ x, v'.ownBlock = some x → x ≠ X) (hqx : ∀ x, v2'.ownBlock = some x → x ≠ X) : TmAtX w V' R X Z v' v2' xs' ss' p :=
  ⟨grown_below h.gr (hb.mono (by have := h.wz; omega)), h.src.below hb (by have := h.rz; omega), hbox, ho, hq, hap, hox, hqx, (hb.block Z (by omega)).trans h.res, h.zx, h.rz, h.wz⟩
theorem TmAtX.grown (h : TmAtX w V R X Z v v2 xs ss p) (hg : V.grownBy V' (some R)) {q : Nat} (hs : Src V' R q) : TmAtX w V' R X Z v v2 xs ss q := by
  have h1 := h.rz
  have h2 := h.zx
  have h3 := h.big
  exact ⟨grown_trans2 h.gr hg, hs, (hg.block X h.xlt (fun e => by injection e with e; omega)).trans h.box, h.own.row hg (by omega), h.ownq.row hg (by omega), h.ap, h.ox, h.qx, (hg.block Z (by omega) (fun e => by injection e with e; omega)).trans h.res, h2, h1, h.wz⟩
theorem TmAtX.below (h : TmAtX w V R X Z v v2 xs ss p) (hb : Below V.heap.size V V') : TmAtX w V' R X Z v v2 xs ss p :=
  h.grown (grown_of_below R hb) (h.src.below hb h.src.lt)
theorem TmAtX.drew (h : TmAtX w V R X Z v v2 xs ss p) : TmAtX w V.drew R X Z v v2 xs ss p := h.below ⟨rfl, rfl, rfl, Nat.le_refl _, fun _ _ => rfl⟩
theorem TmAtX.alloc (h : TmAtX w V R X Z v v2 xs ss p) (o : Obj) : TmAtX w (V.alloc o) R X Z v v2 xs ss p :=
  h.below ((Below.refl _ _).alloc (Nat.le_refl _) o)
theorem TmAtX.c0 (h : TmAtX w V R X Z v v2 xs ss p) : V.cell? ⟨X, 0, none⟩ = some v := (boxTwo_cells h.box).1.1
theorem TmAtX.c1 (h : TmAtX w V R X Z v v2 xs ss p) : V.cell? ⟨X, 1, none⟩ = some v2 := (boxTwo_cells h.box).1.2
theorem TmAtX.set0 {g n c : Nat} (h : TmAtX w V R X Z (.slice (some ⟨g, 0, none⟩) n c) v2 xs ss p) (k : Nat) (z : Int) : TmAtX w (V.setCell ⟨g, k, none⟩ (.int .i64 z)) R X Z (.slice (some ⟨g, 0, none⟩) n c) v2 (xs.set k z) ss p := by
  have hg : V.grownBy (V.setCell ⟨g, k, none⟩ (.int .i64 z)) (some g) := grown_set (World.grownBy.refl _ _) _
  have hge := h.own.at_base
  refine h.next (below_row hg h.big (fun r e => by injection e with e; omega)) ?_ (h.own.set_ k z) (own_keptG h.ownq hg fun y hy e => h.ap g rfl y hy e.symm) h.ap h.ox h.qx
  exact (hg.block X h.xlt (fun e => by injection e with e; exact h.ox g rfl e.symm)).trans h.box
theorem TmAtX.set1 {g n c : Nat} (h : TmAtX w V R X Z v (.slice (some ⟨g, 0, none⟩) n c) xs ss p) (k : Nat) (z : Int) : TmAtX w (V.setCell ⟨g, k, none⟩ (.int .i64 z)) R X Z v (.slice (some ⟨g, 0, none⟩) n c) xs (ss.set k z) p := by
  have hg : V.grownBy (V.setCell ⟨g, k, none⟩ (.int .i64 z)) (some g) := grown_set (World.grownBy.refl _ _) _
  have hge := h.ownq.at_base
  refine h.next (below_row hg h.big (fun r e => by injection e with e; omega)) ?_ (own_keptG h.own hg fun y hy e => h.ap y hy g rfl e) (h.ownq.set_ k z) h.ap h.ox h.qx
  exact (hg.block X h.xlt (fun e => by injection e with e; exact h.qx g rfl e.symm)).trans h.box
theorem TmAtX.box0 (h : TmAtX w V R X Z v v2 xs ss p) {v' : Value} {xs' : List Int} (ho : Own V (Z + 1) v' xs') (hx : ∀ x, v'.ownBlock = some x → x ≠ X) (hap : ∀ x, v'.ownBlock = some x → ∀ y, v2.ownBlock = some y → x ≠ y) : TmAtX w (V.setCell ⟨X, 0, none⟩ v') R X Z v' v2 xs' ss p := by
  have hg : V.grownBy (V.setCell ⟨X, 0, none⟩ v') (some X) := grown_set (World.grownBy.refl _ _) _
  exact h.next (below_row hg h.big (fun r e => by injection e with e; have := h.zx; omega)) (modify_at _ h.box) (own_keptG ho hg hx) (own_keptG h.ownq hg h.qx) hap hx h.qx
theorem TmAtX.box1 (h : TmAtX w V R X Z v v2 xs ss p) {v' : Value} {ss' : List Int} (ho : Own V (Z + 1) v' ss') (hx : ∀ x, v'.ownBlock = some x → x ≠ X) (hap : ∀ x, v.ownBlock = some x → ∀ y, v'.ownBlock = some y → x ≠ y) : TmAtX w (V.setCell ⟨X, 1, none⟩ v') R X Z v v' xs ss' p := by
  have hg : V.grownBy (V.setCell ⟨X, 1, none⟩ v') (some X) := grown_set (World.grownBy.refl _ _) _
  exact h.next (below_row hg h.big (fun r e => by injection e with e; have := h.zx; omega)) (modify_at _ h.box) (own_keptG h.own hg h.ox) (own_keptG ho hg hx) hap h.ox hx
/-- Both are stored anew. -/
theorem TmAtX.both (h : TmAtX w V R X Z v v2 xs ss p) {a b : Value} {xs' ss' : List Int} (h1 : Own V (Z + 1) a xs') (h2 : Own V (Z + 1) b ss') (hap : ∀ x, a.ownBlock = some x → ∀ y, b.ownBlock = some y → x ≠ y) (hx1 : ∀ x, a.ownBlock = some x → x ≠ X) (hx2 : ∀ x, b.ownBlock = some x → x ≠ X) : TmAtX w ((V.setCell ⟨X, 0, none⟩ a).setCell ⟨X, 1, none⟩ b) R X Z a b xs' ss' p := by
  have hg := boxTwo_grown V X a b
  exact h.next (below_row hg h.big (fun r e => by injection e with e; have := h.zx; omega)) (boxTwo_set h.box _ _) (own_keptG h1 hg hx1) (own_keptG h2 hg hx2) hap hx1 hx2
/-- The forest is stored in the result. -/
theorem TmAtX.ret (h : TmAtX w V R X Z v v2 xs ss p) : Own ((V.setCell ⟨Z, 0, none⟩ v).setCell ⟨Z, 1, none⟩ v2) Z v xs ∧ Own ((V.setCell ⟨Z, 0, none⟩ v).setCell ⟨Z, 1, none⟩ v2) Z v2 ss ∧ Src ((V.setCell ⟨Z, 0, none⟩ v).setCell ⟨Z, 1, none⟩ v2) R p ∧ w.grownBy ((V.setCell ⟨Z, 0, none⟩ v).setCell ⟨Z, 1, none⟩ v2) (some R) ∧ ((V.setCell ⟨Z, 0, none⟩ v).setCell ⟨Z, 1, none⟩ v2).heap[Z]? = some (.cells #[v, v2] 64 (0, 0)) := by
  have hg := boxTwo_grown V Z v v2
  have hb : Below Z V ((V.setCell ⟨Z, 0, none⟩ v).setCell ⟨Z, 1, none⟩ v2) := below_row hg (by have := h.big; omega) (fun r e => by injection e with e; omega)
  refine ⟨(h.own.row hg (by omega)).less (by omega), (h.ownq.row hg (by omega)).less (by omega), h.src.below hb h.rz, ?_, boxTwo_set h.res _ _⟩
  exact grown_below h.gr (hb.mono (by have := h.wz; omega))
theorem pick_tm (h : TmAtX w V R X Z v v2 xs ss p) (hp : p ≤ 100000) (n : Int) :
    Calls Try.prog 96 #[.pointer (some ⟨R, 0, none⟩), .int .i64 n] V fun e w' => (∃ x : Nat, e = .returned (.int .i64 (x : Int)) ∧ (1 ≤ n → (x : Int) < n)) ∧ TmAtX w w' R X Z v v2 xs ss (p + 1) ∧ V.grownBy w' (some R) := by
  refine (pick_any R p n V h.src hp).mono ?_
  rintro e w' ⟨h1, h2, h3⟩
  exact ⟨h1, h.grown h3 h2, h3⟩
theorem num_tm (h : TmAtX w V R X Z v v2 xs ss p) (hp : p ≤ 100000) {u : Value} {zs : List Int} (ho : Own V (Z + 1) u zs) (h1 : 1 ≤ zs.length) (h2 : zs.length ≤ 100) :
    Calls Try.prog 98 #[.pointer (some ⟨R, 0, none⟩), u] V fun e w' => (∃ j, j < zs.length ∧ e = .returned (.int .i64 (zs[j]?.getD 0))) ∧ TmAtX w w' R X Z v v2 xs ss (p + 1) ∧ V.grownBy w' (some R) := by
  refine (num_any R p (Z + 1) u zs V h.src hp ho (by have := h.rz; omega) h1 h2).mono ?_
  rintro e w' ⟨h1, h2, h3⟩
  exact ⟨h1, h.grown h3 h2, h3⟩
theorem tm_lit3 {w : World} {base : Nat} (a b c : Int) (hb : base ≤ w.heap.size) : Own (w.alloc (.cells #[.int .i64 a, .int .i64 b, .int .i64 c] 3)) base (.slice (some ⟨w.heap.size, 0, none⟩) 3 3) [a, b, c] := by
  simpa using Own.lit w base [a, b, c] hb (by simp)
theorem tm_lit5 {w : World} {base : Nat} (a b c d e : Int) (hb : base ≤ w.heap.size) : Own (w.alloc (.cells #[.int .i64 a, .int .i64 b, .int .i64 c, .int .i64 d, .int .i64 e] 3)) base (.slice (some ⟨w.heap.size, 0, none⟩) 5 5) [a, b, c, d, e] := by
  simpa using Own.lit w base [a, b, c, d, e] hb (by simp)
end
/-- Ints from the first on, sliced. -/
theorem ints_tail (g n c : Nat) (h1 : 1 ≤ n) (hc : n ≤ c) : ∃ (off sc : Nat), (∀ w, (Instr.slice 23 (.slice (some ⟨g, 0, none⟩) n c) (some (.int .i64 1)) none none).run Try.prog w = .ok (.slice (some ⟨g, off, none⟩) (n - 1) sc) w) ∧ (1 < n → off = 1) := by
  have hsz : ∀ w, (sizeOf 3).run Try.prog w = .ok 1 w := fun w => by simp [sizeOf, go_sem]; rfl
  by_cases e : c = 1
  · subst e
    obtain rfl : n = 1 := by omega
    refine ⟨0, 0, fun w => ?_, fun h => by omega⟩
    simp [go_sem, hsz]
  · refine ⟨1, c - 1, fun w => ?_, fun _ => rfl⟩
    have h2 : ¬ (n : Int) < 1 := by omega
    simp [go_sem, hsz, e, h2, Addr.add]
/-- Appending all of a slice of ints, of none too, to an empty one. -/
theorem wpList_copyT {ops : Array Oper} {rest : List Oper} {o : Oper} {a : Act} {Q : Exit → Act → World → Prop} (hgd : o.guard = none) (s x : Operand)
    (ho : o.op = .call { callee := .builtin .append, args := #[s, x], argTypes := #[23, 23] }) (w : World) (b off n c : Nat) (zs : List Int)
    (hs : a.eval s = .slice (some ⟨w.heap.size, 0, none⟩) 0 0) (hx : a.eval x = .slice (some ⟨b, off, none⟩) n c) (hln : zs.length = n) (hb : b < w.heap.size) (hr : ∀ k, k < n → w.cell? ⟨b, off + k, none⟩ = some (.int .i64 (zs[k]?.getD 0))) (hn : n ≤ 1048576)
    (h : ∀ A k w', Own w' w.heap.size (.slice A n k) zs → Below w.heap.size w w' → wpList Try.prog ops Q rest (a.put o.dst (.slice A n k)) w') :
    wpList Try.prog ops Q (o :: rest) a (w.alloc (.cells #[] 3)) := by
  obtain ⟨i0, hi0, hz0, hz1, hz2⟩ := info_parts Try.info_int
  have H0 : Own (w.alloc (.cells #[] 3)) w.heap.size (.slice (some ⟨w.heap.size, 0, none⟩) 0 0) [] := Own.lit w _ [] (Nat.le_refl _) (by simp)
  have hbe := (Below.refl w.heap.size w).alloc (Nat.le_refl _) (.cells #[] 3)
  have hnews : ∀ j u, (zs.map (Value.int .i64))[j]? = some u → (w.alloc (.cells #[] 3)).cell? ((⟨b, off, none⟩ : Addr).add j) = some u := by
    intro j u hu
    rw [List.getElem?_map] at hu
    have hj : j < zs.length := by
      rcases Nat.lt_or_ge j zs.length with h | h
      · exact h
      · rw [List.getElem?_eq_none h] at hu; cases hu
    rw [List.getElem?_eq_getElem hj] at hu
    simp only [Option.map_some, Option.some.injEq] at hu
    rw [add_at, hbe.cell (p := ⟨b, off + j, none⟩) (by show b < w.heap.size; omega), hr j (by omega), List.getElem?_eq_getElem hj, ← hu]
    rfl
  refine wpList_append_own_at _ hgd s x 23 ho w.heap.size 3 i0 (.int .i64 0) 1 8 Try.underlying23 hi0 hz0 hz1 hz2 rfl (by decide) _ 0 [] hs H0 ⟨b, off, none⟩ n c (zs.map (Value.int .i64)) hx (by rw [List.length_map]; omega) hnews (fun u hu => by
    obtain ⟨z, _, rfl⟩ := List.mem_map.1 hu
    rfl) (by unfold maxLen; omega) (by omega) (by simp) ?_
  intro v' w1 hown hgrow _ _
  have ho1 : Own w1 w.heap.size v' zs := by
    unfold Own
    rw [hln]
    simpa using hown
  have hb1 : Below w.heap.size w w1 := hbe.grown hgrow (by simp) (fun r e => by injection e with e; subst e; exact Nat.le_refl _)
  obtain ⟨A, k, rfl, _⟩ := ho1.form
  rw [hln] at ho1 ⊢
  exact h A k w1 ho1 hb1
theorem own_cap {w : World} {base n c : Nat} {A : Option Addr} {zs : List Int} (h : Own w base (.slice A n c) zs) : n ≤ c := by
  rcases h.2 with ⟨hv, hx⟩ | ⟨g, cap, cur, hv, hbase, hh, hnc, _⟩
  · injection hv with _ e2 e3
    omega
  · injection hv with _ e2 e3
    omega
theorem logB_nil {n : Nat} (h1 : 1 ≤ n) (h2 : n ≤ 16) : logB (n : Int) [] = true := usB_of (by omega) (okQ_of (by simp) (by simp))
theorem tm_lens {n : Nat} {qs : List (Int × Int)} (h : logB (n : Int) qs = true) : (logUp (n : Int) qs).length = n ∧ (tmAt (n : Int) qs).length = n := by
  rw [tmUp_yes h, tmAt_yes h, upk_len, tmTo_len, Int.toNat_natCast]
  exact ⟨rfl, rfl⟩
theorem pairs_nil (w : World) : RdQ (w.alloc (.cells #[] 41)) (w.heap.size + 1) (some ⟨w.heap.size, 0, none⟩) 0 [] := by
  have := (OwnQ.empty 41 w w.heap.size (Nat.le_refl _)).rd
  simpa using this
theorem timedBox (w : World) (v0 v1 : Value) : Below w.heap.size w (w.alloc (.cells #[v0, v1] 64)) := (Below.refl _ _).alloc (Nat.le_refl _) _

set_option maxRecDepth 100000 in
set_option maxHeartbeats 16000000 in
theorem l7Some_any (R p : Nat) (w : World) (h : Src w R p) (hp : p ≤ 60000) :
    Calls Try.prog 141 #[.pointer (some ⟨R, 0, none⟩)] w fun e w' => ∃ v v2 xs ss, e = .returned (.agg #[v, v2]) ∧ Own w' w.heap.size v xs ∧ xs.length ≤ 16 ∧ Own w' w.heap.size v2 ss ∧ ss.length ≤ 16 ∧ (∃ p', p' ≤ p + 70 ∧ Src w' R p') ∧ w.grownBy w' (some R) := by
  have hlt := h.lt
  obtain ⟨W1, hW1⟩ : ∃ W1, W1 = w.alloc (.cells #[.slice none 0 0, .slice none 0 0] 64) := ⟨_, rfl⟩
  have e1 : W1.heap.size = w.heap.size + 1 := by rw [hW1]; simp
  have hZ1 : W1.heap[w.heap.size]? = some (.cells #[.slice none 0 0, .slice none 0 0] 64 (0, 0)) := by rw [hW1]; exact World.alloc_heap_new w _
  have hb1 : Below w.heap.size w W1 := by rw [hW1]; exact timedBox _ _ _
  have hlit : Own (W1.alloc (.cells #[.int .i64 6, .int .i64 8, .int .i64 5, .int .i64 16, .int .i64 3, .int .i64 1] 3)) W1.heap.size (.slice (some ⟨W1.heap.size, 0, none⟩) 6 6) [6, 8, 5, 16, 3, 1] := by
    have := Own.lit W1 W1.heap.size [6, 8, 5, 16, 3, 1] (by simp) (by simp)
    simpa using this
  have hb2 : Below W1.heap.size W1 (W1.alloc (.cells #[.int .i64 6, .int .i64 8, .int .i64 5, .int .i64 16, .int .i64 3, .int .i64 1] 3)) := (Below.refl _ _).alloc (Nat.le_refl _) _
  have NU0 := num_any R p W1.heap.size _ _ _ (h.below (Below.on hb1 hb2) hlt) (by omega) hlit (by omega) (by simp) (by simp)
  obtain ⟨Z, hZ⟩ : ∃ Z, Z = w.heap.size := ⟨_, rfl⟩
  rw [e1, ← hZ] at NU0
  rw [← hZ] at hZ1
  have NU := Lib.hid NU0
  have HG2 := Lib.hid (grown_of_below R (Below.on hb1 hb2))
  have HZ2 := Lib.hid ((hb2.block Z (by omega)).trans hZ1)
  have HW1 := Lib.hid (And.intro hW1 (And.intro hZ (And.intro e1 (show R < Z by omega))))
  clear h hZ1 hb1 hlit hb2 hW1 hZ e1 hlt NU0
  go_enter Try.func141, Try.ntmps141
  go_wp2_with fail
  rw [← HW1.out.1, ← HW1.out.2.1]
  refine NU.out.mono ?_
  rintro e w3 ⟨⟨k, hk, rfl⟩, hs3, hg3⟩
  have hm3 := nums_mem (p := fun z => 1 ≤ z ∧ z ≤ 16) (zs := [6, 8, 5, 16, 3, 1]) (by
    intro z hz
    simp only [List.mem_cons, List.not_mem_nil, or_false] at hz
    omega) hk
  revert hm3
  generalize ([6, 8, 5, 16, 3, 1] : List Int)[k]?.getD 0 = q0
  intro hm3
  obtain ⟨n, rfl⟩ := Int.eq_ofNat_of_zero_le (show 0 ≤ q0 by omega)
  have hgw3 := grown_trans2 HG2.out hg3
  have hZ3 := (hg3.block Z (Array.getElem?_eq_some_iff.1 HZ2.out).1 (fun e => by injection e with e; have := HW1.out.2.2.2; omega)).trans HZ2.out
  have SO := Lib.hid (l2Some_any R (p + 1) n w3 hs3 (by omega) (by omega))
  have H3 := Lib.hid (And.intro hgw3 (And.intro hZ3 hs3))
  clear hk hs3 hg3 hgw3 hZ3 NU
  go_wp2_with fail
  refine SO.out.mono ?_
  rintro e w4 ⟨v, ps, rfl, hq, hpl, ⟨p2, hp2, hs4⟩, hg4⟩
  obtain ⟨A4, c4, rfl, hr4⟩ := hq.form
  have hgw4 := grown_trans2 H3.out.1 hg4
  have hZ4 := (hg4.block Z (Array.getElem?_eq_some_iff.1 H3.out.2.1).1 (fun e => by injection e with e; have := HW1.out.2.2.2; omega)).trans H3.out.2.1
  have LO' := Lib.hid (specTimedOf_apart (n : Int) A4 ps.length c4 w4.heap.size ps w4 hr4 (Nat.le_refl _) (by omega))
  have H4 := Lib.hid (And.intro hgw4 (And.intro hZ4 (And.intro hs4 hp2)))
  have HM := Lib.hid (show 1 ≤ n ∧ n ≤ 16 by omega)
  generalize ps.length = pl at LO' ⊢
  clear hq hpl hs4 hg4 hr4 hgw4 hZ4 hp2 SO hm3
  go_wp2_with fail
  refine LO'.out.mono ?_
  rintro e w5 ⟨v1, v2, rfl, ho5, hq5, hap5, hb5⟩
  obtain ⟨A5, c5, e5, -⟩ := ho5.form
  obtain ⟨A6, c6, e6, -⟩ := hq5.form
  have hln : logB (n : Int) ps = true → (logUp (n : Int) ps).length = n ∧ (tmAt (n : Int) ps).length = n := fun h => tm_lens h
  obtain ⟨V5, hV5⟩ : ∃ V5, V5 = w5.alloc (.cells #[v1, v2] 64) := ⟨_, rfl⟩
  obtain ⟨X, hX⟩ : ∃ X, X = w5.heap.size := ⟨_, rfl⟩
  have hbV5 : Below w5.heap.size w5 V5 := by rw [hV5]; exact timedBox w5 _ _
  have hX5 : V5.heap[X]? = some (.cells #[v1, v2] 64 (0, 0)) := by rw [hV5, hX]; exact World.alloc_heap_new w5 _
  have hb45 := Below.on hb5 hbV5
  have hZl := (Array.getElem?_eq_some_iff.1 H4.out.2.1).1
  have hZ5 := (hb45.block Z hZl).trans H4.out.2.1
  have hs5 := H4.out.2.2.1.below hb45 H4.out.2.2.1.lt
  have hg5 := grown_trans2 H4.out.1 (grown_of_below R hb45)
  have hsz5 := hb5.size
  have ho5' := ho5.keep hbV5 (Nat.le_refl _)
  have hq5' := hq5.keep hbV5 (Nat.le_refl _)
  have hox : ∀ x, v1.ownBlock = some x → x ≠ X := fun x hx => by have := (ho5.blockOf x hx).2; omega
  have hqx : ∀ x, v2.ownBlock = some x → x ≠ X := fun x hx => by have := (hq5.blockOf x hx).2; omega
  have hZX : Z < X := by omega
  have hL5 : TmAtX w V5 R X Z v1 v2 (logUp (n : Int) ps) (tmAt (n : Int) ps) p2 :=
    ⟨hg5, hs5, hX5, ho5'.less (by omega), hq5'.less (by omega), hap5, hox, hqx, hZ5, hZX, HW1.out.2.2.2, HW1.out.2.1.symm⟩
  have HPP := Lib.hid H4.out.2.2.2
  revert hL5 e5 e6 hln
  generalize logUp (n : Int) ps = xs5
  generalize tmAt (n : Int) ps = ss5
  generalize logB (n : Int) ps = lb
  intro e5 e6 hln hL5
  have HE5 := Lib.hid (And.intro hV5 hX)
  clear hbV5 hX5 hb45 hZl hZ5 hs5 hg5 hsz5 ho5 hq5 ho5' hq5' hox hqx hZX hb5 LO' H3 H4 HG2 HZ2 hap5
  have CUT : ∃ A5' A6' c5' c6' n5' n6', v1 = .slice A5' n5' c5' ∧ v2 = .slice A6' n6' c6' := ⟨_, _, _, _, _, _, e5, e6⟩
  obtain ⟨A5, A6, c5, c6, n5, n6, rfl, rfl⟩ : ∃ A5' A6' c5' c6' n5' n6', v1 = .slice A5' n5' c5' ∧ v2 = .slice A6' n6' c6' := CUT
  have hn5 : n5 = xs5.length := by injection e5
  have hn6 : n6 = ss5.length := by injection e6
  clear e5 e6
  obtain ⟨⟨x1, x2⟩, x3, x4⟩ := boxTwo_cells hL5.box
  rw [hV5, hX] at x1 x2 x3 x4
  clear hV5 hX
  cases lb
  case' true =>
    have hx1 := (hln rfl).1
    have hx2 := (hln rfl).2
    obtain rfl : n = n5 := by omega
    obtain rfl : n = n6 := by omega
    have HX := Lib.hid (And.intro HM.out.1 (And.intro HM.out.2 (And.intro hx1 hx2)))
    have HL5 := Lib.hid hL5
    have HE := HE5
    clear hL5 hln hx1 hx2 hn5 hn6 HE5
    go_wp2_with fail
    rw [← HE.out.1, ← HE.out.2]
    clear x1 x2 x3 x4 HE
  case' false =>
    have hbn := logB_nil HM.out.1 HM.out.2
    have e6 : V5.heap.size = X + 1 := by rw [HE5.out.1, HE5.out.2]; simp
    have NL0 := specTimedOf_apart (n : Int) (some ⟨V5.heap.size, 0, none⟩) 0 0 (V5.heap.size + 1) [] (V5.alloc (.cells #[] 41)) (pairs_nil V5) (by simp) (by omega)
    rw [hbn, e6] at NL0
    have NL := Lib.hid NL0
    have hlx := tm_lens hbn
    have HL5 := Lib.hid hL5
    have HE := HE5
    clear hL5 hln hn5 hn6 HE5 hbn NL0 e6
    go_wp2_with fail
    rw [← HE.out.1, ← HE.out.2]
    clear x1 x2 x3 x4 HE
    refine NL.out.mono ?_
    rintro e w6 ⟨v6, v7, rfl, ho6, hq6, hap6, hb6⟩
    have hL6 := (HL5.out.alloc (.cells #[] 41)).below hb6
    have hbg := (HL5.out.alloc (.cells #[] 41)).big
    have hXl := (HL5.out.alloc (.cells #[] 41)).xlt
    have hx6 : ∀ x, v6.ownBlock = some x → x ≠ X := fun x hx => by have := (ho6.blockOf x hx).1; omega
    have hx7 : ∀ x, v7.ownBlock = some x → x ≠ X := fun x hx => by have := (hq6.blockOf x hx).1; omega
    have hL7 := hL6.both (ho6.less hbg) (hq6.less hbg) hap6 hx6 hx7
    obtain ⟨A8, c8, e8, -⟩ := ho6.form
    obtain ⟨A9, c9, e9, -⟩ := hq6.form
    rw [hlx.1] at e8
    rw [hlx.2] at e9
    obtain ⟨⟨x1, x2⟩, x3, x4⟩ := boxTwo_cells hL6.box
    have HX0 := And.intro HM.out.1 (And.intro HM.out.2 (And.intro hlx.1 hlx.2))
    revert hL7 HX0
    generalize logUp (n : Int) [] = xs8
    generalize tmAt (n : Int) [] = ss8
    intro hL7 HX0
    have HX := Lib.hid HX0
    have HL8 := Lib.hid hL7
    clear NL hL6 hbg hXl hx6 hx7 hL7 ho6 hq6 hap6 hb6 hlx HL5 HX0
    subst e8 e9
    go_wp2_with fail
    clear x1 x2 x3 x4
    obtain ⟨V6, hV6⟩ : ∃ V6, V6 = (w6.setCell ⟨X, 0, none⟩ (.slice A8 n c8)).setCell ⟨X, 1, none⟩ (.slice A9 n c9) := ⟨_, rfl⟩
    rw [← hV6] at HL8 ⊢
    clear hV6
    obtain ⟨A5, hA5⟩ : ∃ A5, A5 = A8 := ⟨_, rfl⟩
    obtain ⟨A6, hA6⟩ : ∃ A6, A6 = A9 := ⟨_, rfl⟩
    obtain ⟨c5, hc5⟩ : ∃ c5, c5 = c8 := ⟨_, rfl⟩
    obtain ⟨c6, hc6⟩ : ∃ c6, c6 = c9 := ⟨_, rfl⟩
    obtain ⟨xs5, hxs⟩ : ∃ xs5, xs5 = xs8 := ⟨_, rfl⟩
    obtain ⟨ss5, hss⟩ : ∃ ss5, ss5 = ss8 := ⟨_, rfl⟩
    subst hA5 hA6 hc5 hc6 hxs hss
    have HL5 := HL8
    clear HL8
  all_goals
    have P24 := Lib.hid (pick_tm HL5.out (by have := HPP.out; omega) 24)
    refine P24.out.mono ?_
    rintro e w7 ⟨⟨x, rfl, _⟩, hL7, _⟩
    obtain ⟨⟨x1, x2⟩, x3, x4⟩ := boxTwo_cells hL7.box
    have HL7 := Lib.hid hL7
    clear P24 HL5
    by_cases hx0 : x = 0
    · subst hx0
      have hd := hL7.drew
      obtain ⟨g, rfl⟩ := own_head hL7.ownq HX.out.1
      have hrz1 : R < Z + 1 := by have := HW1.out.2.2.2; omega
      have hlitB : Own (w7.alloc (.cells #[.int .i64 0, .int .i64 1, .int .i64 24, .int .i64 25, .int .i64 (-1)] 3)).drew (Z + 1) (.slice (some ⟨w7.heap.size, 0, none⟩) 5 5) [0, 1, 24, 25, -1] := tm_lit5 0 1 24 25 (-1) hL7.big
      have PN := Lib.hid (fun W' (h' : TmAtX w W' R X Z (.slice A5 n c5) (.slice (some ⟨g, 0, none⟩) n c6) xs5 ss5 (p2 + 1)) => pick_tm h' (by have := HPP.out; omega) (n : Int))
      have NN := Lib.hid (fun W' b (h' : TmAtX w W' R X Z (.slice A5 n c5) (.slice (some ⟨g, 0, none⟩) n c6) xs5 ss5 (p2 + 1 + 1)) (ho : Own W' (Z + 1) (.slice (some ⟨b, 0, none⟩) 5 5) [0, 1, 24, 25, -1]) => num_tm h' (by have := HPP.out; omega) ho (by simp) (by simp))
      have hn : 1 ≤ (n : Int) := by have := HX.out.1; omega
      clear hL7
      go_wp2_with fail
      go_region_held3 (fun w' => w'.cell? ⟨X, 1, none⟩ = some (.slice (some ⟨g, 0, none⟩) n c6))
        (first | exact TmAtX.c1 (by assumption) | exact TmAtX.c1 (TmAtX.alloc (by assumption) _) | exact TmAtX.c1 (TmAtX.set1 (by assumption) _ _))
        (first | (go_at_call 96; refine (PN.out _ (by first | assumption | exact TmAtX.alloc (by assumption) _)).mono ?_; rintro e w8 ⟨⟨j, rfl, hj⟩, hL8, hg8⟩; have hj := hj hn; have hj0 : (0 : Int) ≤ (j : Int) := by omega) | (go_at_call 98; refine (NN.out _ _ (by first | assumption | exact TmAtX.alloc (by assumption) _) (by first | exact tm_lit5 _ _ _ _ _ (TmAtX.big (by assumption)) | exact Own.row hlitB (by assumption) hrz1)).mono ?_; rintro e w9 ⟨⟨i, _, rfl⟩, hL9, _⟩; have cj := hL9.ownq.slot (show j < n by omega); have fj := hL9.ownq.free j; generalize ([0, 1, 24, 25, -1] : List Int)[i]?.getD 0 = zz))
      all_goals
        have hL10 := hL9.set1 j zz
        obtain ⟨W10, hW10⟩ : ∃ W10, W10 = w9.setCell ⟨g, j, none⟩ (.int .i64 zz) := ⟨_, rfl⟩
        rw [← hW10] at hL10 ⊢
        obtain ⟨⟨y1, y2⟩, y3, y4⟩ := boxTwo_cells hL10.box
        obtain ⟨⟨z1, z2⟩, z3, z4⟩ := boxTwo_cells hL10.res
        have HL9 := Lib.hid hL10
        clear hL10 hL9 hW10 cj fj hL8 hg8 hlitB hrz1 hd hn hj hj0 PN NN x1 x2 x3 x4
        go_wp2
        obtain ⟨hown, hownq, hsrc, hgrw, hbx⟩ := HL9.out.ret
        obtain ⟨⟨k1, k2⟩, _⟩ := boxTwo_cells hbx
        refine bodyPost_ret (v := .agg #[.slice A5 n c5, .slice (some ⟨g, 0, none⟩) n c6]) (by simp [results, Try.results141, go_sem, k1, k2]) rfl ?_
        rw [← HW1.out.2.1]
        exact ⟨_, _, _, _, rfl, hown, by have := HX.out; omega, hownq, by have := HX.out; rw [List.length_set]; omega, ⟨_, by have := HPP.out; omega, hsrc⟩, hgrw⟩
    · by_cases hx1 : x = 1
      · subst hx1
        have hd := hL7.drew
        obtain ⟨g, rfl⟩ := own_head hL7.own HX.out.1
        have hrz1 : R < Z + 1 := by have := HW1.out.2.2.2; omega
        have hlitB : Own (w7.alloc (.cells #[.int .i64 0, .int .i64 (-1), .int .i64 16] 3)).drew (Z + 1) (.slice (some ⟨w7.heap.size, 0, none⟩) 3 3) [0, -1, 16] := tm_lit3 0 (-1) 16 hL7.big
        have PN := Lib.hid (fun W' (h' : TmAtX w W' R X Z (.slice (some ⟨g, 0, none⟩) n c5) (.slice A6 n c6) xs5 ss5 (p2 + 1)) => pick_tm h' (by have := HPP.out; omega) (n : Int))
        have NN := Lib.hid (fun W' b (h' : TmAtX w W' R X Z (.slice (some ⟨g, 0, none⟩) n c5) (.slice A6 n c6) xs5 ss5 (p2 + 1 + 1)) (ho : Own W' (Z + 1) (.slice (some ⟨b, 0, none⟩) 3 3) [0, -1, 16]) => num_tm h' (by have := HPP.out; omega) ho (by simp) (by simp))
        have hn : 1 ≤ (n : Int) := by have := HX.out.1; omega
        clear hL7
        go_wp2_with fail
        go_region_held3 (fun w' => w'.cell? ⟨X, 0, none⟩ = some (.slice (some ⟨g, 0, none⟩) n c5))
          (first | exact TmAtX.c0 (by assumption) | exact TmAtX.c0 (TmAtX.alloc (by assumption) _) | exact TmAtX.c0 (TmAtX.set0 (by assumption) _ _))
          (first | (go_at_call 96; refine (PN.out _ (by first | assumption | exact TmAtX.alloc (by assumption) _)).mono ?_; rintro e w8 ⟨⟨j, rfl, hj⟩, hL8, hg8⟩; have hj := hj hn; have hj0 : (0 : Int) ≤ (j : Int) := by omega) | (go_at_call 98; refine (NN.out _ _ (by first | assumption | exact TmAtX.alloc (by assumption) _) (by first | exact tm_lit3 _ _ _ (TmAtX.big (by assumption)) | exact Own.row hlitB (by assumption) hrz1)).mono ?_; rintro e w9 ⟨⟨i, _, rfl⟩, hL9, _⟩; have cj := hL9.own.slot (show j < n by omega); have fj := hL9.own.free j; generalize ([0, -1, 16] : List Int)[i]?.getD 0 = zz))
        all_goals
          have hL10 := hL9.set0 j zz
          obtain ⟨W10, hW10⟩ : ∃ W10, W10 = w9.setCell ⟨g, j, none⟩ (.int .i64 zz) := ⟨_, rfl⟩
          rw [← hW10] at hL10 ⊢
          obtain ⟨⟨y1, y2⟩, y3, y4⟩ := boxTwo_cells hL10.box
          obtain ⟨⟨z1, z2⟩, z3, z4⟩ := boxTwo_cells hL10.res
          have HL9 := Lib.hid hL10
          clear hL10 hL9 hW10 cj fj hL8 hg8 hlitB hrz1 hd hn hj hj0 PN NN x1 x2 x3 x4
          go_wp2
          obtain ⟨hown, hownq, hsrc, hgrw, hbx⟩ := HL9.out.ret
          obtain ⟨⟨k1, k2⟩, _⟩ := boxTwo_cells hbx
          refine bodyPost_ret (v := .agg #[.slice (some ⟨g, 0, none⟩) n c5, .slice A6 n c6]) (by simp [results, Try.results141, go_sem, k1, k2]) rfl ?_
          rw [← HW1.out.2.1]
          exact ⟨_, _, _, _, rfl, hown, by have := HX.out; rw [List.length_set]; omega, hownq, by have := HX.out; omega, ⟨_, by have := HPP.out; omega, hsrc⟩, hgrw⟩
      · by_cases hx2 : x = 2
        · subst hx2
          obtain ⟨g, rfl⟩ := own_head hL7.ownq HX.out.1
          obtain ⟨off, sc, SL, hoff⟩ := ints_tail g n c6 HX.out.1 (own_cap hL7.ownq)
          have hgl := hL7.ownq.at_base.2
          have hrd : ∀ k, k < n - 1 → w7.cell? ⟨g, off + k, none⟩ = some (.int .i64 ((ss5.drop 1)[k]?.getD 0)) := fun k hk => by
            rw [hoff (by omega), List.getElem?_drop]
            exact hL7.ownq.slot (by omega)
          have hdl : (ss5.drop 1).length = n - 1 := by rw [List.length_drop, HX.out.2.2.2]
          have HR := Lib.hid (And.intro hdl (And.intro hgl (And.intro hrd (show n - 1 ≤ 1048576 by have := HX.out; omega))))
          have hzx : Z ≠ X := fun e => by have := hL7.zx; omega
          have hxz : X ≠ Z := fun e => by have := hL7.zx; omega
          obtain ⟨⟨y1, y2⟩, y3, y4⟩ := boxTwo_cells (hL7.alloc (.cells #[] 3)).box
          clear hL7 x1 x2 x3 x4 hgl hrd hdl hoff
          go_wp2_with (at_builtin; go_must (refine wpList_copyT rfl (.tmp 51) (.tmp 54) rfl w7 g off (n - 1) sc (ss5.drop 1) rfl rfl HR.out.1 HR.out.2.1 HR.out.2.2.1 HR.out.2.2.2 ?_); intro A9 k9 w9 ho9 hb9; have hL9 := HL7.out.below hb9; obtain ⟨⟨u1, u2⟩, u3, u4⟩ := boxTwo_cells hL9.box; obtain ⟨⟨z1, z2⟩, z3, z4⟩ := boxTwo_cells hL9.res; have HL9 := Lib.hid (And.intro ho9 (And.intro hb9 hL9)); clear ho9 hb9 hL9)
          obtain ⟨ho9, hb9, hL9⟩ := HL9.out
          have hL10 := hL9.box1 (ho9.less HL7.out.big) (fun x hx => by have := (ho9.blockOf x hx).1; have := HL7.out.xlt; omega) (fun x hx y hy => by have := (ho9.blockOf y hy).1; have := (HL7.out.own.blockOf x hx).2; omega)
          obtain ⟨hown, hownq, hsrc, hgrw, hbx⟩ := hL10.ret
          obtain ⟨⟨k1, k2⟩, _⟩ := boxTwo_cells hbx
          refine bodyPost_ret (v := .agg #[.slice A5 n c5, .slice A9 (n - 1) k9]) (by simp [results, Try.results141, go_sem, k1, k2]) rfl ?_
          rw [← HW1.out.2.1]
          exact ⟨_, _, _, _, rfl, hown, by have := HX.out; omega, hownq, by have := HX.out; have := HR.out.1; omega, ⟨_, by have := HPP.out; omega, hsrc⟩, hgrw⟩
        · have b0 : ((x : Int) == 0) = false := by simp; omega
          have b1 : ((x : Int) == 1) = false := by simp; omega
          have b2 : ((x : Int) == 2) = false := by simp; omega
          obtain ⟨⟨z1, z2⟩, z3, z4⟩ := boxTwo_cells hL7.res
          have HL9 := HL7
          clear hx0 hx1 hx2 hL7
          go_wp2
          obtain ⟨hown, hownq, hsrc, hgrw, hbx⟩ := HL9.out.ret
          obtain ⟨⟨k1, k2⟩, _⟩ := boxTwo_cells hbx
          refine bodyPost_ret (v := .agg #[.slice A5 n c5, .slice A6 n c6]) (by simp [results, Try.results141, go_sem, k1, k2]) rfl ?_
          rw [← HW1.out.2.1]
          exact ⟨_, _, _, _, rfl, hown, by have := HX.out; omega, hownq, by have := HX.out; omega, ⟨_, by have := HPP.out; omega, hsrc⟩, hgrw⟩
end Go.Proofs.Ytfafgihfgdpclaa
