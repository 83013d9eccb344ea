/- Going back in a history by an iterator: the law of a range over a function that changes memory between two rounds, and the iterator of histories. Condition: lengths up to 1048576. -/
import Derived.Test.YtichcnaomcpnhaaBackTo
import Derived.Test.YtichcnaomcpnhaaGo
import Derived.Test.YtichcnaomcpnhaaIter
import Derived.Test.YtichcnaomcpnhaaSeqMut
import Derived.Deep.RegionHeld3
namespace Go.Proofs.Ytichcnaomcpnhaa
open Go.RowKit Go.Shelf

/-- The forest behind k steps. -/
def upAt (xs : List Int) (ss : List (Int × Int)) (k : Nat) : List Int := (builtL (roots xs.length) (ss.take k)).getD []
/-- Whether two items are together behind k steps. -/
def tgN (xs : List Int) (ss : List (Int × Int)) (a b k : Nat) : Bool := decide (rootI (upAt xs ss k) a = rootI (upAt xs ss k) b)
/-- JoinedAt's answer. -/
def jatN (xs : List Int) (ss : List (Int × Int)) (a b : Int) : Int := if logV xs ss && itemB xs a && itemB xs b then optI (firstT (tgN xs ss a.toNat b.toNat) 0 (ss.length + 1)) else -1
theorem upAt_built {xs : List Int} {ss : List (Int × Int)} (hv : logV xs ss = true) {k : Nat} (hk : k ≤ ss.length) : builtL (roots xs.length) (ss.take k) = some (upAt xs ss k) ∧ (upAt xs ss k).length = xs.length ∧ fvB (upAt xs ss k) = true ∧ logV (upAt xs ss k) (ss.take k) = true := by
  obtain ⟨u, hu, h1, h2, h3⟩ := bk_take hv hk
  have e : upAt xs ss k = u := by unfold upAt; rw [hu]; rfl
  rw [e]
  exact ⟨hu, h1, h2, h3⟩
theorem upAt_all {xs : List Int} {ss : List (Int × Int)} (hv : logV xs ss = true) : upAt xs ss ss.length = xs := by
  unfold upAt
  rw [List.take_of_length_le (Nat.le_refl _), (logV_parts hv).2.1]
  rfl
/-- The step behind k steps. -/
theorem upAt_step {xs : List Int} {ss : List (Int × Int)} (hv : logV xs ss = true) {k : Nat} (hk : k < ss.length) : okStep (upAt xs ss k) (ss[k]?.getD (0, 0)) = true ∧ upAt xs ss (k + 1) = hang (upAt xs ss k) (ss[k]?.getD (0, 0)).1.toNat (ss[k]?.getD (0, 0)).2.toNat ∧ Two (upAt xs ss k) (ss[k]?.getD (0, 0)).1.toNat (ss[k]?.getD (0, 0)).2.toNat := by
  obtain ⟨h1, _, h3, _⟩ := upAt_built hv (Nat.le_of_lt hk)
  obtain ⟨h5, _, _, _⟩ := upAt_built hv (show k + 1 ≤ ss.length by omega)
  have h6 := h5
  rw [take_snoc hk (0, 0), builtL_snoc _ h1] at h6
  split at h6
  · rename_i hok
    injection h6 with h6
    obtain ⟨T, e⟩ := okStep_two h3 hok
    exact ⟨hok, by rw [← h6, e], T⟩
  · cases h6
/-- Who is together stays so. -/
theorem tgN_next {xs : List Int} {ss : List (Int × Int)} (hv : logV xs ss = true) {a b : Nat} (ha : a < xs.length) (hb : b < xs.length) {k : Nat} (hk : k < ss.length) (h : tgN xs ss a b k = true) : tgN xs ss a b (k + 1) = true := by
  obtain ⟨_, e, T⟩ := upAt_step hv hk
  obtain ⟨_, hl, _, _⟩ := upAt_built hv (Nat.le_of_lt hk)
  unfold tgN at h ⊢
  have h := of_decide_eq_true h
  refine decide_eq_true ?_
  rw [e, hang_root T (by omega), hang_root T (by omega), h]
theorem tgN_from {xs : List Int} {ss : List (Int × Int)} (hv : logV xs ss = true) {a b : Nat} (ha : a < xs.length) (hb : b < xs.length) {k : Nat} (h : tgN xs ss a b k = true) : ∀ d, k + d ≤ ss.length → tgN xs ss a b (k + d) = true
  | 0, _ => h
  | d + 1, hd => tgN_next hv ha hb (k := k + d) (by omega) (tgN_from hv ha hb h d (by omega))
theorem jat_yes {xs : List Int} {ss : List (Int × Int)} (hv : logV xs ss = true) {a b : Nat} (ha : a < xs.length) (hb : b < xs.length) : jatN xs ss (a : Int) (b : Int) = optI (firstT (tgN xs ss a b) 0 (ss.length + 1)) := by
  obtain ⟨_, _, hf⟩ := logV_parts hv
  unfold jatN
  rw [hv, item_of hf (by omega) (by omega), item_of hf (by omega) (by omega)]
  simp
/-- Together behind x steps and not ahead of it. -/
theorem jat_at {xs : List Int} {ss : List (Int × Int)} (hv : logV xs ss = true) {a b : Nat} (ha : a < xs.length) (hb : b < xs.length) {x : Nat} (hx : x ≤ ss.length) (h1 : tgN xs ss a b x = true) (h2 : ∀ j, j < x → tgN xs ss a b j = false) : jatN xs ss (a : Int) (b : Int) = (x : Int) := by
  rw [jat_yes hv ha hb, firstT_some _ h1 _ _ (fun j _ h => h2 j h) (Nat.zero_le _) (by omega)]
  rfl
/-- Not together at all. -/
theorem jat_never {xs : List Int} {ss : List (Int × Int)} (hv : logV xs ss = true) {a b : Nat} (ha : a < xs.length) (hb : b < xs.length) (h : tgN xs ss a b ss.length = false) : jatN xs ss (a : Int) (b : Int) = -1 := by
  rw [jat_yes hv ha hb, firstT_none]
  · rfl
  · intro j _ hj
    cases e : tgN xs ss a b j with
    | false => rfl
    | true =>
      have := tgN_from hv ha hb e (ss.length - j) (by omega)
      rw [show j + (ss.length - j) = ss.length by omega, h] at this
      cases this
/-- Apart behind x steps, together behind one more. -/
theorem jat_next {xs : List Int} {ss : List (Int × Int)} (hv : logV xs ss = true) {a b : Nat} (ha : a < xs.length) (hb : b < xs.length) {x : Nat} (hx : x < ss.length) (h1 : tgN xs ss a b (x + 1) = true) (h2 : tgN xs ss a b x = false) : jatN xs ss (a : Int) (b : Int) = ((x + 1 : Nat) : Int) := by
  refine jat_at hv ha hb (by omega) h1 fun j hj => ?_
  cases e : tgN xs ss a b j with
  | false => rfl
  | true =>
    have := tgN_from hv ha hb e (x - j) (by omega)
    rw [show j + (x - j) = x by omega, h2] at this
    cases this
theorem jat_no {xs : List Int} {ss : List (Int × Int)} {a b : Int} (h : ¬ (logV xs ss = true ∧ itemB xs a = true ∧ itemB xs b = true)) : jatN xs ss a b = -1 := by
  unfold jatN
  rw [if_neg (by simpa [and_assoc] using h)]
theorem jat_type : (Try.prog.info? 26).isSome = (Try.prog.info? 26).isSome := rfl
end Go.Proofs.Ytichcnaomcpnhaa


namespace Go.Proofs.Ytichcnaomcpnhaa
open Go.RowKit Go.Shelf
attribute [local go_sem] Oper.semAt_some

/-- k numbers downwards from m. -/
def down (m k : Nat) : List Nat := (List.range k).map fun i => m - i
theorem down_len (m k : Nat) : (down m k).length = k := by simp [down]
theorem down_succ (m k : Nat) : down m (k + 1) = down m k ++ [m - k] := by simp [down, List.range_succ]
/-- The history with x steps left, of which w0 tells how it was made. -/
def HB (w0 : World) (H J M N n : Nat) (ds : List (Int × Int × Value)) (x : Nat) (W : World) : Prop :=
  ∃ sz ht u D, HistSt W H J M N n sz ht u D ∧ OwnD w0 (H + 1) D (ds.take x) ∧ Und w0 (H + 1) M n (ds.take x) u sz ht ∧ Frz w0 W (H + 1)
theorem HB.kept {w0 W W' : World} {H J M N n x : Nat} {ds : List (Int × Int × Value)} (h : HB w0 H J M N n ds x W) (hH : H < w0.heap.size) (hs : W.heap.size ≤ W'.heap.size) (hk : ∀ k, k < w0.heap.size → W'.heap[k]? = W.heap[k]?) : HB w0 H J M N n ds x W' := by
  obtain ⟨sz, ht, u, D, hS, hD, hU, hf⟩ := h
  have o1 := hS.o1
  have o2 := hS.o2
  have o3 := hS.o3
  exact ⟨sz, ht, u, D, ⟨(hk H hH).trans hS.at_, hS.mem.eq (hk M (by omega)), (hk J (by omega)).trans hS.box, hS.nd.eq (hk N (by omega)), o1, o2, o3, hS.fv, hS.len, hS.tell⟩, hD, hU, Nat.le_trans hf.1 hs, fun k h1 h2 => (hk k h2).trans (hf.2 k h1 h2)⟩
set_option maxRecDepth 100000 in
set_option maxHeartbeats 8000000 in
theorem back_in (q l Bb B8 C H J M N n m : Nat) (ds : List (Int × Int × Value)) (w0 : World) (Jv Jx : List Nat → World → Prop) (hro : Fence.wide.round = none)
    (hMv : ∀ pre W1 W2, Jv pre W1 → Chg (fun i => i = N ∨ i = M ∨ i = H) W1 W2 → Jv pre W2)
    (hY : ∀ (pre : List Nat) (x : Nat) W1, Jv pre W1 → HB w0 H J M N n ds (m + 1 - (pre ++ [x]).length) W1 → (pre ++ [x] = down m (pre ++ [x]).length ∧ (pre ++ [x]).length ≤ m + 1) → YieldAt Fence.wide (q - 1) Try.prog l #[.int .i64 (x : Int)] W1 fun e W' =>
      (e = .returned (.bool true) ∧ Jv (pre ++ [x]) W' ∧ Chg (fun i => i = B8 ∨ C ≤ i) W1 W') ∨ (e = .returned (.bool false) ∧ Jx (pre ++ [x]) W'))
    (W : World) (hBb : W.cell? ⟨Bb, 0, none⟩ = some (.pointer (some ⟨H, 0, none⟩))) (hb : Bb < C ∧ Bb ≠ B8 ∧ w0.heap.size ≤ Bb ∧ w0.heap.size ≤ B8 ∧ C ≤ W.heap.size ∧ H < w0.heap.size) (h0 : Jv [] W) (hH : HB w0 H J M N n ds m W) (hm : ds.length = m) (hm2 : m ≤ 1000) (hq : 1 ≤ q) :
    CallsIn Fence.wide q Try.prog 86 #[.func (.yield l) #[] #[], .pointer (some ⟨Bb, 0, none⟩)] W fun e W' => (∃ v, e = .returned v) ∧
      ((∃ xs, xs = down m (m + 1) ∧ Jv xs W') ∨ (∃ pre : List Nat, (pre = down m pre.length ∧ pre.length ≤ m + 1) ∧ Jx pre W')) := by
  have hbox : ∀ {A B : World}, A.heap.size ≤ B.heap.size → Chg (fun i => i = B8 ∨ C ≤ i) A B → HB w0 H J M N n ds 0 A → True := fun _ _ _ => trivial
  clear hbox
  have HH0 := hH
  obtain ⟨sz, ht, u, D, hS, hD, hU, hf⟩ := HH0
  obtain ⟨DA, dn, dc, rfl⟩ := hD.form
  have hdn : dn = m := by
    rcases hD.2 with ⟨hv, hx⟩ | ⟨g, cap, cur, hv, _⟩
    · injection hv with _ e _
      rw [List.length_take] at hx
      omega
    · injection hv with _ e _
      rw [List.length_take] at e
      omega
  subst hdn
  obtain ⟨⟨_, a2⟩, _⟩ := boxTwo_cells hS.at_
  have HMV := Lib.hid hMv
  have HY := Lib.hid hY
  have HBS := Lib.hid (And.intro hb (And.intro hm hm2))
  have HI : Hid (dn ≤ dn ∧ Jv (down dn (dn - dn)) W ∧ HB w0 H J M N n ds dn W ∧ W.cell? ⟨Bb, 0, none⟩ = some (.pointer (some ⟨H, 0, none⟩)) ∧ C ≤ W.heap.size) := ⟨Nat.le_refl _, by rw [Nat.sub_self]; exact h0, hH, hBb, hb.2.2.2.2.1⟩
  clear hMv hY hb hm hH hS hD hU hf h0
  refine callsIn_of_wp Try.func86 rfl trivial ?_ hro
  simp only [Try.ntmps86, List.size_toArray, List.length_cons, List.length_nil, Nat.reduceAdd, Nat.reduceSub, Array.replicate_succ, Array.replicate_zero, List.push_toArray, List.append_toArray, List.nil_append, List.cons_append]
  gi_wp2
  clear hBb a2
  gi_loopw [3] (fun lv wr => ∃ x : Nat, lv = .int .i64 (x : Int) ∧ Hid (x ≤ dn ∧ Jv (down dn (dn - x)) wr ∧ HB w0 H J M N n ds x wr ∧ wr.cell? ⟨Bb, 0, none⟩ = some (.pointer (some ⟨H, 0, none⟩)) ∧ C ≤ wr.heap.size)) (fun lv _ => (intOf lv).toNat)
  case atStart => exact ⟨dn, rfl, HI⟩
  case round =>
    obtain ⟨x, rfl, hx⟩ := hrel
    obtain ⟨hxm, hJ, hHx, hc, hC⟩ := hx.out
    have el : (down dn (dn - x) ++ [x]).length = dn - x + 1 := by rw [List.length_append, down_len, List.length_singleton]
    have ed : down dn (dn - x) ++ [x] = down dn (dn - x + 1) := by rw [down_succ, show dn - (dn - x) = x by omega]
    have hyy := HY.out (down dn (dn - x)) x wr hJ (by rw [el, show dn + 1 - (dn - x + 1) = x by omega]; exact hHx) ⟨by rw [el]; exact ed, by rw [el]; omega⟩
    obtain ⟨fn, tmps, assign, body, hy, hR⟩ := hyy
    rw [ed] at hR
    have HX := Lib.hid (And.intro hxm (And.intro hHx (And.intro hc hC)))
    have hx1 : (x : Int) ≤ 1000 := by omega
    clear hx hxm hJ hHx hc hC el ed HI
    gi_wp2
    refine hR.mono ?_
    rintro e W3 (⟨rfl, hJ3, hk3⟩ | ⟨rfl, hJx3⟩)
    · obtain ⟨hxm, hHx, hc, hC⟩ := HX.out
      obtain ⟨⟨b1, b2, b3, b4, b5, b6⟩, hm, _⟩ := HBS.out
      have hc3 : W3.cell? ⟨Bb, 0, none⟩ = some (.pointer (some ⟨H, 0, none⟩)) := (hk3.cell (p := ⟨Bb, 0, none⟩) (by show Bb < _; omega) (by show ¬ (Bb = B8 ∨ C ≤ Bb); omega)).trans hc
      have hH3 : HB w0 H J M N n ds x W3 := hHx.kept b6 hk3.size (fun k hk => hk3.block k (by omega) (by omega))
      cases x with
      | zero =>
        have HJ := Lib.hid hJ3
        clear hJ3 hk3 hc3 hH3 hxm hHx hc hC b1 b2 b3 b4 b5 b6 hm
        gi_wp2
        go_end0
        exact ⟨⟨_, rfl⟩, .inl ⟨_, rfl, HJ.out⟩⟩
      | succ y =>
        obtain ⟨sz, ht, u, D, hS, hD, hU, hf⟩ := hH3
        have BT := (callsIn_wide (n := q - 1)).2 (backTo_any H J M N n y sz ht u D (ds.take (y + 1)) (H + 1) w0 W3 hf hS hD (by omega) (by rw [List.length_take]; omega) hU (by rw [List.length_take]; omega))
        rw [List.take_take, Nat.min_eq_left (by omega)] at BT
        have hwr : IntKind.i64.wrap ((y : Int) + 1 - 1) = (y : Int) := by rw [show (y : Int) + 1 - 1 = y by omega]; exact IntWalk.i64_in _ (by omega)
        have hwr2 : IntKind.i64.wrap (y : Int) = (y : Int) := IntWalk.i64_in _ (by omega)
        have hpos : (0 : Int) < (y : Int) + 1 := by omega
        have hed : down dn (dn - (y + 1) + 1) = down dn (dn - y) := by rw [show dn - (y + 1) + 1 = dn - y by omega]
        rw [hed] at hJ3
        have HJ := Lib.hid (And.intro hJ3 (And.intro hk3 (And.intro hxm (And.intro hC (And.intro hc3 (And.intro hS (And.intro hf b6)))))))
        have BT := Lib.hid BT
        clear hJ3 hk3 hHx hc hC b1 b2 b3 b4 b5 b6 hm hS hD hU hf hed
        gi_wp2
        refine ⟨trivial, BT.out.mono ?_⟩
        rintro e w5 ⟨⟨v5, rfl⟩, sz5, ht5, u5', D5, hS5, hD5, hU5, hc5⟩
        obtain ⟨hJ3, hk3, hxm, hC, hc3, hS, hf, b6⟩ := HJ.out
        obtain ⟨⟨b1, b2, b3, b4, b5, _⟩, hm, _⟩ := HBS.out
        have o1 := hS.o1
        have o2 := hS.o2
        have o3 := hS.o3
        have HI5 : Hid (y ≤ dn ∧ Jv (down dn (dn - y)) w5 ∧ HB w0 H J M N n ds y w5 ∧ w5.cell? ⟨Bb, 0, none⟩ = some (.pointer (some ⟨H, 0, none⟩)) ∧ C ≤ w5.heap.size) := by
          refine ⟨by omega, HMV.out _ _ _ hJ3 hc5, ⟨sz5, ht5, u5', D5, hS5, hD5, hU5, hf.chg hc5 (fun i hi => by omega)⟩, ?_, by have := hc5.size; have := hk3.size; omega⟩
          exact (hc5.cell (p := ⟨Bb, 0, none⟩) (by show Bb < _; have := hk3.size; omega) (by show ¬ (Bb = N ∨ Bb = M ∨ Bb = H); omega)).trans hc3
        clear hJ3 hk3 hxm hC hc3 hS hf b1 b2 b3 b4 b5 b6 hm o1 o2 o3 hS5 hD5 hU5 hc5
        gi_wp2
        exact ⟨⟨y, rfl, HI5⟩, by simp [intOf]⟩
    · have HJ := Lib.hid hJx3
      have hl := HX.out.1
      clear hJx3
      gi_wp2
      go_end0
      exact ⟨⟨_, rfl⟩, .inr ⟨_, ⟨by rw [down_len], by rw [down_len]; omega⟩, HJ.out⟩⟩
/-- What h.backwards() hands back has its contract. -/
theorem back_seq (q Bb B8 H J M N n m : Nat) (ds : List (Int × Int × Value)) (w0 w : World) (hro : Fence.wide.round = none) (hBb : w.cell? ⟨Bb, 0, none⟩ = some (.pointer (some ⟨H, 0, none⟩))) (hb : Bb ≠ B8 ∧ w0.heap.size ≤ Bb ∧ w0.heap.size ≤ B8 ∧ H < w0.heap.size) (hBl : Bb < w.heap.size)
    (hH : HB w0 H J M N n ds m w) (hm : ds.length = m) (hm2 : m ≤ 1000) (hq : 1 ≤ q) :
    SeqMut Fence.wide q Try.prog 86 #[.pointer (some ⟨Bb, 0, none⟩)] (fun x : Nat => #[Value.int .i64 (x : Int)]) (Chg fun i => i = B8 ∨ w.heap.size ≤ i) (Chg fun i => i = N ∨ i = M ∨ i = H) (fun xs => xs = down m (m + 1)) (fun pre => pre = down m pre.length ∧ pre.length ≤ m + 1) (fun pre W => HB w0 H J M N n ds (m + 1 - pre.length) W) w := by
  intro l Jv Jx W hW _ _ hMv hY h0
  obtain ⟨sz, ht, u, D, hS, hD, hU, hf⟩ := id hH
  have hfs := hf.1
  have hHW : HB w0 H J M N n ds m W := hH.kept hb.2.2.2 hW.size (fun k hk => hW.block k (by omega))
  exact back_in q l Bb B8 w.heap.size H J M N n m ds w0 Jv Jx hro hMv hY W ((hW.cell (p := ⟨Bb, 0, none⟩) hBl).trans hBb) ⟨hBl, hb.1, hb.2.1, hb.2.2.1, hW.size, hb.2.2.2⟩ h0 hHW hm hm2 hq
theorem backwards_any (H : Nat) (w : World) :
    Calls Try.prog 47 #[.pointer (some ⟨H, 0, none⟩)] w fun e w' => e = .returned (.func (.func 86) #[] #[.pointer (some ⟨w.heap.size, 0, none⟩)]) ∧ w' = w.alloc (.cells #[.pointer (some ⟨H, 0, none⟩)] 56) := by
  go_enter Try.func47, Try.ntmps47
  go_wp2
  go_ret
  exact ⟨rfl, rfl⟩
end Go.Proofs.Ytichcnaomcpnhaa
