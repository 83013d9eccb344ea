/- JoinedAt of the program. Condition: lengths up to 1048576. -/
import Derived.Test.YtichcnaomcpnhaaBackwards
namespace Go.Proofs.Ytichcnaomcpnhaa
open Go.RowKit Go.Shelf
attribute [local go_sem] Oper.semAt_some

section
variable {P : Program} (w : World)
theorem run_neq_ptr_same {tp te : TypeId} {j : TypeInfo} (a : Addr) (hp : P.underlying tp = some (.pointer te)) (hte : P.info? te = some j) :
    (binOp .neq tp (.pointer (some a)) (.pointer (some a))).run P w = .ok (.bool false) w := by
  have h : ∀ d : Nat, (Op.equalIn (d + 1) tp (.pointer (some a)) (.pointer (some a))).run P w = .ok true w := fun d => by
    simp [Op.equalIn, run_underlying hp, sizeOf, typeInfo, hte, run_sameAddr_same]
  simp only [binOp]
  simp [Op.equal, Op.maxDepth, h 9999]
theorem run_neq_ptr_other {tp te : TypeId} {j : TypeInfo} {a b : Addr} {ca cb : Array Value} {ta tb : TypeId} (hp : P.underlying tp = some (.pointer te)) (hte : P.info? te = some j) (hsz : j.size ≠ 0)
    (hne : a ≠ b) (ha : w.heap[a.block]? = some (.cells ca ta (0, 0))) (hb : w.heap[b.block]? = some (.cells cb tb (0, 0))) :
    (binOp .neq tp (.pointer (some a)) (.pointer (some b))).run P w = .ok (.bool true) w := by
  have h : ∀ d : Nat, (Op.equalIn (d + 1) tp (.pointer (some a)) (.pointer (some b))).run P w = .ok false w := fun d => by
    simp [Op.equalIn, run_underlying hp, sizeOf, typeInfo, hte, hsz, run_sameAddr_other w hne ha hb]
  simp only [binOp]
  simp [Op.equal, Op.maxDepth, h 9999]
end
/-- What has been told when pre has come. -/
def lastD (pre : List Nat) : Int := match pre.getLast? with | some x => (x : Int) | none => -1
theorem lastD_snoc (pre : List Nat) (x : Nat) : lastD (pre ++ [x]) = (x : Int) := by
  unfold lastD
  rw [List.getLast?_concat]
theorem lastD_down (m k : Nat) : lastD (down m (k + 1)) = ((m - k : Nat) : Int) := by rw [down_succ, lastD_snoc]
set_option maxRecDepth 100000 in
set_option maxHeartbeats 8000000 in
theorem implJat_good (A1 A2 : Option Addr) (n c1 m c2 B0 a b : Nat) (xs : List Int) (ss : List (Int × Int)) (w : World) (h1 : Rd w B0 A1 n xs) (h2 : RdQ w B0 A2 m ss) (hB0 : B0 ≤ w.heap.size) (hb1 : n ≤ 1048576) (hb2 : m ≤ 1048576) (hv : logV xs ss = true) (ha : a < n) (hb : b < n) :
    Calls Try.prog 16 #[.agg #[.slice A1 n c1, .slice A2 m c2], .int .i64 (a : Int), .int .i64 (b : Int)] w fun e w' => e = .returned (.int .i64 (jatN xs ss (a : Int) (b : Int))) ∧ Below w.heap.size w w' := by
  obtain ⟨W1, hW1⟩ : ∃ W1, W1 = w.alloc (.cells #[.slice A1 n c1, .slice A2 m c2] 26) := ⟨_, rfl⟩
  obtain ⟨W2, hW2⟩ : ∃ W2, W2 = W1.alloc (.cells #[.int .i64 (a : Int)] 3) := ⟨_, rfl⟩
  obtain ⟨W, hW⟩ : ∃ W, W = W2.alloc (.cells #[.int .i64 (b : Int)] 3) := ⟨_, rfl⟩
  have e1 : W1.heap.size = w.heap.size + 1 := by rw [hW1]; simp
  have e2 : W2.heap.size = w.heap.size + 2 := by rw [hW2]; simp [e1]
  have eW : W.heap.size = w.heap.size + 3 := by rw [hW]; simp [e2]
  have hb12 : Below W1.heap.size W1 W2 := by rw [hW2]; exact (Below.refl _ _).alloc (Nat.le_refl _) _
  have hb23 : Below W2.heap.size W2 W := by rw [hW]; exact (Below.refl _ _).alloc (Nat.le_refl _) _
  have hA : W1.heap[w.heap.size]? = some (.cells #[.slice A1 n c1, .slice A2 m c2] 26 (0, 0)) := by rw [hW1]; exact World.alloc_heap_new w _
  have hAW : W.heap[w.heap.size]? = some (.cells #[.slice A1 n c1, .slice A2 m c2] 26 (0, 0)) := (hb23.block _ (by omega)).trans ((hb12.block _ (by omega)).trans hA)
  have hA4 : Boxed W (w.heap.size + 1) 3 (.int .i64 (a : Int)) := (hb23.block _ (by omega)).trans (by rw [hW2, ← e1]; exact World.alloc_heap_new W1 _)
  have hA5 : Boxed W (w.heap.size + 2) 3 (.int .i64 (b : Int)) := by rw [hW, ← e2]; exact World.alloc_heap_new W2 _
  have hbW : Below w.heap.size w W := by
    have h0 : Below w.heap.size w W1 := by rw [hW1]; exact (Below.refl _ _).alloc (Nat.le_refl _) _
    exact Below.on (Below.on h0 hb12) hb23
  have hl := h1.1
  have hlm := h2.1
  have TE := historyOf_any A1 A2 n c1 m c2 B0 xs ss W (h1.below hbW hB0) (h2.below hbW hB0) (Nat.le_trans hB0 hbW.size) hb1 hb2
  have HAI := fun (w8 : World) => hasItem_any A1 n c1 (a : Int) w8 hb1
  have HBI := fun (w8 : World) => hasItem_any A1 n c1 (b : Int) w8 hb1
  rw [decide_eq_true (show 0 ≤ (a : Int) ∧ (a : Int) < (n : Int) by omega)] at HAI
  rw [decide_eq_true (show 0 ≤ (b : Int) ∧ (b : Int) < (n : Int) by omega)] at HBI
  obtain ⟨B3, hB3⟩ : ∃ x, x = w.heap.size := ⟨_, rfl⟩
  obtain ⟨B4, hB4⟩ : ∃ x, x = w.heap.size + 1 := ⟨_, rfl⟩
  obtain ⟨B5, hB5⟩ : ∃ x, x = w.heap.size + 2 := ⟨_, rfl⟩
  rw [← hB3] at hAW
  rw [← hB4] at hA4
  rw [← hB5] at hA5
  obtain ⟨k1, k2⟩ := (boxTwo_cells hAW).1
  have HW := Lib.hid (And.intro hW (And.intro hW2 (And.intro hW1 (And.intro hB3 (And.intro (show B3 + 1 = B4 by omega) (show B4 + 1 = B5 by omega))))))
  have HE := Lib.hid (And.intro e1 e2)
  have HF := Lib.hid (And.intro hbW (And.intro hAW (And.intro hA4 (And.intro hA5 eW))))
  obtain ⟨⟨p1, p16⟩, hbu, hfv⟩ := logV_parts hv
  have hsh := built_short p1 p16 hbu
  have HV := Lib.hid (And.intro hv (And.intro hl (And.intro hlm (And.intro hsh (And.intro ha hb)))))
  replace TE := Lib.hid TE
  replace HAI := Lib.hid HAI
  replace HBI := Lib.hid HBI
  clear h1 h2 hB0 hb1 hb2 hW1 hW2 hW e1 e2 eW hb12 hb23 hA hAW hA4 hA5 hbW hl hlm hB3 hB4 hB5 p1 p16 hbu hfv hsh hv ha hb
  refine (callsIn_wide (n := 8)).1 (callsIn_of_wp_marks Try.func16 rfl trivial (wpIn_wide.2 ?_) rfl)
  simp only [Try.ntmps16, List.size_toArray, List.length_cons, List.length_nil, Nat.reduceAdd, Nat.reduceSub, Array.replicate_succ, Array.replicate_zero, List.push_toArray, List.append_toArray, List.nil_append, List.cons_append]
  go_wp2_with fail
  rw [← HW.out.2.2.1, ← HW.out.2.1, ← HW.out.1, ← HW.out.2.2.2.1]
  rw [HW.out.2.2.2.2.1, HW.out.2.2.2.2.2]
  refine TE.out.mono ?_
  rintro e w1 ⟨hb, ⟨hv, _⟩ | ⟨_, H, J, M, N, rfl, hwN, sz, ht, D, ds, hS, hD, hst, hfn, hUd⟩⟩
  · rw [HV.out.1] at hv
    cases hv
  have hszW := HF.out.2.2.2.2
  have hB3 := HW.out.2.2.2.1
  have hB4 := HW.out.2.2.2.2.1
  have hB5 := HW.out.2.2.2.2.2
  have hHl := hS.lt
  have o1 := hS.o1
  have o2 := hS.o2
  have o3 := hS.o3
  obtain ⟨V7, hV7⟩ : ∃ V7, V7 = w1.alloc (.cells #[.pointer (some ⟨H, 0, none⟩)] 56) := ⟨_, rfl⟩
  obtain ⟨B7, hB7⟩ : ∃ B7, B7 = w1.heap.size := ⟨_, rfl⟩
  have e7 : V7.heap.size = B7 + 1 := by rw [hV7, hB7]; simp
  have hb7 : Below w1.heap.size w1 V7 := by rw [hV7]; exact (Below.refl _ _).alloc (Nat.le_refl _) _
  have hA7 : Boxed V7 B7 56 (.pointer (some ⟨H, 0, none⟩)) := by rw [hV7, hB7]; exact World.alloc_heap_new w1 _
  obtain ⟨V8, hV8⟩ : ∃ V8, V8 = V7.alloc (.cells #[.int .i64 (-1)] 3) := ⟨_, rfl⟩
  obtain ⟨B8, hB8⟩ : ∃ B8, B8 = V7.heap.size := ⟨_, rfl⟩
  have e8 : V8.heap.size = B8 + 1 := by rw [hV8, hB8]; simp
  have hb8 : Below V7.heap.size V7 V8 := by rw [hV8]; exact (Below.refl _ _).alloc (Nat.le_refl _) _
  have hA8 : Boxed V8 B8 3 (.int .i64 (-1)) := by rw [hV8, hB8]; exact World.alloc_heap_new V7 _
  obtain ⟨V9, hV9⟩ : ∃ V9, V9 = V8.alloc (.cells #[.pointer (some ⟨H, 0, none⟩)] 56) := ⟨_, rfl⟩
  obtain ⟨B9, hB9⟩ : ∃ B9, B9 = V8.heap.size := ⟨_, rfl⟩
  have e9 : V9.heap.size = B9 + 1 := by rw [hV9, hB9]; simp
  have hb9 : Below V8.heap.size V8 V9 := by rw [hV9]; exact (Below.refl _ _).alloc (Nat.le_refl _) _
  have hA9 : Boxed V9 B9 56 (.pointer (some ⟨H, 0, none⟩)) := by rw [hV9, hB9]; exact World.alloc_heap_new V8 _
  have hA79 : Boxed V9 B7 56 (.pointer (some ⟨H, 0, none⟩)) := (hb9.block B7 (by omega)).trans ((hb8.block B7 (by omega)).trans hA7)
  have hA89 : Boxed V9 B8 3 (.int .i64 (-1)) := (hb9.block B8 (by omega)).trans hA8
  have hb19 : Below w1.heap.size w1 V9 := Below.on (Below.on hb7 hb8) hb9
  have hA49 : Boxed V9 B4 3 (.int .i64 (a : Int)) := (hb19.block B4 (by have := hb.size; omega)).trans ((hb.block B4 (by omega)).trans HF.out.2.2.1)
  have hA59 : Boxed V9 B5 3 (.int .i64 (b : Int)) := (hb19.block B5 (by have := hb.size; omega)).trans ((hb.block B5 (by omega)).trans HF.out.2.2.2.1)
  have hA3 := (hb.block B3 (by omega)).trans HF.out.2.1
  obtain ⟨⟨k3, k4⟩, _⟩ := boxTwo_cells hA3
  have hA37 := (hb7.block B3 (by have := hb.size; omega)).trans hA3
  obtain ⟨⟨k5, k6⟩, _⟩ := boxTwo_cells hA37
  have k5u := k5
  rw [hV7] at k5u
  have c7 := hA7.cell
  have c47u := Boxed.cell (show Boxed V7 B4 3 (.int .i64 (a : Int)) from (hb7.block B4 (by have := hb.size; omega)).trans ((hb.block B4 (by omega)).trans HF.out.2.2.1))
  rw [hV7] at c47u
  have c7u := c7
  rw [hV7, hB7] at c7u
  have c7v : (V7.alloc (.cells #[.int .i64 (-1)] 3)).cell? ⟨B7, 0, none⟩ = some (.pointer (some ⟨H, 0, none⟩)) := by rw [← hV8]; exact Boxed.cell (show Boxed V8 B7 56 (.pointer (some ⟨H, 0, none⟩)) from (hb8.block B7 (by omega)).trans hA7)
  have c7' : V8.cell? ⟨B7, 0, none⟩ = some (.pointer (some ⟨H, 0, none⟩)) := Boxed.cell (show Boxed V8 B7 56 (.pointer (some ⟨H, 0, none⟩)) from (hb8.block B7 (by omega)).trans hA7)
  have c47 : V7.cell? ⟨B4, 0, none⟩ = some (.int .i64 (a : Int)) := Boxed.cell (show Boxed V7 B4 3 (.int .i64 (a : Int)) from (hb7.block B4 (by have := hb.size; omega)).trans ((hb.block B4 (by omega)).trans HF.out.2.2.1))
  have c57 : V7.cell? ⟨B5, 0, none⟩ = some (.int .i64 (b : Int)) := Boxed.cell (show Boxed V7 B5 3 (.int .i64 (b : Int)) from (hb7.block B5 (by have := hb.size; omega)).trans ((hb.block B5 (by omega)).trans HF.out.2.2.2.1))
  have hdl : ds.length = m := by have := stepsOf_len ds; rw [hst] at this; have := HV.out.2.2.1; omega
  have hH9 : HB w1 H J M N n ds m V9 := by
    have e : ds.take m = ds := List.take_of_length_le (by omega)
    refine ⟨sz, ht, xs, D, hS.below hb19 hHl, by rw [e]; exact hD, by rw [e]; exact hUd, hb19.size, fun k h1 h2 => hb19.block k h2⟩
  have HZ := Lib.hid (And.intro hb (And.intro hb19 (And.intro hwN (And.intro hHl (And.intro o1 (And.intro o2 (And.intro o3 (And.intro hst (And.intro hdl hH9)))))))))
  have HBX := Lib.hid (And.intro hA49 (And.intro hA59 (And.intro hA79 (And.intro hA89 hA9))))
  have HVE := Lib.hid (And.intro hV7 (And.intro hB7 (And.intro hV8 (And.intro hB8 (And.intro hV9 hB9)))))
  have HSZ := Lib.hid (And.intro hszW (And.intro hB3 (And.intro hB4 (And.intro hB5 (And.intro e7 (And.intro e8 e9))))))
  clear hb hwN hS hD hst hfn hUd hszW hB3 hB4 hB5 hHl o1 o2 o3 hV7 hB7 e7 hb7 hA7 hV8 hB8 e8 hb8 hA8 hV9 hB9 e9 hb9 hA9 hA79 hA89 hb19 hA49 hA59 hA3 hA37 hdl hH9 k1 k2 TE
  go_wp2_with fail
  rw [← HVE.out.1, ← HVE.out.2.1]
  refine (HAI.out _).mono ?_
  rintro e w2 ⟨rfl, rfl⟩
  go_wp2_with fail
  refine (HBI.out _).mono ?_
  rintro e w2 ⟨rfl, rfl⟩
  go_wp2_with fail
  rw [← HVE.out.2.2.1, ← HVE.out.2.2.2.1]
  refine (backwards_any H V8).mono ?_
  rintro e w2 ⟨rfl, rfl⟩
  rw [← HVE.out.2.2.2.2.1, ← HVE.out.2.2.2.2.2]
  go_wp2_with fail
  obtain ⟨hb, hb19, hwN, hHl, o1, o2, o3, hst, hdl, hH9⟩ := HZ.out
  obtain ⟨hA4, hA5, hA7, hA8, hA9⟩ := HBX.out
  obtain ⟨hszW, hB3, hB4, hB5, e7, e8, e9⟩ := HSZ.out
  have hB7 := HVE.out.2.1
  have hB8 := HVE.out.2.2.2.1
  have hB9 := HVE.out.2.2.2.2.2
  have hsz1 := hb.size
  have hbw9 : Below w.heap.size w V9 := Below.on (Below.on HF.out.1 hb) hb19
  have hm16 : m ≤ 16 := by have := HV.out.2.2.1; have := HV.out.2.2.2.1; omega
  clear k3 k4 k5 k6 k5u c47u c7u c7v c7 c7' c47 c57
  refine (wpIn_wide (n := 8)).1 ?_
  apply wpIn_rangeFunc_seqMut (encs := fun x : Nat => #[Value.int .i64 (x : Int)]) (Kp := Chg fun i => i = B8 ∨ V9.heap.size ≤ i) (Mv := Chg fun i => i = N ∨ i = M ∨ i = H) (S := fun xs => xs = down m (m + 1)) (Sp := fun pre => pre = down m pre.length ∧ pre.length ≤ m + 1) (Rdy := fun pre W => HB w1 H J M N n ds (m + 1 - pre.length) W) rfl (by omega) (gf := 86) (lb := #[.pointer (some ⟨B9, 0, none⟩)]) rfl trivial (enters_of Try.func86 (by kernel_rfl) rfl)
    (back_seq 7 B9 B8 H J M N n m ds w1 V9 rfl hA9.cell ⟨by omega, by omega, by omega, hHl⟩ (by omega) hH9 hdl (by omega) (by omega)) (fun h1 h2 => h1.trans h2) ?hKb (fun _ => rfl) ?hMvK ?hRb
    (fun pre W => Boxed W B8 3 (.int .i64 (lastD pre)) ∧ (Boxed W B4 3 (.int .i64 (a : Int)) ∧ (Boxed W B5 3 (.int .i64 (b : Int)) ∧ (Boxed W B7 56 (.pointer (some ⟨H, 0, none⟩)) ∧ (Below w.heap.size w W ∧ ∀ y, y ∈ pre → tgN xs ss a b y = true)))))
    (fun c q W => c = .exit 0 ∧ ((∃ pre x, q = pre ++ [x] ∧ Boxed W B8 3 (.int .i64 (lastD pre)) ∧ (∀ y, y ∈ pre → tgN xs ss a b y = true) ∧ tgN xs ss a b x = false) ∧ Below w.heap.size w W))
    ?hI ?hIx ?hMv ⟨hA8, hA4, hA5, hA7, hbw9, fun y hy => by simp at hy⟩
    (fun x => { tmps := #[.agg #[.slice A1 n c1, .slice A2 m c2], .int .i64 (a : Int), .int .i64 (b : Int), .pointer (some ⟨B3, 0, none⟩), .pointer (some ⟨B4, 0, none⟩), .pointer (some ⟨B5, 0, none⟩), .int .i64 0, .pointer (some ⟨B7, 0, none⟩), .pointer (some ⟨B8, 0, none⟩), .int .i64 (x : Int), .agg #[.slice A1 n c1, .slice A2 m c2], .pointer (some ⟨H, 0, none⟩), .pointer (some ⟨H, 0, none⟩), .bool false, .bool false, .pointer (some ⟨B3, 0, none⟩), .slice A1 n c1, .int .i64 (a : Int), .bool true, .bool false, .bool false, .bool false, .pointer (some ⟨B3, 0, none⟩), .slice A1 n c1, .int .i64 (b : Int), .bool true, .bool false, .bool false, .pointer (some ⟨H, 0, none⟩), .func (.func 86) #[] #[.pointer (some ⟨B9, 0, none⟩)], .int .i64 (x : Int), undef, undef, undef, undef, undef, undef, undef, undef, undef, undef, undef, undef, undef, undef, undef], defers := [] })
  case hKb =>
    intro W l o o' hl hlo hc _
    exact ⟨rfl, rfl, rfl, by simp [World.putObj], fun k hk hn => World.putObj_heap_other (by omega)⟩
  case hMvK =>
    intro A B h
    exact ⟨h.size, fun k o hk ho _ => (h.block k (Array.getElem?_eq_some_iff.1 ho).1 (by omega)).trans ho⟩
  case hRb =>
    intro q W l o o' h hl hlo _ _
    exact h.kept hHl (by simp [World.putObj]) (fun k hk => World.putObj_heap_other (by omega))
  case hI =>
    exact OwnFrom.and (Go.Own.from (boxed_own _ _ _) _) (OwnFrom.and (Go.Own.from (boxed_own _ _ _) _) (OwnFrom.and (Go.Own.from (boxed_own _ _ _) _) (OwnFrom.and (Go.Own.from (boxed_own _ _ _) _) (OwnFrom.and (ownFrom_below (Nat.le_refl _) (by omega)) (fun _ _ _ _ h _ _ => h)))))
  case hIx =>
    intro c s A B row h hg hr
    obtain ⟨h1, ⟨pre, x, h2, h3, h4, h5⟩, h6⟩ := h
    exact ⟨h1, ⟨pre, x, h2, Go.Own.from (boxed_own B8 3 (fun _ : List Nat => Value.int .i64 (lastD pre))) _ s A B row h3 hg hr, h4, h5⟩, ownFrom_below (β := List Nat) (Nat.le_refl _) (show w.heap.size ≤ V9.heap.size by omega) s A B row h6 hg hr⟩
  case hMv =>
    rintro pre A B ⟨q8, q4, q5, q7, qb, qt⟩ hc
    exact ⟨(hc.block B8 q8.lt (by omega)).trans q8, (hc.block B4 q4.lt (by omega)).trans q4, (hc.block B5 q5.lt (by omega)).trans q5, (hc.block B7 q7.lt (by omega)).trans q7, qb.trans (hc.below qb.size (fun i hi => by omega)), qt⟩
  case hassign =>
    intro l x W K hK
    clear hB3 hB4 hB5 hB7 hB8 hB9 e7 e8 e9 hszW hdl hst
    gi_wp2
    exact hK
  case hbody =>
    rintro l pre x W ⟨q8, q4, q5, q7, qb, qt⟩ hR ⟨hp, hpl⟩ hsz
    rw [List.length_append, List.length_singleton] at hpl hR hp
    rw [down_succ] at hp
    obtain ⟨hpre, hx⟩ := List.append_inj' hp rfl
    injection hx with hx _
    have hxm : x ≤ m := by omega
    rw [show m + 1 - (pre.length + 1) = x by omega] at hR
    obtain ⟨sz, ht, u, D, hS, hD, hU, hf⟩ := hR
    obtain ⟨hv, hl, hlm, _, ha, hb'⟩ := HV.out
    obtain ⟨hbu, hul, huv, _⟩ := upAt_built hv (k := x) (by omega)
    have hue : u = upAt xs ss x := hU.built (by rw [show stepsOf (ds.take x) = ss.take x by rw [← hst]; simp [stepsOf, List.map_take], ← hl]; exact hbu)
    subst hue
    obtain ⟨⟨g1, _⟩, _⟩ := boxTwo_cells hS.at_
    have HAN := Lib.hid ha
    have HBN := Lib.hid hb'
    obtain ⟨ρ, hρ⟩ : ∃ ρ, ρ = rootI (upAt xs ss x) := ⟨_, rfl⟩
    have RO : Hid (∀ (z : Nat), Hid (z < n) → ∀ w8, Below W.heap.size W w8 → Calls Try.prog 48 #[.pointer (some ⟨J, 0, none⟩), .int .i64 (z : Int)] w8 fun e w' => e = .returned (.pointer (some ⟨M, ρ z * 3, none⟩)) ∧ Below w8.heap.size w8 w') := fun z hz w8 h8 => by
      rw [hρ]
      have hS8 := hS.below h8 hS.lt
      exact rootOf_any J M N n z sz ht _ w8 hS8.mem hS8.box hS8.nd hS8.fv hS8.len hz.out
    have htg : tgN xs ss a b x = decide (ρ a = ρ b) := by rw [hρ]; rfl
    have hrl : ρ a < n ∧ ρ b < n := by
      have r1 := root_is huv (i := a) (by omega)
      have r2 := root_is huv (i := b) (by omega)
      rw [← hρ] at r1 r2
      omega
    have hSW : Below W.heap.size W W ∧ W.cell? ⟨B7, 0, none⟩ = some (.pointer (some ⟨H, 0, none⟩)) ∧ W.cell? ⟨H, 0, none⟩ = some (.pointer (some ⟨J, 0, none⟩)) ∧ W.cell? ⟨B4, 0, none⟩ = some (.int .i64 (a : Int)) ∧ W.cell? ⟨B5, 0, none⟩ = some (.int .i64 (b : Int)) := ⟨Below.refl _ _, q7.cell, g1, q4.cell, q5.cell⟩
    have HX := Lib.hid (And.intro q8 (And.intro q4 (And.intro q5 (And.intro q7 (And.intro qb (And.intro qt (And.intro hS.mem (And.intro htg (And.intro hrl hsz)))))))))
    have HNN := Lib.hid (And.intro hB3 (And.intro hB4 (And.intro hB5 (And.intro hB7 (And.intro hB8 (And.intro hB9 (And.intro e7 (And.intro e8 (And.intro e9 hsz1)))))))))
    clear hB3 hB4 hB5 hB7 hB8 hB9 e7 e8 e9 hszW hdl hst q8 q4 q5 q7 qb qt hS hD hU hf hbu hul huv hv hl hlm ha hb' g1 htg hrl hρ hp hpre hx hpl hsz
    gi_wp2_with fail
    refine wpIn_region_round (fun w' => Below W.heap.size W w' ∧ w'.cell? ⟨B7, 0, none⟩ = some (.pointer (some ⟨H, 0, none⟩)) ∧ w'.cell? ⟨H, 0, none⟩ = some (.pointer (some ⟨J, 0, none⟩)) ∧ w'.cell? ⟨B4, 0, none⟩ = some (.int .i64 (a : Int)) ∧ w'.cell? ⟨B5, 0, none⟩ = some (.int .i64 (b : Int))) (by kernel_rfl) (by kernel_rfl) (by rintro ⟨_, _, h⟩; exact h) (held4_drew hSW) (fun hHeld => ?_)
    refine wpAnyH_take (i := 0) (oi := ({ dst := some 31, op := Op.load 56 (Operand.tmp 7), type := 56, pos := "l4_undoing.go:200", after := #[], guard := none } : Oper)) (v := ?v0) rfl (by kernel_rfl) (by kernel_rfl) (by kernel_rfl) (fun _ _ _ h => h) (Or.inl ⟨by rfl, ?hy0⟩) hHeld ?rest0
    case hy0 => (intro w hSw; (try dsimp only at hSw); obtain ⟨_, s1, s2, s3, s4⟩ := hSw; go_simp; (try with_reducible rfl))
    (try simp only [Act.put, List.setIfInBounds_toArray, List.set_cons_zero, List.set_cons_succ])
    refine wpAnyH_take (i := 1) (oi := ({ dst := some 32, op := Op.nilCheck (Operand.tmp 31), type := 0, pos := "l4_undoing.go:200", after := #[{ on := 0, ground := Ground.data }], guard := none } : Oper)) (v := ?v1) rfl (by kernel_rfl) (by kernel_rfl) (by kernel_rfl) (fun _ _ _ h => h) (Or.inl ⟨by rfl, ?hy1⟩) hHeld ?rest1
    case hy1 => (intro w hSw; (try dsimp only at hSw); obtain ⟨_, s1, s2, s3, s4⟩ := hSw; go_simp; (try with_reducible rfl))
    (try simp only [Act.put, List.setIfInBounds_toArray, List.set_cons_zero, List.set_cons_succ])
    refine wpAnyH_take (i := 2) (oi := ({ dst := some 33, op := Op.fieldAddr 85 (Operand.tmp 32) 0, type := 0, pos := "l4_undoing.go:200", after := #[{ on := 1, ground := Ground.data }], guard := none } : Oper)) (v := ?v2) rfl (by kernel_rfl) (by kernel_rfl) (by kernel_rfl) (fun _ _ _ h => h) (Or.inl ⟨by rfl, ?hy2⟩) hHeld ?rest2
    case hy2 => (intro w hSw; (try dsimp only at hSw); obtain ⟨_, s1, s2, s3, s4⟩ := hSw; go_simp; (try with_reducible rfl))
    (try simp only [Act.put, List.setIfInBounds_toArray, List.set_cons_zero, List.set_cons_succ])
    refine wpAnyH_take (i := 3) (oi := ({ dst := some 34, op := Op.load 71 (Operand.tmp 33), type := 71, pos := "l4_undoing.go:200", after := #[{ on := 2, ground := Ground.data }], guard := none } : Oper)) (v := ?v3) rfl (by kernel_rfl) (by kernel_rfl) (by kernel_rfl) (fun _ _ _ h => h) (Or.inl ⟨by rfl, ?hy3⟩) hHeld ?rest3
    case hy3 => (intro w hSw; (try dsimp only at hSw); obtain ⟨_, s1, s2, s3, s4⟩ := hSw; go_simp; (try with_reducible rfl))
    (try simp only [Act.put, List.setIfInBounds_toArray, List.set_cons_zero, List.set_cons_succ])
    refine wpAnyH_take (i := 4) (oi := ({ dst := some 35, op := Op.load 3 (Operand.tmp 4), type := 3, pos := "l4_undoing.go:200", after := #[], guard := none } : Oper)) (v := ?v4) rfl (by kernel_rfl) (by kernel_rfl) (by kernel_rfl) (fun _ _ _ h => h) (Or.inl ⟨by rfl, ?hy4⟩) hHeld ?rest4
    case hy4 => (intro w hSw; (try dsimp only at hSw); obtain ⟨_, s1, s2, s3, s4⟩ := hSw; go_simp; (try with_reducible rfl))
    (try simp only [Act.put, List.setIfInBounds_toArray, List.set_cons_zero, List.set_cons_succ])
    refine wpAnyH_take (i := 6) (oi := ({ dst := some 37, op := Op.load 56 (Operand.tmp 7), type := 56, pos := "l4_undoing.go:200", after := #[], guard := none } : Oper)) (v := ?v6) rfl (by kernel_rfl) (by kernel_rfl) (by kernel_rfl) (fun _ _ _ h => h) (Or.inl ⟨by rfl, ?hy6⟩) hHeld ?rest6
    case hy6 => (intro w hSw; (try dsimp only at hSw); obtain ⟨_, s1, s2, s3, s4⟩ := hSw; go_simp; (try with_reducible rfl))
    (try simp only [Act.put, List.setIfInBounds_toArray, List.set_cons_zero, List.set_cons_succ])
    refine wpAnyH_take (i := 7) (oi := ({ dst := some 38, op := Op.nilCheck (Operand.tmp 37), type := 0, pos := "l4_undoing.go:200", after := #[{ on := 6, ground := Ground.data }], guard := none } : Oper)) (v := ?v7) rfl (by kernel_rfl) (by kernel_rfl) (by kernel_rfl) (fun _ _ _ h => h) (Or.inl ⟨by rfl, ?hy7⟩) hHeld ?rest7
    case hy7 => (intro w hSw; (try dsimp only at hSw); obtain ⟨_, s1, s2, s3, s4⟩ := hSw; go_simp; (try with_reducible rfl))
    (try simp only [Act.put, List.setIfInBounds_toArray, List.set_cons_zero, List.set_cons_succ])
    refine wpAnyH_take (i := 8) (oi := ({ dst := some 39, op := Op.fieldAddr 85 (Operand.tmp 38) 0, type := 0, pos := "l4_undoing.go:200", after := #[{ on := 7, ground := Ground.data }], guard := none } : Oper)) (v := ?v8) rfl (by kernel_rfl) (by kernel_rfl) (by kernel_rfl) (fun _ _ _ h => h) (Or.inl ⟨by rfl, ?hy8⟩) hHeld ?rest8
    case hy8 => (intro w hSw; (try dsimp only at hSw); obtain ⟨_, s1, s2, s3, s4⟩ := hSw; go_simp; (try with_reducible rfl))
    (try simp only [Act.put, List.setIfInBounds_toArray, List.set_cons_zero, List.set_cons_succ])
    refine wpAnyH_take (i := 9) (oi := ({ dst := some 40, op := Op.load 71 (Operand.tmp 39), type := 71, pos := "l4_undoing.go:200", after := #[{ on := 8, ground := Ground.data }], guard := none } : Oper)) (v := ?v9) rfl (by kernel_rfl) (by kernel_rfl) (by kernel_rfl) (fun _ _ _ h => h) (Or.inl ⟨by rfl, ?hy9⟩) hHeld ?rest9
    case hy9 => (intro w hSw; (try dsimp only at hSw); obtain ⟨_, s1, s2, s3, s4⟩ := hSw; go_simp; (try with_reducible rfl))
    (try simp only [Act.put, List.setIfInBounds_toArray, List.set_cons_zero, List.set_cons_succ])
    refine wpAnyH_take (i := 10) (oi := ({ dst := some 41, op := Op.load 3 (Operand.tmp 5), type := 3, pos := "l4_undoing.go:200", after := #[], guard := none } : Oper)) (v := ?v10) rfl (by kernel_rfl) (by kernel_rfl) (by kernel_rfl) (fun _ _ _ h => h) (Or.inl ⟨by rfl, ?hy10⟩) hHeld ?rest10
    case hy10 => (intro w hSw; (try dsimp only at hSw); obtain ⟨_, s1, s2, s3, s4⟩ := hSw; go_simp; (try with_reducible rfl))
    (try simp only [Act.put, List.setIfInBounds_toArray, List.set_cons_zero, List.set_cons_succ])
    refine wpAnyH_ready (rs := [5]) (by kernel_rfl) (by simp) ?_
    refine AllReadyH.cons (o := ({ dst := some 36, op := Op.call { callee := Callee.value (Operand.func 48), args := #[Operand.tmp 34, Operand.tmp 35], argTypes := #[71, 3] }, type := 81, pos := "l4_undoing.go:200", after := #[{ on := 3, ground := Ground.data }, { on := 4, ground := Ground.data }], guard := none } : Oper)) rfl (fun K hK => ?_) AllReadyH.nil
    go_simp
    go_at_call 48
    refine (RO.out _ HAN _ hHeld.1).mono ?_
    rintro e w8 ⟨rfl, hb8⟩
    (try go_wp2_with fail)
    refine hK.out _ _ ?_ (fun hHeld => ?_)
    · first | assumption | exact held4_call (by assumption) (by assumption) (Below.size (And.left (by assumption)))
    clear hK K
    (try simp only [Act.put, List.setIfInBounds_toArray, List.set_cons_zero, List.set_cons_succ])
    refine wpAnyH_ready (rs := [11]) (by kernel_rfl) (by simp) ?_
    refine AllReadyH.cons (o := ({ dst := some 42, op := Op.call { callee := Callee.value (Operand.func 48), args := #[Operand.tmp 40, Operand.tmp 41], argTypes := #[71, 3] }, type := 81, pos := "l4_undoing.go:200", after := #[{ on := 9, ground := Ground.data }, { on := 10, ground := Ground.data }, { on := 5, ground := Ground.chain }], guard := none } : Oper)) rfl (fun K hK => ?_) AllReadyH.nil
    go_simp
    go_at_call 48
    refine (RO.out _ HBN _ hHeld.1).mono ?_
    rintro e w8 ⟨rfl, hb8⟩
    (try go_wp2_with fail)
    refine hK.out _ _ ?_ (fun hHeld => ?_)
    · first | assumption | exact held4_call (by assumption) (by assumption) (Below.size (And.left (by assumption)))
    clear hK K
    (try simp only [Act.put, List.setIfInBounds_toArray, List.set_cons_zero, List.set_cons_succ])
    obtain ⟨j, hj0, hj1, hj2, hj3⟩ := info_parts Try.info_member
    by_cases hpq : ρ a = ρ b
    · rw [hpq]
      refine wpAnyH_take (i := 12) (oi := ({ dst := some 43, op := Op.binOp BinOp.neq 81 (Operand.tmp 36) (Operand.tmp 42) 81, type := 4, pos := "l4_undoing.go:200", after := #[{ on := 5, ground := Ground.data }, { on := 11, ground := Ground.data }], guard := none } : Oper)) (v := .bool false) rfl (by kernel_rfl) (by kernel_rfl) (by kernel_rfl) (fun _ _ _ h => h) (Or.inl ⟨by rfl, ?hy12⟩) hHeld ?rest12
      case hy12 =>
        intro w hSw
        have h1 := run_neq_ptr_same (P := Try.prog) (tp := 81) w (⟨M, ρ b * 3, none⟩ : Addr) Try.underlying81 hj0
        go_simp
      (try simp only [Act.put, List.setIfInBounds_toArray, List.set_cons_zero, List.set_cons_succ])
      refine wpAnyH_done (by kernel_rfl) ?_ _
      obtain ⟨wz, hwz⟩ : ∃ wz, wz = w8 := ⟨_, rfl⟩
      rw [← hwz] at hHeld ⊢
      clear hwz
      have HB := Lib.hid hHeld.1
      have HPQ := Lib.hid hpq
      have c8 : wz.cell? ⟨B8, 0, none⟩ = some (.int .i64 (lastD pre)) := (hHeld.1.cell (p := ⟨B8, 0, none⟩) HX.out.1.lt).trans HX.out.1.cell
      have f8 := Boxed.frozen (show Boxed wz B8 3 (.int .i64 (lastD pre)) from (hHeld.1.block B8 HX.out.1.lt).trans HX.out.1)
      clear hHeld hj0 hj1 hj2 hj3 hSW hpq
      gi_wp2
      obtain ⟨q8, q4, q5, q7, qb, qt, hmm, htg, hrl, hsz⟩ := HX.out
      obtain ⟨hB3, hB4, hB5, hB7, hB8, hB9, e7, e8, e9, hsz1⟩ := HNN.out
      have hszW := HF.out.2.2.2.2
      have hB := HB.out
      have hB8W : Boxed wz B8 3 (.int .i64 (lastD pre)) := (hB.block B8 q8.lt).trans q8
      have hs8 := hB.size
      refine ⟨⟨by simp [World.setCell]; omega, fun k o hk ho _ => (Below.heap_setCell wz ⟨B8, 0, none⟩ _ k (by show k ≠ B8; omega)).trans ((hB.block k (Array.getElem?_eq_some_iff.1 ho).1).trans ho)⟩, Chg.set (Chg.of_below hB) (.inl (.inl rfl)) _ _, ?_, ?_, ?_, ?_, (Below.on qb hB).setCell (p := ⟨B8, 0, none⟩) (by show w.heap.size ≤ B8; omega) _, ?_⟩
      · rw [lastD_snoc]
        exact hB8W.set _
      · exact (Below.heap_setCell wz ⟨B8, 0, none⟩ _ B4 (by show B4 ≠ B8; omega)).trans ((hB.block B4 q4.lt).trans q4)
      · exact (Below.heap_setCell wz ⟨B8, 0, none⟩ _ B5 (by show B5 ≠ B8; omega)).trans ((hB.block B5 q5.lt).trans q5)
      · exact (Below.heap_setCell wz ⟨B8, 0, none⟩ _ B7 (by show B7 ≠ B8; omega)).trans ((hB.block B7 q7.lt).trans q7)
      · intro y hy
        rw [List.mem_append, List.mem_singleton] at hy
        rcases hy with hy | hy
        · exact qt y hy
        · rw [hy, htg, decide_eq_true HPQ.out]
    · refine wpAnyH_take (i := 12) (oi := ({ dst := some 43, op := Op.binOp BinOp.neq 81 (Operand.tmp 36) (Operand.tmp 42) 81, type := 4, pos := "l4_undoing.go:200", after := #[{ on := 5, ground := Ground.data }, { on := 11, ground := Ground.data }], guard := none } : Oper)) (v := .bool true) rfl (by kernel_rfl) (by kernel_rfl) (by kernel_rfl) (fun _ _ _ h => h) (Or.inl ⟨by rfl, ?hy12b⟩) hHeld ?rest12b
      case hy12b =>
        intro w hSw
        have hmw := HX.out.2.2.2.2.2.2.1.below hSw.1 HX.out.2.2.2.2.2.2.1.lt
        obtain ⟨cur, hcur, _⟩ := hmw
        have h1 := run_neq_ptr_other (P := Try.prog) (tp := 81) w (a := ⟨M, ρ a * 3, none⟩) (b := ⟨M, ρ b * 3, none⟩) Try.underlying81 hj0 (by rw [hj2]; decide) (fun e => hpq (by have := congrArg Addr.off e; simp at this; omega)) hcur hcur
        clear hcur
        go_simp
      (try simp only [Act.put, List.setIfInBounds_toArray, List.set_cons_zero, List.set_cons_succ])
      refine wpAnyH_done (by kernel_rfl) ?_ _
      obtain ⟨wz, hwz⟩ : ∃ wz, wz = w8 := ⟨_, rfl⟩
      rw [← hwz] at hHeld ⊢
      clear hwz
      have HB := Lib.hid hHeld.1
      have HPQ := Lib.hid hpq
      clear hHeld hj0 hj1 hj2 hj3 hSW hpq
      gi_wp2
      obtain ⟨q8, q4, q5, q7, qb, qt, hmm, htg, hrl, hsz⟩ := HX.out
      have hB := HB.out
      refine ⟨⟨by have := hB.size; omega, fun k o hk ho _ => (hB.block k (Array.getElem?_eq_some_iff.1 ho).1).trans ho⟩, rfl, ⟨pre, x, rfl, (hB.block B8 q8.lt).trans q8, qt, ?_⟩, Below.on qb hB⟩
      rw [htg, decide_eq_false HPQ.out]
  case hdone =>
    rintro D zs W hD hzs ⟨q8, q4, q5, q7, qb, qt⟩ hK
    obtain ⟨hv, hl, hlm, _, ha, hb'⟩ := HV.out
    have h0 : tgN xs ss a b 0 = true := qt 0 (by rw [hzs]; simp [down]; exact ⟨m, by omega, by omega⟩)
    have hj := jat_at hv (a := a) (b := b) (by omega) (by omega) (Nat.zero_le _) h0 (fun j hj => by omega)
    have hld : lastD zs = 0 := by rw [hzs, lastD_down]; simp
    rw [hld] at q8
    have c8 := q8.cell
    have HQ := Lib.hid (And.intro qb hj)
    clear hB3 hB4 hB5 hB7 hB8 hB9 e7 e8 e9 hszW hdl hst q8 q4 q5 q7 qb qt hv hl hlm ha hb' hj hld h0
    have hwD : w.heap.size ≤ D := by have := hbw9.size; omega
    gi_wp2
    go_wp2
    refine ⟨by simp, .inl ⟨_, _, rfl, run_takeDeferred hK, ?_⟩⟩
    exact ⟨_, results_tmp rfl _ _ _, by rw [HQ.out.2]; rfl, HQ.out.1.trans (belowK_b (w := w) (Nat.le_refl _) W D _ _ hwD hK rfl rfl)⟩
  case hstop =>
    rintro D c q W hD hq ⟨rfl, ⟨pre, x, rfl, q8, qt, qx⟩, qb⟩ hK
    obtain ⟨hv, hl, hlm, _, ha, hb'⟩ := HV.out
    obtain ⟨hp, hpl⟩ := hq
    rw [List.length_append, List.length_singleton] at hpl hp
    rw [down_succ] at hp
    obtain ⟨hpre, hx⟩ := List.append_inj' hp rfl
    injection hx with hx _
    have hj : jatN xs ss (a : Int) (b : Int) = lastD pre := by
      cases hk : pre.length with
      | zero =>
        have : pre = [] := List.eq_nil_of_length_eq_zero hk
        subst this
        exact jat_never hv (by omega) (by omega) (by rw [hlm]; rw [hk] at hx; simpa [hx] using qx)
      | succ k =>
        rw [hk] at hpre hx
        have h1 : tgN xs ss a b (x + 1) = true := qt (x + 1) (by rw [hpre, down_succ]; simp; right; omega)
        rw [jat_next hv (by omega) (by omega) (by omega) h1 qx, hpre, lastD_down]
        omega
    have c8 := q8.cell
    have HQ := Lib.hid (And.intro qb hj)
    clear hB3 hB4 hB5 hB7 hB8 hB9 e7 e8 e9 hszW hdl hst q8 qb qt qx hv hl hlm ha hb' hj hp hpl hpre hx
    have hwD : w.heap.size ≤ D := by have := hbw9.size; omega
    gi_wp2
    go_wp2
    refine ⟨by simp, .inl ⟨_, _, rfl, run_takeDeferred hK, ?_⟩⟩
    exact ⟨_, results_tmp rfl _ _ _, by rw [HQ.out.2]; rfl, HQ.out.1.trans (belowK_b (w := w) (Nat.le_refl _) W D _ _ hwD hK rfl rfl)⟩
set_option maxRecDepth 100000 in
set_option maxHeartbeats 8000000 in
theorem implJat_any (A1 A2 : Option Addr) (n c1 m c2 B0 : Nat) (a b : Int) (xs : List Int) (ss : List (Int × Int)) (w : World) (h1 : Rd w B0 A1 n xs) (h2 : RdQ w B0 A2 m ss) (hB0 : B0 ≤ w.heap.size) (hb1 : n ≤ 1048576) (hb2 : m ≤ 1048576) :
    Calls Try.prog 16 #[.agg #[.slice A1 n c1, .slice A2 m c2], .int .i64 a, .int .i64 b] w fun e w' => e = .returned (.int .i64 (jatN xs ss a b)) ∧ Below w.heap.size w w' := by
  have hl := h1.1
  by_cases hg : logV xs ss = true ∧ (0 ≤ a ∧ a < (n : Int)) ∧ (0 ≤ b ∧ b < (n : Int))
  · obtain ⟨hv, ha, hb⟩ := hg
    obtain ⟨a, rfl⟩ : ∃ x : Nat, a = x := ⟨a.toNat, by omega⟩
    obtain ⟨b, rfl⟩ : ∃ x : Nat, b = x := ⟨b.toNat, by omega⟩
    exact implJat_good A1 A2 n c1 m c2 B0 a b xs ss w h1 h2 hB0 hb1 hb2 hv (by omega) (by omega)
  have hno : jatN xs ss a b = -1 := jat_no fun h => hg ⟨h.1, by have := item_lt h.2.1; omega, by have := item_lt h.2.2; omega⟩
  rw [hno]
  obtain ⟨W1, hW1⟩ : ∃ W1, W1 = w.alloc (.cells #[.slice A1 n c1, .slice A2 m c2] 26) := ⟨_, rfl⟩
  obtain ⟨W2, hW2⟩ : ∃ W2, W2 = W1.alloc (.cells #[.int .i64 a] 3) := ⟨_, rfl⟩
  obtain ⟨W, hW⟩ : ∃ W, W = W2.alloc (.cells #[.int .i64 b] 3) := ⟨_, rfl⟩
  have e1 : W1.heap.size = w.heap.size + 1 := by rw [hW1]; simp
  have e2 : W2.heap.size = w.heap.size + 2 := by rw [hW2]; simp [e1]
  have eW : W.heap.size = w.heap.size + 3 := by rw [hW]; simp [e2]
  have hb12 : Below W1.heap.size W1 W2 := by rw [hW2]; exact (Below.refl _ _).alloc (Nat.le_refl _) _
  have hb23 : Below W2.heap.size W2 W := by rw [hW]; exact (Below.refl _ _).alloc (Nat.le_refl _) _
  have hA : W1.heap[w.heap.size]? = some (.cells #[.slice A1 n c1, .slice A2 m c2] 26 (0, 0)) := by rw [hW1]; exact World.alloc_heap_new w _
  have hAW : W.heap[w.heap.size]? = some (.cells #[.slice A1 n c1, .slice A2 m c2] 26 (0, 0)) := (hb23.block _ (by omega)).trans ((hb12.block _ (by omega)).trans hA)
  have hA4 : Boxed W (w.heap.size + 1) 3 (.int .i64 a) := (hb23.block _ (by omega)).trans (by rw [hW2, ← e1]; exact World.alloc_heap_new W1 _)
  have hA5 : Boxed W (w.heap.size + 2) 3 (.int .i64 b) := by rw [hW, ← e2]; exact World.alloc_heap_new W2 _
  have hbW : Below w.heap.size w W := by
    have h0 : Below w.heap.size w W1 := by rw [hW1]; exact (Below.refl _ _).alloc (Nat.le_refl _) _
    exact Below.on (Below.on h0 hb12) hb23
  have TE := historyOf_any A1 A2 n c1 m c2 B0 xs ss W (h1.below hbW hB0) (h2.below hbW hB0) (Nat.le_trans hB0 hbW.size) hb1 hb2
  have HAI := fun (w8 : World) => hasItem_any A1 n c1 a w8 hb1
  have HBI := fun (w8 : World) => hasItem_any A1 n c1 b w8 hb1
  obtain ⟨B3, hB3⟩ : ∃ x, x = w.heap.size := ⟨_, rfl⟩
  obtain ⟨B4, hB4⟩ : ∃ x, x = w.heap.size + 1 := ⟨_, rfl⟩
  obtain ⟨B5, hB5⟩ : ∃ x, x = w.heap.size + 2 := ⟨_, rfl⟩
  rw [← hB3] at hAW
  rw [← hB4] at hA4
  rw [← hB5] at hA5
  obtain ⟨k1, k2⟩ := (boxTwo_cells hAW).1
  have HW := Lib.hid (And.intro hW (And.intro hW2 (And.intro hW1 (And.intro hB3 (And.intro (show B3 + 1 = B4 by omega) (show B4 + 1 = B5 by omega))))))
  have HF := Lib.hid (And.intro hbW (And.intro hAW (And.intro hA4 (And.intro hA5 (And.intro eW (And.intro (show B3 < W.heap.size by omega) (And.intro (show B4 < W.heap.size by omega) (show B5 < W.heap.size by omega))))))))
  obtain ⟨ia, hia⟩ : ∃ x, x = decide (0 ≤ a ∧ a < (n : Int)) := ⟨_, rfl⟩
  obtain ⟨ib, hib⟩ : ∃ x, x = decide (0 ≤ b ∧ b < (n : Int)) := ⟨_, rfl⟩
  rw [← hia] at HAI
  rw [← hib] at HBI
  have HNO : Hid (logV xs ss = true → ia = true → ib = true → False) := fun h1 h2 h3 => hg ⟨h1, of_decide_eq_true (hia.symm.trans h2), of_decide_eq_true (hib.symm.trans h3)⟩
  replace TE := Lib.hid TE
  replace HAI := Lib.hid HAI
  replace HBI := Lib.hid HBI
  clear h1 h2 hB0 hb1 hb2 hW1 hW2 hW e1 e2 eW hb12 hb23 hA hAW hA4 hA5 hbW hl hB3 hB4 hB5 hg hno hia hib
  refine (callsIn_wide (n := 8)).1 (callsIn_of_wp_marks Try.func16 rfl trivial (wpIn_wide.2 ?_) rfl)
  simp only [Try.ntmps16, List.size_toArray, List.length_cons, List.length_nil, Nat.reduceAdd, Nat.reduceSub, Array.replicate_succ, Array.replicate_zero, List.push_toArray, List.append_toArray, List.nil_append, List.cons_append]
  go_wp2_with fail
  rw [← HW.out.2.2.1, ← HW.out.2.1, ← HW.out.1, ← HW.out.2.2.2.1]
  rw [HW.out.2.2.2.2.1, HW.out.2.2.2.2.2]
  refine TE.out.mono ?_
  rintro e w1 ⟨hb, ⟨_, rfl⟩ | ⟨hv, H, J, M, N, rfl, -⟩⟩
  · have HB := Lib.hid (And.intro (Below.on HF.out.1 hb) hb.size)
    clear hb
    have HEND := Lib.hid (show ∀ o : Obj, Below w.heap.size w (w1.alloc o) from fun o => HB.out.1.alloc HB.out.1.size o)
    go_wp2
    exact ⟨_, results_tmp rfl _ _ _, rfl, HEND.out _⟩
  · have hA3 := (hb.block B3 HF.out.2.2.2.2.2.1).trans HF.out.2.1
    have hA4 : Boxed w1 B4 3 (.int .i64 a) := (hb.block B4 HF.out.2.2.2.2.2.2.1).trans HF.out.2.2.1
    have hA5 : Boxed w1 B5 3 (.int .i64 b) := (hb.block B5 HF.out.2.2.2.2.2.2.2).trans HF.out.2.2.2.1
    obtain ⟨V7, hV7⟩ : ∃ V7, V7 = w1.alloc (.cells #[.pointer (some ⟨H, 0, none⟩)] 56) := ⟨_, rfl⟩
    have hb7 : Below w1.heap.size w1 V7 := by rw [hV7]; exact (Below.refl _ _).alloc (Nat.le_refl _) _
    have hA37 := (hb7.block B3 (Array.getElem?_eq_some_iff.1 hA3).1).trans hA3
    have hA47 : Boxed V7 B4 3 (.int .i64 a) := (hb7.block B4 hA4.lt).trans hA4
    have hA57 : Boxed V7 B5 3 (.int .i64 b) := (hb7.block B5 hA5.lt).trans hA5
    obtain ⟨⟨k3, k4⟩, _⟩ := boxTwo_cells hA37
    obtain ⟨⟨k5, k6⟩, _⟩ := boxTwo_cells hA37
    have c4 := hA47.cell
    have c4u := hA47.cell
    have c5 := hA57.cell
    rw [hV7] at k5 k6 c4u
    have HEND := Lib.hid (Below.on (Below.on HF.out.1 hb) hb7)
    have HVE := Lib.hid hV7
    have HV := Lib.hid hv
    clear hb hA3 hA4 hA5 hb7 hA37 hA47 hA57 hv hV7 k1 k2
    go_wp2_with fail
    rw [← HVE.out]
    refine (HAI.out _).mono ?_
    rintro e w2 ⟨rfl, rfl⟩
    cases ia with
    | false =>
      go_wp2
      exact ⟨_, results_tmp rfl _ _ _, rfl, HEND.out⟩
    | true =>
      go_wp2_with fail
      refine (HBI.out _).mono ?_
      rintro e w2 ⟨rfl, rfl⟩
      cases ib with
      | false =>
        go_wp2
        exact ⟨_, results_tmp rfl _ _ _, rfl, HEND.out⟩
      | true => exact absurd trivial (fun _ => HNO.out HV.out (by trivial) (by trivial))
end Go.Proofs.Ytichcnaomcpnhaa
