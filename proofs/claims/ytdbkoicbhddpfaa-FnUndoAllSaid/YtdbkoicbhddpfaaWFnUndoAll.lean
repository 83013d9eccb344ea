/- The walk of the law on undoing all: for every row of bytes the law returns true and nothing that was there has turned. -/
import Derived.Test.YtdbkoicbhddpfaaDrawLog
import Derived.Test.YtdbkoicbhddpfaaLogV
import Derived.Test.YtdbkoicbhddpfaaSpecBack
import Derived.Test.YtdbkoicbhddpfaaLogParts
import Derived.Test.YtdbkoicbhddpfaaBackwards
namespace Go.Proofs.Ytdbkoicbhddpfaa
open Go.RowKit Go.Shelf

theorem drawUndo_any (A : Option Addr) (n c B : Nat) (bs : List Int) (w : World) (h : Bt w B A n bs) (hB : B ≤ w.heap.size) (hc : n ≤ c) :
    Calls Try.prog 21 #[.slice A n c] w fun e w' => ∃ v v2 xs ss, e = .returned (.agg #[v, v2]) ∧ Own w' w.heap.size v xs ∧ xs.length ≤ 16 ∧ OwnQ 45 w' w.heap.size v2 ss ∧ ss.length ≤ 17 ∧ Below w.heap.size w w' := by
  obtain ⟨W, hW⟩ : ∃ W, W = w.alloc (.cells #[.slice none 0 0, .slice none 0 0] 26) := ⟨_, rfl⟩
  have hbW : Below w.heap.size w W := by rw [hW]; exact log_box w _ _
  have hZ : W.heap[w.heap.size]? = some (.cells #[.slice none 0 0, .slice none 0 0] 26 (0, 0)) := by rw [hW]; exact World.alloc_heap_new w _
  have eW : W.heap.size = w.heap.size + 1 := by rw [hW]; simp
  have O := Lib.hid (open_any A n c B bs W (h.below hbW hB) (Nat.le_trans hB hbW.size) hc)
  obtain ⟨Z, hZe⟩ : ∃ Z, Z = w.heap.size := ⟨_, rfl⟩
  rw [← hZe] at hZ
  have HW := Lib.hid (And.intro hW (And.intro hZe (And.intro hbW (And.intro hZ eW))))
  clear h hB hc hW hbW hZ eW hZe
  go_enter Try.func21, Try.ntmps21
  go_wp2_with fail
  rw [← HW.out.1, ← HW.out.2.1]
  refine O.out.mono ?_
  rintro e w1 ⟨rfl, hs, hb⟩
  have SM := Lib.hid (l4Some_any W.heap.size 0 w1 hs (by omega))
  have HB := Lib.hid hb
  clear hs hb
  go_wp2_with fail
  refine SM.out.mono ?_
  rintro e w2 ⟨v, v2, xs, ss, rfl, ho, hx, hq, hy, _, hg⟩
  have hb2 : Below W.heap.size W w2 := ⟨hg.os.trans HB.out.os, hg.tape.trans HB.out.tape, hg.output.trans HB.out.output, Nat.le_trans HB.out.size hg.size, fun k hk => (hg.block k (by have := HB.out.size; omega) (fun e => by injection e with e; omega)).trans (HB.out.block k hk)⟩
  have hZ2 := (hb2.block Z (by have := HW.out.2.2.2.2; have := HW.out.2.1; omega)).trans HW.out.2.2.2.1
  obtain ⟨⟨r1, r2⟩, r3, r4⟩ := boxTwo_cells hZ2
  obtain ⟨A1, c1, e1, -⟩ := ho.form
  obtain ⟨A2, c2, e2, -⟩ := hq.form
  generalize hn1 : xs.length = n1 at e1 hx
  generalize hn2 : ss.length = n2 at e2 hy
  subst e1 e2
  have HQ := Lib.hid (And.intro ho (And.intro hq (And.intro (Below.on HW.out.2.2.1 hb2) (And.intro hZ2 (And.intro hn1 (And.intro hn2 (And.intro hx (And.intro hy HB.out.size))))))))
  clear ho hq hb2 hZ2 hn1 hn2 hx hy hg
  go_wp2
  obtain ⟨ho, hq, hbw, hZ2, hn1, hn2, hx, hy, hsz⟩ := HQ.out
  have hZe := HW.out.2.1
  have eW := HW.out.2.2.2.2
  obtain ⟨q1, q2, _, q4⟩ := copy_end hbw (show w.heap.size ≤ Z by omega) (ho.less (show Z + 1 ≤ w1.heap.size by omega)) (hq.less (show Z + 1 ≤ w1.heap.size by omega))
  obtain ⟨⟨k1, k2⟩, _⟩ := boxTwo_cells (boxTwo_set hZ2 (.slice A1 n1 c1) (.slice A2 n2 c2))
  refine bodyPost_ret (v := .agg #[.slice A1 n1 c1, .slice A2 n2 c2]) (by simp [results, Try.results21, go_sem, k1, k2]) rfl ?_
  exact ⟨_, _, xs, ss, rfl, q1, by omega, q2, by omega, q4⟩
/-- One more undone. -/
theorem undo_step {xs : List Int} {ss : List (Int × Int)} (hv : logV xs ss = true) {k : Nat} (hk : k + 1 ≤ ss.length) :
    bkB (upAt xs ss (k + 1)) (ss.take (k + 1)) (k : Int) = true ∧ bkUp (upAt xs ss (k + 1)) (ss.take (k + 1)) (k : Int) = upAt xs ss k ∧ bkSt (upAt xs ss (k + 1)) (ss.take (k + 1)) (k : Int) = ss.take k := by
  obtain ⟨_, h2, _, h4⟩ := upAt_built hv hk
  obtain ⟨g1, _, _, _⟩ := upAt_built hv (show k ≤ ss.length by omega)
  have e : (ss.take (k + 1)).take k = ss.take k := by rw [List.take_take, Nat.min_eq_left (by omega)]
  obtain ⟨q0, q1, q2⟩ := bk_yes h4 (k := k) (u := upAt xs ss k) (by rw [List.length_take]; omega) (by rw [e, h2]; exact g1)
  exact ⟨q0, q1, q2.trans e⟩
theorem upAt_zero {xs : List Int} {ss : List (Int × Int)} : upAt xs ss 0 = roots xs.length := rfl
set_option maxRecDepth 100000 in
set_option maxHeartbeats 8000000 in
theorem fnUndoAll (A0 : Option Addr) (n0 c0 : Nat) (z0 : List Int) (w : World) (h0 : Row .u8 w A0 n0 c0 z0) :
    Calls Try.prog 6 #[.slice A0 n0 c0] w fun e w' => e = .returned (.bool true) ∧ Below w.heap.size w w' := by
  by_cases hl0 : 1048576 < n0
  · clear h0
    go_enter Try.func6, Try.ntmps6
    go_wp2
    go_ret
    exact ⟨rfl, Below.refl _ _⟩
  obtain ⟨b0, hc0⟩ := h0.bt
  have D0 := Lib.hid (drawUndo_any A0 n0 c0 w.heap.size z0 w b0 (Nat.le_refl _) hc0)
  clear h0 b0 hc0
  go_enter Try.func6, Try.ntmps6
  go_wp2_with fail
  refine D0.out.mono ?_
  rintro e w1 ⟨v, v2, xs, ss, rfl, ho, hx16, hq, hs17, hb1⟩
  obtain ⟨A, c, e1, hr⟩ := ho.form
  obtain ⟨A', c', e2, hrq, hcap⟩ := OwnQ.form2 hq
  obtain ⟨n, hn⟩ : ∃ n, n = xs.length := ⟨_, rfl⟩
  obtain ⟨m, hm⟩ : ∃ m, m = ss.length := ⟨_, rfl⟩
  rw [← hn] at e1 hr hx16
  rw [← hm] at e2 hrq hcap hs17
  subst e1 e2
  obtain ⟨V1, hV1⟩ : ∃ V1, V1 = w1.alloc (.cells #[.slice A n c, .slice A' m c'] 26) := ⟨_, rfl⟩
  obtain ⟨X, hX⟩ : ∃ X, X = w1.heap.size := ⟨_, rfl⟩
  have hbV1 : Below w1.heap.size w1 V1 := by rw [hV1]; exact log_box w1 _ _
  have hXV : V1.heap[X]? = some (.cells #[.slice A n c, .slice A' m c'] 26 (0, 0)) := by rw [hV1, hX]; exact World.alloc_heap_new w1 _
  have hrV := hr.to hbV1
  have hqV := hrq.to hbV1
  have IV := fun (w8 : World) (h8 : Below V1.heap.size V1 w8) => implLogV_any A A' n c m c' V1.heap.size xs ss w8 (hrV.below h8 (Nat.le_refl _)) (hqV.below h8 (Nat.le_refl _)) h8.size (by omega) (by omega)
  have SV := fun (w8 : World) (h8 : Below V1.heap.size V1 w8) => specLogV_any A A' n c m c' V1.heap.size xs ss w8 (hrV.below h8 (Nat.le_refl _)) (hqV.below h8 (Nat.le_refl _)) h8.size (by omega) (by omega)
  have H1 := Lib.hid (And.intro (Below.on hb1 hbV1) (And.intro hXV (And.intro hrV hqV)))
  have HE1 := Lib.hid (And.intro hV1 hX)
  have HN := Lib.hid (And.intro hn (And.intro hm (And.intro hx16 hs17)))
  obtain ⟨⟨a1, a2⟩, _⟩ := boxTwo_cells hXV
  clear hbV1 hrV hqV hr hrq ho hq hb1 D0 hn hm hx16 hs17 hcap
  have hbb : Below V1.heap.size V1 V1 := Below.refl _ _
  cases hv : logV xs ss with
  | false =>
    rw [hv] at IV SV
    replace IV := Lib.hid IV
    replace SV := Lib.hid SV
    clear hv hXV hV1 hX
    go_wp2_with fail
    rw [← HE1.out.1, ← HE1.out.2]
    go_region_held3 (fun w' => Below V1.heap.size V1 w' ∧ w'.cell? ⟨X, 0, none⟩ = some (.slice A n c) ∧ w'.cell? ⟨X, 1, none⟩ = some (.slice A' m c'))
      (first | assumption | exact held2_drew ⟨by assumption, by assumption, by assumption⟩ | exact held2_drew (by assumption) | exact held2_call (by assumption) (by assumption) (Below.size (And.left (by assumption))))
      (first | (go_at_call 26; refine (IV.out _ (‹Below V1.heap.size V1 _ ∧ _›).1).mono ?_; rintro e w8 ⟨rfl, hb8⟩) | (go_at_call 41; refine (SV.out _ (‹Below V1.heap.size V1 _ ∧ _›).1).mono ?_; rintro e w9 ⟨rfl, hb9⟩))
    have hS := ‹Below V1.heap.size V1 _ ∧ _›
    have IZ := Lib.hid (IV.out _ hS.1)
    have HB := Lib.hid hS.1
    obtain ⟨_, a1, a2⟩ := hS
    go_wp2_with fail
    refine IZ.out.mono ?_
    rintro e w8 ⟨rfl, hb8⟩
    have HB8 := Lib.hid (Below.on HB.out hb8)
    clear hb8
    go_wp2
    go_ret
    exact ⟨rfl, Below.on H1.out.1 HB8.out⟩
  | true =>
    rw [hv] at IV SV
    replace IV := Lib.hid IV
    replace SV := Lib.hid SV
    have HV := Lib.hid hv
    clear hv hXV hV1 hX
    go_wp2_with fail
    rw [← HE1.out.1, ← HE1.out.2]
    go_region_held3 (fun w' => Below V1.heap.size V1 w' ∧ w'.cell? ⟨X, 0, none⟩ = some (.slice A n c) ∧ w'.cell? ⟨X, 1, none⟩ = some (.slice A' m c'))
      (first | assumption | exact held2_drew ⟨by assumption, by assumption, by assumption⟩ | exact held2_drew (by assumption) | exact held2_call (by assumption) (by assumption) (Below.size (And.left (by assumption))))
      (first | (go_at_call 26; refine (IV.out _ (‹Below V1.heap.size V1 _ ∧ _›).1).mono ?_; rintro e w8 ⟨rfl, hb8⟩) | (go_at_call 41; refine (SV.out _ (‹Below V1.heap.size V1 _ ∧ _›).1).mono ?_; rintro e w9 ⟨rfl, hb9⟩))
    have hS := ‹Below V1.heap.size V1 _ ∧ _›
    have IZ := Lib.hid (IV.out _ hS.1)
    have HB := Lib.hid hS.1
    obtain ⟨_, a1, a2⟩ := hS
    go_wp2_with fail
    refine IZ.out.mono ?_
    rintro e w8 ⟨rfl, hb8⟩
    have hb8' := Below.on HB.out hb8
    obtain ⟨⟨a1, a2⟩, _⟩ := boxTwo_cells ((hb8'.block X (Array.getElem?_eq_some_iff.1 H1.out.2.1).1).trans H1.out.2.1)
    have HB8 := Lib.hid hb8'
    have hv := HV.out
    obtain ⟨⟨hn1, hn16⟩, _, _⟩ := logV_parts hv
    rw [← HN.out.1] at hn1 hn16
    have hm17 := HN.out.2.2.2
    have NL := Lib.hid (implNewLog_any (n : Int) w8)
    have HNM := Lib.hid (And.intro hn1 (And.intro hn16 hm17))
    clear hb8 hb8' IZ hn1 hn16 hm17 hv IV SV HB
    go_wp2_with fail
    refine NL.out.mono ?_
    rintro e w9 ⟨v4, rfl, ho4, hb9⟩
    obtain ⟨n4, hn4⟩ : ∃ n4, n4 = newN (n : Int) := ⟨_, rfl⟩
    have hnn : newN (n : Int) = n := by
      unfold newN
      have := HNM.out
      rw [if_pos (by omega)]
      omega
    rw [hnn] at ho4
    obtain ⟨A4, c4, e4, hr4⟩ := ho4.form
    rw [roots_len] at e4 hr4
    subst e4
    obtain ⟨V2, hV2⟩ : ∃ V2, V2 = w9.alloc (.cells #[.slice A4 n c4, .slice none 0 0] 26) := ⟨_, rfl⟩
    obtain ⟨X4, hX4⟩ : ∃ X4, X4 = w9.heap.size := ⟨_, rfl⟩
    have hbV2 : Below w9.heap.size w9 V2 := by rw [hV2]; exact log_box w9 _ _
    have hB4 : V2.heap[X4]? = some (.cells #[.slice A4 n c4, .slice none 0 0] 26 (0, 0)) := by rw [hV2, hX4]; exact World.alloc_heap_new w9 _
    have hbA := Below.on hb9 hbV2
    have hb18 := HB8.out.trans (hbA.mono HB8.out.size)
    have hr4V := hr4.below hbV2 (Nat.le_refl _)
    have hAV := H1.out.2.2.1.below hb18 (Nat.le_refl _)
    have hQV := H1.out.2.2.2.below hb18 (Nat.le_refl _)
    have hXl := (Array.getElem?_eq_some_iff.1 H1.out.2.1).1
    have hX2 := (hb18.block X hXl).trans H1.out.2.1
    obtain ⟨⟨x1, x2⟩, x3, x4⟩ := boxTwo_cells hX2
    have BK := Lib.hid (implBack_any A A' n c m c' V1.heap.size 0 xs ss V2 hAV hQV hb18.size (by have := HNM.out; omega) (by have := HNM.out; omega))
    have HE2 := Lib.hid (And.intro hV2 hX4)
    have H2 := Lib.hid (And.intro hb18 (And.intro hB4 (And.intro hr4V (And.intro hX2 hXl))))
    rw [hV2] at x1 x2 x3 x4
    clear hV2 hX4 hbV2 hB4 hbA hb18 hr4V hr4 hAV hQV hXl hX2 hb9 ho4 NL hnn hn4 a1 a2
    go_wp2_with fail
    rw [← HE2.out.1, ← HE2.out.2]
    refine BK.out.mono ?_
    rintro e w10 ⟨v5, v6, rfl, ho5, hq6, _, hb10⟩
    obtain ⟨g0, _, _, _⟩ := upAt_built HV.out (Nat.zero_le _)
    obtain ⟨k1, k2, k3⟩ := bk_yes HV.out (Nat.zero_le _) g0
    have z0 : ((0 : Nat) : Int) = 0 := rfl
    rw [z0] at k1 k2 k3
    rw [k1]
    rw [k2, upAt_zero, ← HN.out.1] at ho5
    rw [k3, List.take_zero] at hq6
    obtain ⟨A5, c5, e5, hr5⟩ := ho5.form
    obtain ⟨A6, c6, e6, hr6⟩ := hq6.form
    rw [roots_len] at e5 hr5
    have e6 : v6 = .slice A6 0 c6 := e6
    subst e5 e6
    obtain ⟨V3, hV3⟩ : ∃ V3, V3 = w10.alloc (.cells #[.slice A5 n c5, .slice A6 0 c6] 26) := ⟨_, rfl⟩
    obtain ⟨X6, hX6⟩ : ∃ X6, X6 = w10.heap.size := ⟨_, rfl⟩
    have hbV3 : Below w10.heap.size w10 V3 := by rw [hV3]; exact log_box w10 _ _
    have hB6 : V3.heap[X6]? = some (.cells #[.slice A5 n c5, .slice A6 0 c6] 26 (0, 0)) := by rw [hV3, hX6]; exact World.alloc_heap_new w10 _
    obtain ⟨hb18, hB4, hr4, hX2, hXl⟩ := H2.out
    have hb23 := Below.on hb10 hbV3
    have hX4l := (Array.getElem?_eq_some_iff.1 hB4).1
    have hX2l := (Array.getElem?_eq_some_iff.1 hX2).1
    have hX3 := (hb23.block X hX2l).trans hX2
    have hB43 := (hb23.block X4 hX4l).trans hB4
    have hb13 := hb18.trans (hb23.mono hb18.size)
    have hr43 : Rd V3 V3.heap.size A4 n (roots n) := (hr4.below hb23 (by have := HE2.out.2; omega)).more (by have := hb23.size; have := HE2.out.2; omega)
    have hr53 : Rd V3 V3.heap.size A5 n (roots n) := hr5.to hbV3
    have hA3 : Rd V3 V3.heap.size A n xs := (H1.out.2.2.1.below hb13 (Nat.le_refl _)).more hb13.size
    have hQ3 : RdQ V3 V3.heap.size A' m ss := (H1.out.2.2.2.below hb13 (Nat.le_refl _)).more hb13.size
    obtain ⟨V4, hV4⟩ : ∃ V4, V4 = V3.alloc (.cells #[.slice A n c, .slice A' m c'] 26) := ⟨_, rfl⟩
    obtain ⟨X8, hX8⟩ : ∃ X8, X8 = V3.heap.size := ⟨_, rfl⟩
    have hbV4 : Below V3.heap.size V3 V4 := by rw [hV4]; exact log_box V3 _ _
    have hB8 : V4.heap[X8]? = some (.cells #[.slice A n c, .slice A' m c'] 26 (0, 0)) := by rw [hV4, hX8]; exact World.alloc_heap_new V3 _
    obtain ⟨⟨x1, x2⟩, x3, x4⟩ := boxTwo_cells hX3
    obtain ⟨⟨y1, y2⟩, y3, y4⟩ := boxTwo_cells ((hbV4.block X (Array.getElem?_eq_some_iff.1 hX3).1).trans hX3)
    have START : Hid (∃ A8 c8 A9 c9, V4.heap[X8]? = some (.cells #[.slice A8 n c8, .slice A9 (m - 0) c9] 26 (0, 0)) ∧ Rd V4 V4.heap.size A8 n (upAt xs ss (m - 0)) ∧ RdQ V4 V4.heap.size A9 (m - 0) (ss.take (m - 0)) ∧ Below V3.heap.size V3 V4 ∧ X8 < V4.heap.size) := by
      refine ⟨A, c, A', c', hB8, ?_, ?_, hbV4, (Array.getElem?_eq_some_iff.1 hB8).1⟩
      · rw [Nat.sub_zero, HN.out.2.1, upAt_all HV.out]
        exact hA3.to hbV4
      · rw [Nat.sub_zero, HN.out.2.1, List.take_of_length_le (Nat.le_refl _), ← HN.out.2.1]
        exact hQ3.to hbV4
    have HE3 := Lib.hid (And.intro hV3 hX6)
    have HE4 := Lib.hid (And.intro hV4 hX8)
    have HE5 : Hid (w10.heap.size + 1 = X8) := by
      have h : V3.heap.size = w10.heap.size + 1 := by rw [hV3]; simp
      rw [hX8, h]
      exact Lib.hid rfl
    have H3 := Lib.hid (And.intro hb13 (And.intro hB43 (And.intro hB6 (And.intro hr43 hr53))))
    rw [hV4, hV3] at y1 y2 y3 y4
    rw [hV3] at x1 x2 x3 x4
    clear hV3 hX6 hbV3 hB6 hb18 hB4 hr4 hX2 hXl hb23 hX4l hX2l hX3 hB43 hb13 hr43 hr53 hA3 hQ3 hV4 hX8 hbV4 hB8 g0 k1 k2 k3 z0 hr5 hr6 hb10 ho5 hq6 BK
    go_wp2
    rw [← HE3.out.1, ← HE4.out.1, HE5.out, ← HE3.out.2]
    clear x1 x2 x3 x4 y1 y2 y3 y4 H2 HE1 HE2 HB8
    go_loopw [42] (fun i wr => ∃ k : Nat, k ≤ m ∧ i = .int .i64 k ∧ Hid (∃ A8 c8 A9 c9, wr.heap[X8]? = some (.cells #[.slice A8 n c8, .slice A9 (m - k) c9] 26 (0, 0)) ∧ Rd wr wr.heap.size A8 n (upAt xs ss (m - k)) ∧ RdQ wr wr.heap.size A9 (m - k) (ss.take (m - k)) ∧ Below V3.heap.size V3 wr ∧ X8 < wr.heap.size)) (fun i _ => m - (intOf i).toNat)
    case atStart => exact ⟨0, Nat.zero_le _, rfl, START⟩
    case round =>
      obtain ⟨k, hk, rfl, HR⟩ := hrel
      obtain ⟨A8, c8, A9, c9, hB8, hr8, hq8, hb3r, hx8⟩ := HR.out
      obtain ⟨⟨x1, x2⟩, x3, x4⟩ := boxTwo_cells hB8
      clear START HR
      by_cases hlt : k < m
      · obtain ⟨j, hj⟩ : ∃ j, m - k = j + 1 := ⟨m - k - 1, by omega⟩
        have ejm : m - (k + 1) = j := by omega
        rw [hj] at hB8 hr8 hq8 x2
        have hjs : j + 1 ≤ ss.length := by have := HN.out; omega
        obtain ⟨u1, u2, u3⟩ := undo_step HV.out hjs
        obtain ⟨_, ul, _, _⟩ := upAt_built HV.out (show j ≤ ss.length by omega)
        have UN0 := implUndo_any A8 A9 n c8 (j + 1) c9 wr.heap.size (upAt xs ss (j + 1)) (ss.take (j + 1)) wr hr8 hq8 (Nat.le_refl _) (by have := HNM.out; omega) (by have := HNM.out; omega)
        rw [show ((j + 1 : Nat) : Int) - 1 = (j : Int) by omega, u1, u2, u3] at UN0
        have UN := Lib.hid UN0
        have HR := Lib.hid (And.intro hB8 (And.intro hb3r (And.intro hx8 (And.intro ul ejm))))
        have hlt' : (k : Int) < (m : Int) := by omega
        clear UN0 u1 u2 u3 ul hB8 hr8 hq8 hb3r hjs hj
        generalize j + 1 = j1 at UN x2 HR
        go_wp2_with fail
        refine UN.out.mono ?_
        rintro e w11 ⟨v, v2, rfl, ho, hq, _, hb11⟩
        obtain ⟨hB8, hb3r, _, ul, ejm⟩ := HR.out
        obtain ⟨B1, d1, e1, -⟩ := ho.form
        obtain ⟨B2, d2, e2, -⟩ := hq.form
        rw [ul, ← HN.out.1] at e1
        have hjl : (ss.take j).length = j := by rw [List.length_take]; have := HN.out; omega
        rw [hjl] at e2
        subst e1 e2
        obtain ⟨W9, hW9⟩ : ∃ W9, W9 = w11.alloc (.cells #[.slice B1 n d1, .slice B2 j d2] 26) := ⟨_, rfl⟩
        have hbW9 : Below w11.heap.size w11 W9 := by rw [hW9]; exact log_box w11 _ _
        have hbr9 := Below.on hb11 hbW9
        have hB89 := (hbr9.block X8 hx8).trans hB8
        obtain ⟨⟨x1, x2⟩, x3, x4⟩ := boxTwo_cells hB89
        have hgr := boxTwo_grown W9 X8 (.slice B1 n d1) (.slice B2 j d2)
        have ho9 := (ho.keep hbW9 (Nat.le_refl _)).row hgr hx8
        have hq9 := (hq.keep hbW9 (Nat.le_refl _)).row hgr hx8
        have hb39 : Below V3.heap.size V3 ((W9.setCell ⟨X8, 0, none⟩ (.slice B1 n d1)).setCell ⟨X8, 1, none⟩ (.slice B2 j d2)) := boxTwo_below (hb3r.trans (hbr9.mono hb3r.size)) (by have := HE4.out.2; omega) _ _
        have NEXT : Hid (∃ A8 c8 A9 c9, ((W9.setCell ⟨X8, 0, none⟩ (.slice B1 n d1)).setCell ⟨X8, 1, none⟩ (.slice B2 j d2)).heap[X8]? = some (.cells #[.slice A8 n c8, .slice A9 (m - (k + 1)) c9] 26 (0, 0)) ∧ Rd ((W9.setCell ⟨X8, 0, none⟩ (.slice B1 n d1)).setCell ⟨X8, 1, none⟩ (.slice B2 j d2)) ((W9.setCell ⟨X8, 0, none⟩ (.slice B1 n d1)).setCell ⟨X8, 1, none⟩ (.slice B2 j d2)).heap.size A8 n (upAt xs ss (m - (k + 1))) ∧ RdQ ((W9.setCell ⟨X8, 0, none⟩ (.slice B1 n d1)).setCell ⟨X8, 1, none⟩ (.slice B2 j d2)) ((W9.setCell ⟨X8, 0, none⟩ (.slice B1 n d1)).setCell ⟨X8, 1, none⟩ (.slice B2 j d2)).heap.size A9 (m - (k + 1)) (ss.take (m - (k + 1))) ∧ Below V3.heap.size V3 ((W9.setCell ⟨X8, 0, none⟩ (.slice B1 n d1)).setCell ⟨X8, 1, none⟩ (.slice B2 j d2)) ∧ X8 < ((W9.setCell ⟨X8, 0, none⟩ (.slice B1 n d1)).setCell ⟨X8, 1, none⟩ (.slice B2 j d2)).heap.size) := by
          rw [ejm]
          refine ⟨B1, d1, B2, d2, boxTwo_set hB89 _ _, ho9.rd, hq9.rd, hb39, ?_⟩
          have := hgr.size
          have := hbr9.size
          omega
        have HW9 := Lib.hid hW9
        have hm17 : m ≤ 17 := HNM.out.2.2
        rw [hW9] at x1 x2 x3 x4
        clear hW9 hbW9 hbr9 hB89 hgr ho9 hq9 hb39 hB8 hb3r ul hjl ejm HR hb11 ho hq UN hx8
        go_wp2
        rw [← HW9.out]
        go_roundw
        case rel => exact ⟨k + 1, by omega, by go_num, NEXT⟩
        case measure => simp [intOf]; omega
      · obtain rfl : k = m := by omega
        rw [Nat.sub_self] at hB8 hr8 hq8 x2
        rw [upAt_zero, ← HN.out.1] at hr8
        rw [List.take_zero] at hq8
        have UN0 := implUndo_any A8 A9 n c8 0 c9 wr.heap.size (roots n) [] wr hr8 hq8 (Nat.le_refl _) (by have := HNM.out; omega) (by omega)
        have hbf : bkB (roots n) [] (((0 : Nat) : Int) - 1) = false := by unfold bkB; simp
        rw [hbf] at UN0
        have UN := Lib.hid UN0
        have HR := Lib.hid (And.intro hB8 (And.intro hr8 (And.intro hb3r hx8)))
        clear UN0 hbf hB8 hr8 hq8 hb3r hlt
        go_wp2_with fail
        refine UN.out.mono ?_
        rintro e w11 ⟨v, v2, rfl, ho12, hq12, _, hb11⟩
        obtain ⟨hB8, hr8, hb3r, hx8⟩ := HR.out
        obtain ⟨A12, c12, e12, -⟩ := ho12.form
        obtain ⟨A13, c13, e13, -⟩ := hq12.form
        generalize (bkUp (roots n) [] (((0 : Nat) : Int) - 1)).length = n12 at e12
        generalize (bkSt (roots n) [] (((0 : Nat) : Int) - 1)).length = n13 at e13
        subst e12 e13
        obtain ⟨hb13, hB43, hB63, hr43, hr53⟩ := H3.out
        obtain ⟨W9, hW9⟩ : ∃ W9, W9 = w11.alloc (.cells #[.slice A12 n12 c12, .slice A13 n13 c13] 26) := ⟨_, rfl⟩
        have hbW9 : Below w11.heap.size w11 W9 := by rw [hW9]; exact log_box w11 _ _
        have hbr9 := Below.on hb11 hbW9
        have hb39 := hb3r.trans (hbr9.mono hb3r.size)
        have hB69 := (hb39.block X6 (Array.getElem?_eq_some_iff.1 hB63).1).trans hB63
        have hB49 := (hb39.block X4 (Array.getElem?_eq_some_iff.1 hB43).1).trans hB43
        have hB89 := (hbr9.block X8 hx8).trans hB8
        obtain ⟨⟨x1, x2⟩, _⟩ := boxTwo_cells hB69
        obtain ⟨⟨y1, y2⟩, _⟩ := boxTwo_cells hB49
        have LA := Lib.hid (lrLog_any A5 A6 A4 none n c5 0 c6 c4 0 V3.heap.size W9.heap.size V3.heap.size W9.heap.size (roots n) [] W9 (hr53.below hb39 (Nat.le_refl _)) (RdQ.nil _ _ _) (hr43.below hb39 (Nat.le_refl _)) (RdQ.nil _ _ _) ⟨hb39.size, Nat.le_refl _, hb39.size, Nat.le_refl _⟩ (by have := HNM.out; omega) (by omega))
        have HW9 := Lib.hid hW9
        have H9 := Lib.hid (And.intro hb39 (And.intro hB49 (And.intro hB89 (And.intro (hr43.below hb39 (Nat.le_refl _)) (hr8.below hbr9 (Nat.le_refl _))))))
        have HSZ := Lib.hid hbr9.size
        rw [hW9] at x1 x2 y1 y2
        clear hW9 hbW9 hbr9 hb39 hB69 hB49 hB89 hB8 hr8 hb3r hx8 hb13 hB43 hB63 hr43 hr53 hb11 UN
        go_wp2_with fail
        rw [← HW9.out]
        refine LA.out.mono ?_
        rintro e w13 ⟨rfl, hb13⟩
        obtain ⟨hb39, hB49, hB89, hr49, hr89⟩ := H9.out
        have hB4c := (hb13.block X4 (Array.getElem?_eq_some_iff.1 hB49).1).trans hB49
        have hB8c := (hb13.block X8 (Array.getElem?_eq_some_iff.1 hB89).1).trans hB89
        obtain ⟨⟨x1, x2⟩, _⟩ := boxTwo_cells hB8c
        obtain ⟨⟨y1, y2⟩, _⟩ := boxTwo_cells hB4c
        have hsz := hb39.size
        have LB := Lib.hid (lrLog_any A8 A9 A4 none n c8 0 c9 c4 0 wr.heap.size w13.heap.size V3.heap.size w13.heap.size (roots n) [] w13 (hr89.below hb13 HSZ.out) (RdQ.nil _ _ _) (hr49.below hb13 hsz) (RdQ.nil _ _ _) ⟨Nat.le_trans HSZ.out hb13.size, Nat.le_refl _, Nat.le_trans hsz hb13.size, Nat.le_refl _⟩ (by have := HNM.out; omega) (by omega))
        have HB13 := Lib.hid (hb39.trans (hb13.mono hsz))
        clear hb39 hB49 hB89 hr49 hr89 hB4c hB8c hb13 LA
        go_wp2_with fail
        refine LB.out.mono ?_
        rintro e w14 ⟨rfl, hb14⟩
        have HB14 := Lib.hid (HB13.out.trans (hb14.mono HB13.out.size))
        clear hb14 LB
        go_wp2
        go_ret
        exact ⟨rfl, Below.on (Below.on H1.out.1 H3.out.1) HB14.out⟩
end Go.Proofs.Ytdbkoicbhddpfaa
