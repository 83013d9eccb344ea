/- What the laws of the forest of a time draw: a timed forest and a time. Condition: none beyond the bytes read. -/
import Derived.Test.YtfafgihfgdpclaaDrawTog
namespace Go.Proofs.Ytfafgihfgdpclaa
open Go.RowKit Go.Shelf

set_option maxRecDepth 100000 in
set_option maxHeartbeats 8000000 in
theorem drawClasses7_any (A : Option Addr) (n c B : Nat) (bs : List Int) (w : World) (h : Bt w B A n bs) (hB : B ≤ w.heap.size) (hc : n ≤ c) :
    Calls Try.prog 63 #[.slice A n c] w fun e w' => ∃ v v2 t xs ss, e = .returned (.tuple #[.agg #[v, v2], .int .i64 t]) ∧ Own w' w.heap.size v xs ∧ xs.length ≤ 16 ∧ Own w' w.heap.size v2 ss ∧ ss.length ≤ 16 ∧ Below w.heap.size w w' := by
  obtain ⟨W, hW⟩ : ∃ W, W = w.alloc (.cells #[.slice none 0 0, .slice none 0 0] 64) := ⟨_, rfl⟩
  have hbW : Below w.heap.size w W := by rw [hW]; exact timedBox w _ _
  have hZ : W.heap[w.heap.size]? = some (.cells #[.slice none 0 0, .slice none 0 0] 64 (0, 0)) := by rw [hW]; exact World.alloc_heap_new w _
  have eW : W.heap.size = w.heap.size + 1 := by rw [hW]; simp
  have O := Lib.hid (open_any A n c B bs W (h.below hbW hB) (Nat.le_trans hB hbW.size) hc)
  obtain ⟨Z, hZe⟩ : ∃ Z, Z = w.heap.size := ⟨_, rfl⟩
  obtain ⟨R, hR⟩ : ∃ R, R = W.heap.size := ⟨_, rfl⟩
  rw [← hZe] at hZ
  rw [← hR] at O
  have HW := Lib.hid (And.intro hW (And.intro hZe (And.intro hbW (And.intro hZ (And.intro eW hR)))))
  clear h hB hc hW hbW hZ eW hZe hR
  go_enter Try.func63, Try.ntmps63
  go_wp2_with fail
  rw [← HW.out.1, ← HW.out.2.1]
  refine O.out.mono ?_
  rintro e w1 ⟨rfl, hs, hb⟩
  have hRl := hs.lt
  have SM := Lib.hid (l7Some_any R 0 w1 hs (by omega))
  have HB := Lib.hid (And.intro hb hRl)
  clear hs hb hRl
  go_wp2_with fail
  refine SM.out.mono ?_
  rintro e w2 ⟨v, v2, xs, ss, rfl, ho, hx, hq, hy, ⟨p', hp', hs2⟩, hg⟩
  obtain ⟨A1, c1, e1, -⟩ := ho.form
  obtain ⟨A2, c2, e2, -⟩ := hq.form
  generalize hn1 : xs.length = n1 at e1 hx
  generalize hn2 : ss.length = n2 at e2 hy
  subst e1 e2
  obtain ⟨V0, hV0⟩ : ∃ V0, V0 = w2.alloc (.cells #[.slice A1 n1 c1, .slice A2 n2 c2] 64) := ⟨_, rfl⟩
  obtain ⟨X, hX⟩ : ∃ X, X = w2.heap.size := ⟨_, rfl⟩
  have hbV : Below w2.heap.size w2 V0 := by rw [hV0]; exact timedBox w2 _ _
  have hBX : V0.heap[X]? = some (.cells #[.slice A1 n1 c1, .slice A2 n2 c2] 64 (0, 0)) := by rw [hV0, hX]; exact World.alloc_heap_new w2 _
  have hAB : TmB V0 V0 R p' := ⟨World.grownBy.refl _ _, hs2.below hbV hs2.lt⟩
  have hsz := hg.size
  have hRX : X ≠ R := by have := HB.out.2; omega
  have hZl : Z < w2.heap.size := by have := HW.out.2.2.2.2.1; have := HW.out.2.1; have := HB.out.2; have := HW.out.2.2.2.2.2; omega
  have hZ2 : V0.heap[Z]? = some (.cells #[.slice none 0 0, .slice none 0 0] 64 (0, 0)) := by
    refine (hbV.block Z hZl).trans ((hg.block Z ?_ ?_).trans ((HB.out.1.block Z ?_).trans HW.out.2.2.2.1))
    · have := HW.out.2.2.2.2.1; have := HW.out.2.1; have := HB.out.2; have := HW.out.2.2.2.2.2; omega
    · intro e; injection e with e; have := HW.out.2.2.2.2.1; have := HW.out.2.1; have := HW.out.2.2.2.2.2; omega
    · have := HW.out.2.2.2.2.1; have := HW.out.2.1; have := HW.out.2.2.2.2.2; omega
  have hZR : Z ≠ R := by have := HW.out.2.2.2.2.1; have := HW.out.2.1; have := HW.out.2.2.2.2.2; omega
  have hXZ : X ≠ Z := by omega
  have hAD := hAB.drew
  have TB := Lib.hid (fun (W' : World) (h' : TmB V0 W' R p') => l7Time_tm h' (by omega))
  have HO := Lib.hid (And.intro (ho.keep hbV (Nat.le_refl _)) (And.intro (hq.keep hbV (Nat.le_refl _)) (And.intro hn1 (And.intro hn2 (And.intro hx (And.intro hy (And.intro (grown_of_below R hbV) hg)))))))
  have HE := Lib.hid (And.intro hV0 hX)
  have HZ := Lib.hid hZ2
  have HP := Lib.hid hp'
  obtain ⟨⟨x1, x2⟩, x3, x4⟩ := boxTwo_cells hBX
  clear ho hq hn1 hn2 hg hV0 hX hbV hs2 SM hZl hsz hp' hx hy
  go_wp2_with fail
  rw [← HE.out.1, ← HE.out.2]
  go_region_held3 (fun w' => w'.cell? ⟨X, 0, none⟩ = some (.slice A1 n1 c1) ∧ w'.cell? ⟨X, 1, none⟩ = some (.slice A2 n2 c2))
    (first | exact TmB.cells (by assumption) hBX hRX | exact tm_set2 (TmB.cells (by assumption) hBX hRX) hXZ)
    (first | (go_at_call 143; refine (TB.out _ (by assumption)).mono ?_; rintro e w9 ⟨⟨t, rfl⟩, p9, hp9, hL9⟩; obtain ⟨⟨z1, z2⟩, z3, z4⟩ := boxTwo_cells (hL9.block hZ2 hZR)))
  obtain ⟨hoV, hqV, hn1, hn2, hx, hy', hgV, hg⟩ := HO.out
  have hR := HW.out.2.2.2.2.2
  have eW := HW.out.2.2.2.2.1
  have hZe := HW.out.2.1
  have hRb := HB.out.2
  have hg19 := grown_trans2 hg (grown_trans2 hgV hL9.gr)
  have hbR : Below R W w9 := Below.trans (HB.out.1.mono (by omega)) (below_row hg19 (show R ≤ w1.heap.size by omega) (fun r e => by injection e with e; omega))
  rw [hR] at hbR
  have hbw := Below.on HW.out.2.2.1 hbR
  obtain ⟨q1, q2, q4⟩ := tm_end hbw (show w.heap.size ≤ Z by omega) ((hoV.row hL9.gr hRb).less (show Z + 1 ≤ w1.heap.size by omega)) ((hqV.row hL9.gr hRb).less (show Z + 1 ≤ w1.heap.size by omega))
  obtain ⟨⟨k1, k2⟩, _⟩ := boxTwo_cells (boxTwo_set (hL9.block HZ.out hZR) (.slice A1 n1 c1) (.slice A2 n2 c2))
  have HQ := Lib.hid (And.intro q1 (And.intro q2 q4))
  clear hoV hqV hgV hg hg19 hbw hbR q1 q2 q4 hL9 TB
  go_wp2
  refine bodyPost_ret (v := .tuple #[.agg #[.slice A1 n1 c1, .slice A2 n2 c2], .int .i64 t]) (by simp [results, Try.results63, go_sem, k1, k2]) rfl ?_
  exact ⟨_, _, t, xs, ss, rfl, HQ.out.1, by omega, HQ.out.2.1, by omega, HQ.out.2.2⟩
set_option maxRecDepth 100000 in
set_option maxHeartbeats 4000000 in
theorem drawForest7_any (A : Option Addr) (n c B : Nat) (bs : List Int) (w : World) (h : Bt w B A n bs) (hB : B ≤ w.heap.size) (hc : n ≤ c) :
    Calls Try.prog 60 #[.slice A n c] w fun e w' => ∃ v v2 t xs ss, e = .returned (.tuple #[.agg #[v, v2], .int .i64 t]) ∧ Own w' w.heap.size v xs ∧ xs.length ≤ 16 ∧ Own w' w.heap.size v2 ss ∧ ss.length ≤ 16 ∧ Below w.heap.size w w' := by
  obtain ⟨W, hW⟩ : ∃ W, W = w.alloc (.cells #[.slice none 0 0, .slice none 0 0] 64) := ⟨_, rfl⟩
  have hbW : Below w.heap.size w W := by rw [hW]; exact timedBox w _ _
  have hZ : W.heap[w.heap.size]? = some (.cells #[.slice none 0 0, .slice none 0 0] 64 (0, 0)) := by rw [hW]; exact World.alloc_heap_new w _
  have eW : W.heap.size = w.heap.size + 1 := by rw [hW]; simp
  have O := Lib.hid (drawClasses7_any A n c B bs W (h.below hbW hB) (Nat.le_trans hB hbW.size) hc)
  obtain ⟨Z, hZe⟩ : ∃ Z, Z = w.heap.size := ⟨_, rfl⟩
  rw [← hZe] at hZ
  have HW := Lib.hid (And.intro hW (And.intro hZe (And.intro hbW (And.intro hZ eW))))
  clear h hB hc hW hbW hZ eW hZe
  go_enter Try.func60, Try.ntmps60
  go_wp2_with fail
  rw [← HW.out.1, ← HW.out.2.1]
  refine O.out.mono ?_
  rintro e w2 ⟨v, v2, t, xs, ss, rfl, ho, hx, hq, hy, hb2⟩
  have hZl : Z < W.heap.size := by have := HW.out.2.2.2.2; have := HW.out.2.1; omega
  have hZ2 := (hb2.block Z hZl).trans HW.out.2.2.2.1
  obtain ⟨A1, c1, e1, -⟩ := ho.form
  obtain ⟨A2, c2, e2, -⟩ := hq.form
  generalize hn1 : xs.length = n1 at e1 hx
  generalize hn2 : ss.length = n2 at e2 hy
  subst e1 e2
  obtain ⟨⟨r1, r2⟩, r3, r4⟩ := boxTwo_cells hZ2
  have HQ := Lib.hid (And.intro ho (And.intro hq (And.intro (Below.on HW.out.2.2.1 hb2) (And.intro hZ2 (And.intro hn1 (And.intro hn2 (And.intro hx hy)))))))
  clear ho hq hb2 hZ2 hn1 hn2 hx hy O
  go_wp2
  obtain ⟨ho, hq, hbw, hZ2, hn1, hn2, hx, hy⟩ := HQ.out
  have hZe := HW.out.2.1
  have eW := HW.out.2.2.2.2
  obtain ⟨q1, q2, q4⟩ := tm_end hbw (show w.heap.size ≤ Z by omega) (ho.less (show Z + 1 ≤ W.heap.size by omega)) (hq.less (show Z + 1 ≤ W.heap.size by omega))
  obtain ⟨⟨k1, k2⟩, _⟩ := boxTwo_cells (boxTwo_set hZ2 (.slice A1 n1 c1) (.slice A2 n2 c2))
  refine bodyPost_ret (v := .tuple #[.agg #[.slice A1 n1 c1, .slice A2 n2 c2], .int .i64 t]) (by simp [results, Try.results60, go_sem, k1, k2]) rfl ?_
  exact ⟨_, _, t, xs, ss, rfl, q1, by omega, q2, by omega, q4⟩
end Go.Proofs.Ytfafgihfgdpclaa
