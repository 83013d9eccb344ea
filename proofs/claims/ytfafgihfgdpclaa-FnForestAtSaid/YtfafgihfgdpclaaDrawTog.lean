/- What the laws of times draw: a timed forest, two items, a time. Condition: none beyond the bytes read. -/
import Derived.Test.YtfafgihfgdpclaaDrawTm
namespace Go.Proofs.Ytfafgihfgdpclaa
open Go.RowKit Go.Shelf

theorem tm_end {w V : World} {Z base : Nat} {a b : Value} {xs ss : List Int} (hb : Below base w V) (hz : base ≤ Z) (h1 : Own V (Z + 1) a xs) (h2 : Own V (Z + 1) b ss) :
    Own ((V.setCell ⟨Z, 0, none⟩ a).setCell ⟨Z, 1, none⟩ b) base a xs ∧ Own ((V.setCell ⟨Z, 0, none⟩ a).setCell ⟨Z, 1, none⟩ b) base b ss ∧ Below base w ((V.setCell ⟨Z, 0, none⟩ a).setCell ⟨Z, 1, none⟩ b) := by
  have hg := boxTwo_grown V Z a b
  exact ⟨(h1.row hg (by omega)).less (by omega), (h2.row hg (by omega)).less (by omega), boxTwo_below hb hz _ _⟩
/-- The world V has come from V0 by reading the source in R alone. -/
structure TmB (V0 V : World) (R p : Nat) : Prop where
  gr : V0.grownBy V (some R)
  src : Src V R p
section
variable {V0 V V' : World} {R p : Nat}
theorem TmB.block (h : TmB V0 V R p) {X : Nat} {o : Obj} (h0 : V0.heap[X]? = some o) (hne : X ≠ R) : V.heap[X]? = some o :=
  (h.gr.block X (Array.getElem?_eq_some_iff.1 h0).1 (fun e => by injection e with e; omega)).trans h0
theorem TmB.below (h : TmB V0 V R p) (hb : Below V.heap.size V V') : TmB V0 V' R p :=
  ⟨grown_trans2 h.gr (grown_of_below R hb), h.src.below hb h.src.lt⟩
theorem TmB.alloc (h : TmB V0 V R p) (o : Obj) : TmB V0 (V.alloc o) R p := h.below ((Below.refl _ _).alloc (Nat.le_refl _) o)
theorem TmB.drew (h : TmB V0 V R p) : TmB V0 V.drew R p := h.below ⟨rfl, rfl, rfl, Nat.le_refl _, fun _ _ => rfl⟩
theorem TmB.cells (h : TmB V0 V R p) {X : Nat} {v v2 : Value} {t : TypeId} (h0 : V0.heap[X]? = some (.cells #[v, v2] t (0, 0))) (hne : X ≠ R) : V.cell? ⟨X, 0, none⟩ = some v ∧ V.cell? ⟨X, 1, none⟩ = some v2 :=
  (boxTwo_cells (h.block h0 hne)).1
theorem tm_set2 {W : World} {X Z : Nat} {v v2 a b : Value} (h : W.cell? ⟨X, 0, none⟩ = some v ∧ W.cell? ⟨X, 1, none⟩ = some v2) (hne : X ≠ Z) : ((W.setCell ⟨Z, 0, none⟩ a).setCell ⟨Z, 1, none⟩ b).cell? ⟨X, 0, none⟩ = some v ∧ ((W.setCell ⟨Z, 0, none⟩ a).setCell ⟨Z, 1, none⟩ b).cell? ⟨X, 1, none⟩ = some v2 := by
  have hg := boxTwo_grown W Z a b
  have hlt := World.block_lt_of_cell? W _ h.1
  have e := hg.block X hlt (fun e => by injection e with e; omega)
  exact ⟨(World.cell?_of_block e).trans h.1, (World.cell?_of_block e).trans h.2⟩
theorem l1Pick_tm (h : TmB V0 V R p) (hp : p ≤ 90000) (A : Option Addr) (n c : Nat) (hn : n ≤ 17) :
    Calls Try.prog 142 #[.pointer (some ⟨R, 0, none⟩), .slice A n c] V fun e w' => (∃ x : Int, e = .returned (.int .i64 x)) ∧ ∃ p', p' ≤ p + 10 ∧ TmB V0 w' R p' := by
  refine (l1Pick_any R p n c A V h.src hp hn).mono ?_
  rintro e w' ⟨⟨x, h1, _⟩, ⟨p', h2, h3⟩, h4⟩
  exact ⟨⟨x, h1⟩, p', h2, grown_trans2 h.gr h4, h3⟩
end
set_option maxRecDepth 100000 in
set_option maxHeartbeats 2000000 in
theorem l7Time_any (R p : Nat) (w : World) (h : Src w R p) (hp : p ≤ 90000) :
    Calls Try.prog 143 #[.pointer (some ⟨R, 0, none⟩)] w fun e w' => (∃ x : Int, e = .returned (.int .i64 x)) ∧ (∃ p', p' ≤ p + 10 ∧ Src w' R p') ∧ w.grownBy w' (some R) := by
  have P := Lib.hid (fun (q : Nat) (M : Int) (w1 : World) (hs : Src w1 R q) (hq : q ≤ 100000) => pick_any R q M w1 hs hq)
  go_enter Try.func143, Try.ntmps143
  go_wp2_with fail
  refine (P.out p 8 w h (by omega)).mono ?_
  rintro e w1 ⟨⟨x1, rfl, hx1⟩, hs1, hg1⟩
  go_wp2_with fail
  refine (P.out _ 13 _ hs1 (by omega)).mono ?_
  rintro e w2 ⟨⟨x2, rfl, hx2⟩, hs2, hg2⟩
  go_wp2_with fail
  refine (P.out _ 5 _ hs2 (by omega)).mono ?_
  rintro e w5 ⟨⟨x3, rfl, hx3⟩, hs5, hg3⟩
  have hg := grown_trans2 (grown_trans2 hg1 hg2) hg3
  have hlt := hs5.lt
  have hlit : Own (w5.alloc (.cells #[.int .i64 (x1 : Int), .int .i64 (x2 : Int), .int .i64 0, .int .i64 24, .int .i64 (x3 : Int), .int .i64 25, .int .i64 (-1)] 3)) w5.heap.size (.slice (some ⟨w5.heap.size, 0, none⟩) 7 7) [(x1 : Int), x2, 0, 24, x3, 25, -1] := by
    simpa using Own.lit w5 w5.heap.size [(x1 : Int), x2, 0, 24, x3, 25, -1] (Nat.le_refl _) (by simp)
  have hbl := (Below.refl w5.heap.size w5).alloc (Nat.le_refl _) (.cells #[.int .i64 (x1 : Int), .int .i64 (x2 : Int), .int .i64 0, .int .i64 24, .int .i64 (x3 : Int), .int .i64 25, .int .i64 (-1)] 3)
  have NU := Lib.hid (num_any R _ w5.heap.size _ _ _ (hs5.below hbl hlt) (by omega) hlit hlt (by simp) (by simp))
  have HG := Lib.hid (grown_below hg (hbl.mono hg.size))
  clear hs1 hs2 hg1 hg2 hg3 hlit hs5 hbl hg hx1 hx2 hx3 P
  go_wp2_with fail
  refine NU.out.mono ?_
  rintro e w7 ⟨⟨k, hk, rfl⟩, hs7, hg7⟩
  have hgf := Lib.hid (grown_trans2 HG.out hg7)
  clear hg7 hk
  go_wp2
  go_ret
  exact ⟨⟨_, rfl⟩, ⟨_, by omega, hs7⟩, hgf.out⟩
theorem l7Time_tm {V0 V : World} {R p : Nat} (h : TmB V0 V R p) (hp : p ≤ 90000) :
    Calls Try.prog 143 #[.pointer (some ⟨R, 0, none⟩)] V fun e w' => (∃ x : Int, e = .returned (.int .i64 x)) ∧ ∃ p', p' ≤ p + 10 ∧ TmB V0 w' R p' := by
  refine (l7Time_any R p V h.src hp).mono ?_
  rintro e w' ⟨h1, ⟨p', h2, h3⟩, h4⟩
  exact ⟨h1, p', h2, grown_trans2 h.gr h4, h3⟩
set_option maxRecDepth 100000 in
set_option maxHeartbeats 8000000 in
theorem drawTog7_any (A : Option Addr) (n c B : Nat) (bs : List Int) (w : World) (h : Bt w B A n bs) (hB : B ≤ w.heap.size) (hc : n ≤ c) :
    Calls Try.prog 55 #[.slice A n c] w fun e w' => ∃ v v2 a b t xs ss, e = .returned (.tuple #[.agg #[v, v2], .int .i64 a, .int .i64 b, .int .i64 t]) ∧ Own w' w.heap.size v xs ∧ xs.length ≤ 16 ∧ Own w' w.heap.size v2 ss ∧ ss.length ≤ 16 ∧ Below w.heap.size w w' := by
  obtain ⟨W, hW⟩ : ∃ W, W = w.alloc (.cells #[.slice none 0 0, .slice none 0 0] 64) := ⟨_, rfl⟩
  have hbW : Below w.heap.size w W := by rw [hW]; exact timedBox w _ _
  have hZ : W.heap[w.heap.size]? = some (.cells #[.slice none 0 0, .slice none 0 0] 64 (0, 0)) := by rw [hW]; exact World.alloc_heap_new w _
  have eW : W.heap.size = w.heap.size + 1 := by rw [hW]; simp
  have O := Lib.hid (open_any A n c B bs W (h.below hbW hB) (Nat.le_trans hB hbW.size) hc)
  obtain ⟨Z, hZe⟩ : ∃ Z, Z = w.heap.size := ⟨_, rfl⟩
  obtain ⟨R, hR⟩ : ∃ R, R = W.heap.size := ⟨_, rfl⟩
  rw [← hZe] at hZ
  rw [← hR] at O
  have HW := Lib.hid (And.intro hW (And.intro hZe (And.intro hbW (And.intro hZ (And.intro eW hR)))))
  clear h hB hc hW hbW hZ eW hZe hR
  go_enter Try.func55, Try.ntmps55
  go_wp2_with fail
  rw [← HW.out.1, ← HW.out.2.1]
  refine O.out.mono ?_
  rintro e w1 ⟨rfl, hs, hb⟩
  have hRl := hs.lt
  have SM := Lib.hid (l7Some_any R 0 w1 hs (by omega))
  have HB := Lib.hid (And.intro hb hRl)
  clear hs hb hRl
  go_wp2_with fail
  refine SM.out.mono ?_
  rintro e w2 ⟨v, v2, xs, ss, rfl, ho, hx, hq, hy, ⟨p', hp', hs2⟩, hg⟩
  obtain ⟨A1, c1, e1, -⟩ := ho.form
  obtain ⟨A2, c2, e2, -⟩ := hq.form
  generalize hn1 : xs.length = n1 at e1 hx
  generalize hn2 : ss.length = n2 at e2 hy
  subst e1 e2
  obtain ⟨V0, hV0⟩ : ∃ V0, V0 = w2.alloc (.cells #[.slice A1 n1 c1, .slice A2 n2 c2] 64) := ⟨_, rfl⟩
  obtain ⟨X, hX⟩ : ∃ X, X = w2.heap.size := ⟨_, rfl⟩
  have hbV : Below w2.heap.size w2 V0 := by rw [hV0]; exact timedBox w2 _ _
  have hBX : V0.heap[X]? = some (.cells #[.slice A1 n1 c1, .slice A2 n2 c2] 64 (0, 0)) := by rw [hV0, hX]; exact World.alloc_heap_new w2 _
  have hAB : TmB V0 V0 R p' := ⟨World.grownBy.refl _ _, hs2.below hbV hs2.lt⟩
  have hsz := hg.size
  have hRX : X ≠ R := by have := HB.out.2; omega
  have hZl : Z < w2.heap.size := by have := HW.out.2.2.2.2.1; have := HW.out.2.1; have := HB.out.2; have := HW.out.2.2.2.2.2; omega
  have hZ2 : V0.heap[Z]? = some (.cells #[.slice none 0 0, .slice none 0 0] 64 (0, 0)) := by
    refine (hbV.block Z hZl).trans ((hg.block Z ?_ ?_).trans ((HB.out.1.block Z ?_).trans HW.out.2.2.2.1))
    · have := HW.out.2.2.2.2.1; have := HW.out.2.1; have := HB.out.2; have := HW.out.2.2.2.2.2; omega
    · intro e; injection e with e; have := HW.out.2.2.2.2.1; have := HW.out.2.1; have := HW.out.2.2.2.2.2; omega
    · have := HW.out.2.2.2.2.1; have := HW.out.2.1; have := HW.out.2.2.2.2.2; omega
  have hZR : Z ≠ R := by have := HW.out.2.2.2.2.1; have := HW.out.2.1; have := HW.out.2.2.2.2.2; omega
  have hXZ : X ≠ Z := by omega
  have P1 := Lib.hid (l1Pick_tm hAB (by omega) A1 n1 c1 (by omega))
  have HO := Lib.hid (And.intro (ho.keep hbV (Nat.le_refl _)) (And.intro (hq.keep hbV (Nat.le_refl _)) (And.intro hn1 (And.intro hn2 (And.intro hx (And.intro hy (And.intro (grown_of_below R hbV) hg)))))))
  have HE := Lib.hid (And.intro hV0 hX)
  have HZ := Lib.hid hZ2
  have HP := Lib.hid hp'
  obtain ⟨⟨x1, x2⟩, x3, x4⟩ := boxTwo_cells hBX
  rw [hV0, hX] at x1 x2
  clear ho hq hn1 hn2 hg hV0 hX hbV hs2 SM hZl hsz hAB hp' hx hy
  go_wp2_with fail
  rw [← HE.out.1, ← HE.out.2]
  refine P1.out.mono ?_
  rintro e w3 ⟨⟨a, rfl⟩, p3, hp3, hA3⟩
  have hd := hA3.drew
  have PB := Lib.hid (fun (W' : World) (h' : TmB V0 W' R p3) => l1Pick_tm h' (by have := HP.out; omega) A1 n1 c1 (by have := HO.out; omega))
  have TB := Lib.hid (fun (W' : World) (q : Nat) (hq : q ≤ p3 + 10) (h' : TmB V0 W' R q) => l7Time_tm h' (by have := HP.out; omega))
  obtain ⟨x1, x2⟩ := hA3.cells hBX hRX
  clear hA3 P1
  go_wp2_with fail
  go_region_held3 (fun w' => w'.cell? ⟨X, 0, none⟩ = some (.slice A1 n1 c1) ∧ w'.cell? ⟨X, 1, none⟩ = some (.slice A2 n2 c2))
    (first | exact TmB.cells (by assumption) hBX hRX | exact tm_set2 (TmB.cells (by assumption) hBX hRX) hXZ)
    (first | (go_at_call 142; refine (PB.out _ (by assumption)).mono ?_; rintro e w8 ⟨⟨b, rfl⟩, p8, hp8, hL8⟩) | (go_at_call 143; refine (TB.out _ p8 hp8 (by assumption)).mono ?_; rintro e w9 ⟨⟨t, rfl⟩, p9, hp9, hL9⟩; obtain ⟨⟨z1, z2⟩, z3, z4⟩ := boxTwo_cells (hL9.block hZ2 hZR)))
  obtain ⟨hoV, hqV, hn1, hn2, hx, hy', hgV, hg⟩ := HO.out
  have hR := HW.out.2.2.2.2.2
  have eW := HW.out.2.2.2.2.1
  have hZe := HW.out.2.1
  have hRb := HB.out.2
  have hg19 := grown_trans2 hg (grown_trans2 hgV hL9.gr)
  have hbR : Below R W w9 := Below.trans (HB.out.1.mono (by omega)) (below_row hg19 (show R ≤ w1.heap.size by omega) (fun r e => by injection e with e; omega))
  rw [hR] at hbR
  have hbw := Below.on HW.out.2.2.1 hbR
  obtain ⟨q1, q2, q4⟩ := tm_end hbw (show w.heap.size ≤ Z by omega) ((hoV.row hL9.gr hRb).less (show Z + 1 ≤ w1.heap.size by omega)) ((hqV.row hL9.gr hRb).less (show Z + 1 ≤ w1.heap.size by omega))
  obtain ⟨⟨k1, k2⟩, _⟩ := boxTwo_cells (boxTwo_set (hL9.block HZ.out hZR) (.slice A1 n1 c1) (.slice A2 n2 c2))
  have HQ := Lib.hid (And.intro q1 (And.intro q2 q4))
  clear hoV hqV hgV hg hg19 hbw hbR q1 q2 q4 hL8 hL9 PB TB
  go_wp2
  refine bodyPost_ret (v := .tuple #[.agg #[.slice A1 n1 c1, .slice A2 n2 c2], .int .i64 a, .int .i64 b, .int .i64 t]) (by simp [results, Try.results55, go_sem, k1, k2]) rfl ?_
  exact ⟨_, _, a, b, t, xs, ss, rfl, HQ.out.1, by omega, HQ.out.2.1, by omega, HQ.out.2.2⟩
set_option maxRecDepth 100000 in
set_option maxHeartbeats 4000000 in
theorem drawSince7_any (A : Option Addr) (n c B : Nat) (bs : List Int) (w : World) (h : Bt w B A n bs) (hB : B ≤ w.heap.size) (hc : n ≤ c) :
    Calls Try.prog 53 #[.slice A n c] w fun e w' => ∃ v v2 a b xs ss, e = .returned (.tuple #[.agg #[v, v2], .int .i64 a, .int .i64 b]) ∧ Own w' w.heap.size v xs ∧ xs.length ≤ 16 ∧ Own w' w.heap.size v2 ss ∧ ss.length ≤ 16 ∧ Below w.heap.size w w' := by
  obtain ⟨W, hW⟩ : ∃ W, W = w.alloc (.cells #[.slice none 0 0, .slice none 0 0] 64) := ⟨_, rfl⟩
  have hbW : Below w.heap.size w W := by rw [hW]; exact timedBox w _ _
  have hZ : W.heap[w.heap.size]? = some (.cells #[.slice none 0 0, .slice none 0 0] 64 (0, 0)) := by rw [hW]; exact World.alloc_heap_new w _
  have eW : W.heap.size = w.heap.size + 1 := by rw [hW]; simp
  have O := Lib.hid (drawTog7_any A n c B bs W (h.below hbW hB) (Nat.le_trans hB hbW.size) hc)
  obtain ⟨Z, hZe⟩ : ∃ Z, Z = w.heap.size := ⟨_, rfl⟩
  rw [← hZe] at hZ
  have HW := Lib.hid (And.intro hW (And.intro hZe (And.intro hbW (And.intro hZ eW))))
  clear h hB hc hW hbW hZ eW hZe
  go_enter Try.func53, Try.ntmps53
  go_wp2_with fail
  rw [← HW.out.1, ← HW.out.2.1]
  refine O.out.mono ?_
  rintro e w2 ⟨v, v2, a, b, t, xs, ss, rfl, ho, hx, hq, hy, hb2⟩
  have hZl : Z < W.heap.size := by have := HW.out.2.2.2.2; have := HW.out.2.1; omega
  have hZ2 := (hb2.block Z hZl).trans HW.out.2.2.2.1
  obtain ⟨A1, c1, e1, -⟩ := ho.form
  obtain ⟨A2, c2, e2, -⟩ := hq.form
  generalize hn1 : xs.length = n1 at e1 hx
  generalize hn2 : ss.length = n2 at e2 hy
  subst e1 e2
  obtain ⟨V0, hV0⟩ : ∃ V0, V0 = w2.alloc (.cells #[.slice A1 n1 c1, .slice A2 n2 c2] 64) := ⟨_, rfl⟩
  have hbV : Below w2.heap.size w2 V0 := by rw [hV0]; exact timedBox w2 _ _
  have hBX : V0.heap[w2.heap.size]? = some (.cells #[.slice A1 n1 c1, .slice A2 n2 c2] 64 (0, 0)) := by rw [hV0]; exact World.alloc_heap_new w2 _
  have hZV := (hbV.block Z (Nat.lt_of_lt_of_le hZl hb2.size)).trans hZ2
  obtain ⟨⟨x1, x2⟩, x3, x4⟩ := boxTwo_cells hBX
  obtain ⟨⟨r1, r2⟩, r3, r4⟩ := boxTwo_cells hZV
  have hne : Z ≠ w2.heap.size := by have := hb2.size; omega
  have hne2 : w2.heap.size ≠ Z := fun e => hne e.symm
  have HQ := Lib.hid (And.intro (ho.keep hbV (Nat.le_refl _)) (And.intro (hq.keep hbV (Nat.le_refl _)) (And.intro (Below.on HW.out.2.2.1 (Below.on hb2 hbV)) (And.intro hZV (And.intro hn1 (And.intro hn2 (And.intro hx hy)))))))
  rw [hV0] at x1 x2 x3 x4 r1 r2 r3 r4
  have HV := Lib.hid hV0
  clear ho hq hb2 hZ2 hn1 hn2 hx hy hbV hBX hZV hV0 O
  go_wp2
  rw [← HV.out]
  obtain ⟨ho, hq, hbw, hZ2, hn1, hn2, hx, hy⟩ := HQ.out
  have hZe := HW.out.2.1
  have eW := HW.out.2.2.2.2
  obtain ⟨q1, q2, q4⟩ := tm_end hbw (show w.heap.size ≤ Z by omega) (ho.less (show Z + 1 ≤ W.heap.size by omega)) (hq.less (show Z + 1 ≤ W.heap.size by omega))
  obtain ⟨⟨k1, k2⟩, _⟩ := boxTwo_cells (boxTwo_set hZ2 (.slice A1 n1 c1) (.slice A2 n2 c2))
  refine bodyPost_ret (v := .tuple #[.agg #[.slice A1 n1 c1, .slice A2 n2 c2], .int .i64 a, .int .i64 b]) (by simp [results, Try.results53, go_sem, k1, k2]) rfl ?_
  exact ⟨_, _, a, b, xs, ss, rfl, q1, by omega, q2, by omega, q4⟩
end Go.Proofs.Ytfafgihfgdpclaa
