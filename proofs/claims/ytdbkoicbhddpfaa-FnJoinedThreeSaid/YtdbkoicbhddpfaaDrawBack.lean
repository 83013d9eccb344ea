/- Drawn logs with a place to go back to: the model's DrawBackTo. Condition: none beyond the bytes read. -/
import Derived.Test.YtdbkoicbhddpfaaDrawLog
namespace Go.Proofs.Ytdbkoicbhddpfaa
open Go.RowKit Go.Shelf

/-- The world V has come from V0 by reading the source in R alone. -/
structure AtB (V0 V : World) (R p : Nat) : Prop where
  gr : V0.grownBy V (some R)
  src : Src V R p
section
variable {V0 V V' : World} {R p : Nat}
theorem AtB.block (h : AtB V0 V R p) {X : Nat} {o : Obj} (h0 : V0.heap[X]? = some o) (hne : X ≠ R) : V.heap[X]? = some o :=
  (h.gr.block X (Array.getElem?_eq_some_iff.1 h0).1 (fun e => by injection e with e; omega)).trans h0
theorem AtB.below (h : AtB V0 V R p) (hb : Below V.heap.size V V') : AtB V0 V' R p :=
  ⟨grown_trans2 h.gr (grown_of_below R hb), h.src.below hb h.src.lt⟩
theorem AtB.alloc (h : AtB V0 V R p) (o : Obj) : AtB V0 (V.alloc o) R p := h.below ((Below.refl _ _).alloc (Nat.le_refl _) o)
theorem AtB.drew (h : AtB V0 V R p) : AtB V0 V.drew R p := h.below ⟨rfl, rfl, rfl, Nat.le_refl _, fun _ _ => rfl⟩
theorem AtB.cells (h : AtB V0 V R p) {X : Nat} {v v2 : Value} {t : TypeId} (h0 : V0.heap[X]? = some (.cells #[v, v2] t (0, 0))) (hne : X ≠ R) : V.cell? ⟨X, 0, none⟩ = some v ∧ V.cell? ⟨X, 1, none⟩ = some v2 :=
  (boxTwo_cells (h.block h0 hne)).1
theorem pick_b (h : AtB V0 V R p) (hp : p ≤ 100000) (n : Int) :
    Calls Try.prog 94 #[.pointer (some ⟨R, 0, none⟩), .int .i64 n] V fun e w' => (∃ x : Nat, e = .returned (.int .i64 (x : Int)) ∧ (1 ≤ n → (x : Int) < n)) ∧ AtB V0 w' R (p + 1) := by
  refine (pick_any R p n V h.src hp).mono ?_
  rintro e w' ⟨h1, h2, h3⟩
  exact ⟨h1, grown_trans2 h.gr h3, h2⟩
theorem num_b (h : AtB V0 V R p) (hp : p ≤ 100000) {base : Nat} {u : Value} {zs : List Int} (ho : Own V base u zs) (hb : R < base) (h1 : 1 ≤ zs.length) (h2 : zs.length ≤ 100) :
    Calls Try.prog 93 #[.pointer (some ⟨R, 0, none⟩), u] V fun e w' => (∃ k, e = .returned (.int .i64 k)) ∧ AtB V0 w' R (p + 1) := by
  refine (num_any R p base u zs V h.src hp ho hb h1 h2).mono ?_
  rintro e w' ⟨⟨j, _, h1⟩, h2, h3⟩
  exact ⟨⟨_, h1⟩, grown_trans2 h.gr h3, h2⟩
theorem own_lit6 {w : World} {base : Nat} (a b c d e f : Int) (hb : base ≤ w.heap.size) : Own (w.alloc (.cells #[.int .i64 a, .int .i64 b, .int .i64 c, .int .i64 d, .int .i64 e, .int .i64 f] 3)) base (.slice (some ⟨w.heap.size, 0, none⟩) 6 6) [a, b, c, d, e, f] := by
  simpa using Own.lit w base [a, b, c, d, e, f] hb (by simp)
theorem cells_set2 {W : World} {X Z : Nat} {v v2 a b : Value} (h : W.cell? ⟨X, 0, none⟩ = some v ∧ W.cell? ⟨X, 1, none⟩ = some v2) (hne : X ≠ Z) : ((W.setCell ⟨Z, 0, none⟩ a).setCell ⟨Z, 1, none⟩ b).cell? ⟨X, 0, none⟩ = some v ∧ ((W.setCell ⟨Z, 0, none⟩ a).setCell ⟨Z, 1, none⟩ b).cell? ⟨X, 1, none⟩ = some v2 := by
  have hg := boxTwo_grown W Z a b
  have hlt := World.block_lt_of_cell? W _ h.1
  have e := hg.block X hlt (fun e => by injection e with e; omega)
  exact ⟨(World.cell?_of_block e).trans h.1, (World.cell?_of_block e).trans h.2⟩
end
set_option maxRecDepth 100000 in
set_option maxHeartbeats 4000000 in
theorem drawBack_any (A : Option Addr) (n c B : Nat) (bs : List Int) (w : World) (h : Bt w B A n bs) (hB : B ≤ w.heap.size) (hc : n ≤ c) :
    Calls Try.prog 29 #[.slice A n c] w fun e w' => ∃ v v2 k xs ss, e = .returned (.tuple #[.agg #[v, v2], .int .i64 k]) ∧ Own w' w.heap.size v xs ∧ xs.length ≤ 16 ∧ OwnQ 45 w' w.heap.size v2 ss ∧ ss.length ≤ 17 ∧ Below w.heap.size w w' := by
  obtain ⟨W, hW⟩ : ∃ W, W = w.alloc (.cells #[.slice none 0 0, .slice none 0 0] 26) := ⟨_, rfl⟩
  have hbW : Below w.heap.size w W := by rw [hW]; exact log_box w _ _
  have hZ : W.heap[w.heap.size]? = some (.cells #[.slice none 0 0, .slice none 0 0] 26 (0, 0)) := by rw [hW]; exact World.alloc_heap_new w _
  have eW : W.heap.size = w.heap.size + 1 := by rw [hW]; simp
  have O := Lib.hid (open_any A n c B bs W (h.below hbW hB) (Nat.le_trans hB hbW.size) hc)
  obtain ⟨Z, hZe⟩ : ∃ Z, Z = w.heap.size := ⟨_, rfl⟩
  obtain ⟨R, hR⟩ : ∃ R, R = W.heap.size := ⟨_, rfl⟩
  rw [← hZe] at hZ
  rw [← hR] at O
  have HW := Lib.hid (And.intro hW (And.intro hZe (And.intro hbW (And.intro hZ (And.intro eW hR)))))
  clear h hB hc hW hbW hZ eW hZe hR
  go_enter Try.func29, Try.ntmps29
  go_wp2_with fail
  rw [← HW.out.1, ← HW.out.2.1]
  refine O.out.mono ?_
  rintro e w1 ⟨rfl, hs, hb⟩
  have hRl := hs.lt
  have SM := Lib.hid (l4Some_any R 0 w1 hs (by omega))
  have HB := Lib.hid (And.intro hb hRl)
  clear hs hb hRl
  go_wp2_with fail
  refine SM.out.mono ?_
  rintro e w2 ⟨v, v2, xs, ss, rfl, ho, hx, hq, hy, ⟨p', hp', hs2⟩, hg⟩
  obtain ⟨A1, c1, e1, -⟩ := ho.form
  obtain ⟨A2, c2, e2, -⟩ := hq.form
  generalize hn1 : xs.length = n1 at e1 hx
  generalize hn2 : ss.length = n2 at e2 hy
  subst e1 e2
  obtain ⟨V0, hV0⟩ : ∃ V0, V0 = w2.alloc (.cells #[.slice A1 n1 c1, .slice A2 n2 c2] 26) := ⟨_, rfl⟩
  obtain ⟨X, hX⟩ : ∃ X, X = w2.heap.size := ⟨_, rfl⟩
  have hbV : Below w2.heap.size w2 V0 := by rw [hV0]; exact log_box w2 _ _
  have hBX : V0.heap[X]? = some (.cells #[.slice A1 n1 c1, .slice A2 n2 c2] 26 (0, 0)) := by rw [hV0, hX]; exact World.alloc_heap_new w2 _
  have hAB : AtB V0 V0 R p' := ⟨World.grownBy.refl _ _, hs2.below hbV hs2.lt⟩
  have hAD := hAB.drew
  have hsz := hg.size
  have hRX : X ≠ R := by have := HB.out.2; omega
  have hRb : R < w1.heap.size := HB.out.2
  have hWR : R = W.heap.size := HW.out.2.2.2.2.2
  have hZl : Z < w2.heap.size := by have := HW.out.2.2.2.2.1; have := HW.out.2.1; omega
  have hZ2 : V0.heap[Z]? = some (.cells #[.slice none 0 0, .slice none 0 0] 26 (0, 0)) := by
    refine (hbV.block Z hZl).trans ((hg.block Z ?_ ?_).trans ((HB.out.1.block Z ?_).trans HW.out.2.2.2.1))
    · have := HW.out.2.2.2.2.1; have := HW.out.2.1; omega
    · intro e; injection e with e; have := HW.out.2.2.2.2.1; have := HW.out.2.1; omega
    · have := HW.out.2.2.2.2.1; have := HW.out.2.1; omega
  have hZR : Z ≠ R := by have := HW.out.2.2.2.2.1; have := HW.out.2.1; omega
  have hXZ : X ≠ Z := by omega
  have PB := Lib.hid (fun (W' : World) (q : Nat) (h' : AtB V0 W' R q) (hq : q ≤ p' + 1) (M : Int) => pick_b h' (show q ≤ 100000 by omega) M)
  have NB := Lib.hid (fun (W' : World) (a b : Int) (h' : AtB V0 W' R (p' + 1 + 1)) => num_b (h'.alloc (.cells #[.int .i64 0, .int .i64 a, .int .i64 (n2 : Int), .int .i64 b, .int .i64 (-1), .int .i64 16] 3)) (show p' + 1 + 1 ≤ 100000 by omega) (own_lit6 0 a n2 b (-1) 16 (Nat.le_refl W'.heap.size)) h'.src.lt (by simp) (by simp))
  have HO := Lib.hid (And.intro (ho.keep hbV (Nat.le_refl _)) (And.intro (hq.keep hbV (Nat.le_refl _)) (And.intro hn1 (And.intro hn2 (And.intro hx (And.intro hy (And.intro (grown_of_below R hbV) hg)))))))
  have HE := Lib.hid (And.intro hV0 hX)
  have HZ := Lib.hid hZ2
  have HBX := Lib.hid hBX
  obtain ⟨⟨x1, x2⟩, x3, x4⟩ := boxTwo_cells hBX
  clear ho hq hn1 hn2 hx hg hV0 hX hbV hs2 SM hZl hRb hWR hsz
  go_wp2_with fail
  rw [← HE.out.1, ← HE.out.2]
  go_region_held3 (fun w' => w'.cell? ⟨X, 0, none⟩ = some (.slice A1 n1 c1) ∧ w'.cell? ⟨X, 1, none⟩ = some (.slice A2 n2 c2))
    (first | exact AtB.cells (by assumption) hBX hRX | exact AtB.cells (AtB.alloc (by assumption) _) hBX hRX | exact cells_set2 (AtB.cells (by assumption) hBX hRX) hXZ)
    (first | (go_at_call 94; refine (PB.out _ _ (by assumption) (by omega) _).mono ?_; rintro e w8 ⟨⟨j, rfl, hj⟩, hL8⟩) | (go_at_call 93; refine (NB.out _ _ _ (by assumption)).mono ?_; rintro e w9 ⟨⟨k, rfl⟩, hL9⟩; obtain ⟨⟨z1, z2⟩, z3, z4⟩ := boxTwo_cells (hL9.block hZ2 hZR)))
  obtain ⟨hoV, hqV, hn1, hn2, hx, hy', hgV, hg⟩ := HO.out
  have hR := HW.out.2.2.2.2.2
  have eW := HW.out.2.2.2.2.1
  have hZe := HW.out.2.1
  have hRb := HB.out.2
  have hg19 := grown_trans2 hg (grown_trans2 hgV hL9.gr)
  have hbR : Below R W w9 := HB.out.1.trans (below_row hg19 (show R ≤ w1.heap.size by omega) (fun r e => by injection e with e; omega))
  rw [hR] at hbR
  have hbw := Below.on HW.out.2.2.1 hbR
  obtain ⟨q1, q2, _, q4⟩ := copy_end hbw (show w.heap.size ≤ Z by omega) ((hoV.row hL9.gr hRb).less (show Z + 1 ≤ w1.heap.size by omega)) ((hqV.row hL9.gr hRb).less (show Z + 1 ≤ w1.heap.size by omega))
  obtain ⟨⟨k1, k2⟩, _⟩ := boxTwo_cells (boxTwo_set (hL9.block HZ.out hZR) (.slice A1 n1 c1) (.slice A2 n2 c2))
  have HQ := Lib.hid (And.intro q1 (And.intro q2 q4))
  clear hoV hqV hgV hg hg19 hbw hbR q1 q2 q4 hL8 hL9 PB NB
  go_wp2
  refine bodyPost_ret (v := .tuple #[.agg #[.slice A1 n1 c1, .slice A2 n2 c2], .int .i64 k]) (by simp [results, Try.results29, go_sem, k1, k2]) rfl ?_
  exact ⟨_, _, k, xs, ss, rfl, HQ.out.1, by omega, HQ.out.2.1, by omega, HQ.out.2.2⟩
end Go.Proofs.Ytdbkoicbhddpfaa
