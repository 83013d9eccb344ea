/- Drawn logs with two items: the model's l4Draw, DrawJoinLog, DrawJoinedAt. Condition: none beyond the bytes read. -/
import Derived.Test.YtichcnaomcpnhaaDrawBack
namespace Go.Proofs.Ytichcnaomcpnhaa
open Go.RowKit Go.Shelf

theorem l1Pick_b {V0 V : World} {R p : Nat} (h : AtB V0 V R p) (hp : p ≤ 90000) (A : Option Addr) (n c : Nat) (hn : n ≤ 17) :
    Calls Try.prog 63 #[.pointer (some ⟨R, 0, none⟩), .slice A n c] V fun e w' => (∃ x : Int, e = .returned (.int .i64 x)) ∧ ∃ p', p' ≤ p + 10 ∧ AtB V0 w' R p' := by
  refine (l1Pick_any R p n c A V h.src hp hn).mono ?_
  rintro e w' ⟨⟨x, h1, _⟩, ⟨p', h2, h3⟩, h4⟩
  exact ⟨⟨x, h1⟩, p', h2, grown_trans2 h.gr h4, h3⟩
set_option maxRecDepth 100000 in
set_option maxHeartbeats 4000000 in
theorem l4Draw_any (R p : Nat) (w : World) (hs0 : Src w R p) (hp0 : p ≤ 50000) :
    Calls Try.prog 29 #[.pointer (some ⟨R, 0, none⟩)] w fun e w' => ∃ v v2 a b xs ss, e = .returned (.tuple #[.agg #[v, v2], .int .i64 a, .int .i64 b]) ∧ Own w' w.heap.size v xs ∧ xs.length ≤ 16 ∧ OwnQ 68 w' w.heap.size v2 ss ∧ ss.length ≤ 17 ∧ w.grownBy w' (some R) := by
  obtain ⟨W, hW⟩ : ∃ W, W = w.alloc (.cells #[.slice none 0 0, .slice none 0 0] 26) := ⟨_, rfl⟩
  have hbW : Below w.heap.size w W := by rw [hW]; exact log_box w _ _
  have hZ : W.heap[w.heap.size]? = some (.cells #[.slice none 0 0, .slice none 0 0] 26 (0, 0)) := by rw [hW]; exact World.alloc_heap_new w _
  have eW : W.heap.size = w.heap.size + 1 := by rw [hW]; simp
  obtain ⟨Z, hZe⟩ : ∃ Z, Z = w.heap.size := ⟨_, rfl⟩
  have hRZ : R < Z := by have := hs0.lt; omega
  have SM := Lib.hid (l4Some_any R p W (hs0.below hbW hs0.lt) (by omega))
  rw [← hZe] at hZ
  have HW := Lib.hid (And.intro hW (And.intro hZe (And.intro hbW (And.intro hZ (And.intro eW hRZ)))))
  clear hs0 hW hbW hZ eW hZe hRZ
  go_enter Try.func29, Try.ntmps29
  go_wp2_with fail
  rw [← HW.out.1, ← HW.out.2.1]
  refine SM.out.mono ?_
  rintro e w2 ⟨v, v2, xs, ss, rfl, ho, hx, hq, hy, ⟨p', hp', hs2⟩, hg⟩
  obtain ⟨A1, c1, e1, -⟩ := ho.form
  obtain ⟨A2, c2, e2, -⟩ := hq.form
  generalize hn1 : xs.length = n1 at e1 hx
  generalize hn2 : ss.length = n2 at e2 hy
  subst e1 e2
  obtain ⟨V0, hV0⟩ : ∃ V0, V0 = w2.alloc (.cells #[.slice A1 n1 c1, .slice A2 n2 c2] 26) := ⟨_, rfl⟩
  obtain ⟨X, hX⟩ : ∃ X, X = w2.heap.size := ⟨_, rfl⟩
  have hbV : Below w2.heap.size w2 V0 := by rw [hV0]; exact log_box w2 _ _
  have hBX : V0.heap[X]? = some (.cells #[.slice A1 n1 c1, .slice A2 n2 c2] 26 (0, 0)) := by rw [hV0, hX]; exact World.alloc_heap_new w2 _
  have hAB : AtB V0 V0 R p' := ⟨World.grownBy.refl _ _, hs2.below hbV hs2.lt⟩
  have hsz := hg.size
  have eW := HW.out.2.2.2.2.1
  have hZe := HW.out.2.1
  have hRZ := HW.out.2.2.2.2.2
  have hRX : X ≠ R := by omega
  have hZR : Z ≠ R := by omega
  have hXZ : X ≠ Z := by omega
  have hZ2 : V0.heap[Z]? = some (.cells #[.slice none 0 0, .slice none 0 0] 26 (0, 0)) :=
    (hbV.block Z (by omega)).trans ((hg.block Z (by omega) (fun e => by injection e with e; omega)).trans HW.out.2.2.2.1)
  have P1 := Lib.hid (l1Pick_b hAB (by omega) A1 n1 c1 (by omega))
  have HO := Lib.hid (And.intro (ho.keep hbV (Nat.le_refl _)) (And.intro (hq.keep hbV (Nat.le_refl _)) (And.intro hn1 (And.intro hn2 (grown_trans2 (grown_of_below R HW.out.2.2.1) (grown_trans2 hg (grown_of_below R hbV)))))))
  have HE := Lib.hid (And.intro hV0 hX)
  have HZ := Lib.hid hZ2
  have HP := Lib.hid (And.intro hp' hsz)
  obtain ⟨⟨x1, x2⟩, x3, x4⟩ := boxTwo_cells hBX
  rw [hV0, hX] at x1 x2
  clear ho hq hn1 hn2 hg hV0 hX hbV hs2 SM hsz hAB hp' eW hZe hRZ
  go_wp2_with fail
  rw [← HE.out.1, ← HE.out.2]
  refine P1.out.mono ?_
  rintro e w3 ⟨⟨a, rfl⟩, p3, hp3, hA3⟩
  have hd := hA3.drew
  have PB := Lib.hid (fun (W' : World) (h' : AtB V0 W' R p3) => l1Pick_b h' (by have := HP.out; omega) A1 n1 c1 (by omega))
  obtain ⟨x1, x2⟩ := hA3.cells hBX hRX
  clear hA3 P1
  go_wp2_with fail
  go_region_held3 (fun w' => w'.cell? ⟨X, 0, none⟩ = some (.slice A1 n1 c1) ∧ w'.cell? ⟨X, 1, none⟩ = some (.slice A2 n2 c2))
    (first | exact AtB.cells (by assumption) hBX hRX | exact cells_set2 (AtB.cells (by assumption) hBX hRX) hXZ)
    (first | (go_at_call 63; refine (PB.out _ (by assumption)).mono ?_; rintro e w9 ⟨⟨b, rfl⟩, p9, hp9, hL9⟩; obtain ⟨⟨z1, z2⟩, z3, z4⟩ := boxTwo_cells (hL9.block hZ2 hZR)))
  obtain ⟨hoV, hqV, hn1, hn2, hg0⟩ := HO.out
  have eW := HW.out.2.2.2.2.1
  have hZe := HW.out.2.1
  have hRZ := HW.out.2.2.2.2.2
  have hg09 := grown_trans2 hg0 hL9.gr
  have hsz9 := hg09.size
  have hgZ := boxTwo_grown w9 Z (.slice A1 n1 c1) (.slice A2 n2 c2)
  have q1 := ((hoV.row hL9.gr (by omega)).row hgZ (show Z < W.heap.size by omega)).less (show w.heap.size ≤ W.heap.size by omega)
  have q2 := ((hqV.row hL9.gr (by omega)).row hgZ (show Z < W.heap.size by omega)).less (show w.heap.size ≤ W.heap.size by omega)
  have q4 := grown_below hg09 (below_row hgZ hsz9 (fun r e => by injection e with e; omega))
  obtain ⟨⟨k1, k2⟩, _⟩ := boxTwo_cells (boxTwo_set (hL9.block HZ.out hZR) (.slice A1 n1 c1) (.slice A2 n2 c2))
  have HQ := Lib.hid (And.intro q1 (And.intro q2 q4))
  clear hoV hqV hg0 hg09 hgZ q1 q2 q4 hL9 PB hd
  go_wp2
  refine bodyPost_ret (v := .tuple #[.agg #[.slice A1 n1 c1, .slice A2 n2 c2], .int .i64 a, .int .i64 b]) (by simp [results, Try.results29, go_sem, k1, k2]) rfl ?_
  exact ⟨_, _, a, b, xs, ss, rfl, HQ.out.1, by omega, HQ.out.2.1, by omega, HQ.out.2.2⟩
set_option maxRecDepth 100000 in
set_option maxHeartbeats 2000000 in
theorem drawJoinLog_any (A : Option Addr) (n c B : Nat) (bs : List Int) (w : World) (h : Bt w B A n bs) (hB : B ≤ w.heap.size) (hc : n ≤ c) :
    Calls Try.prog 6 #[.slice A n c] w fun e w' => ∃ v v2 a b xs ss, e = .returned (.tuple #[.agg #[v, v2], .int .i64 a, .int .i64 b]) ∧ Own w' w.heap.size v xs ∧ xs.length ≤ 16 ∧ OwnQ 68 w' w.heap.size v2 ss ∧ ss.length ≤ 17 ∧ Below w.heap.size w w' := by
  obtain ⟨W, hW⟩ : ∃ W, W = w.alloc (.cells #[.slice none 0 0, .slice none 0 0] 26) := ⟨_, rfl⟩
  have hbW : Below w.heap.size w W := by rw [hW]; exact log_box w _ _
  have hZ : W.heap[w.heap.size]? = some (.cells #[.slice none 0 0, .slice none 0 0] 26 (0, 0)) := by rw [hW]; exact World.alloc_heap_new w _
  have eW : W.heap.size = w.heap.size + 1 := by rw [hW]; simp
  have O := Lib.hid (open_any A n c B bs W (h.below hbW hB) (Nat.le_trans hB hbW.size) hc)
  obtain ⟨Z, hZe⟩ : ∃ Z, Z = w.heap.size := ⟨_, rfl⟩
  rw [← hZe] at hZ
  have HW := Lib.hid (And.intro hW (And.intro hZe (And.intro hbW (And.intro hZ eW))))
  clear h hB hc hW hbW hZ eW hZe
  go_enter Try.func6, Try.ntmps6
  go_wp2_with fail
  rw [← HW.out.1, ← HW.out.2.1]
  refine O.out.mono ?_
  rintro e w1 ⟨rfl, hs, hb⟩
  have SM := Lib.hid (l4Draw_any W.heap.size 0 w1 hs (by omega))
  have HB := Lib.hid hb
  clear hs hb
  go_wp2_with fail
  refine SM.out.mono ?_
  rintro e w2 ⟨v, v2, a, b, xs, ss, rfl, ho, hx, hq, hy, hg⟩
  have hb2 : Below W.heap.size W w2 := ⟨hg.os.trans HB.out.os, hg.tape.trans HB.out.tape, hg.output.trans HB.out.output, Nat.le_trans HB.out.size hg.size, fun k hk => (hg.block k (by have := HB.out.size; omega) (fun e => by injection e with e; omega)).trans (HB.out.block k hk)⟩
  have hZ2 := (hb2.block Z (by have := HW.out.2.2.2.2; have := HW.out.2.1; omega)).trans HW.out.2.2.2.1
  obtain ⟨⟨r1, r2⟩, r3, r4⟩ := boxTwo_cells hZ2
  obtain ⟨A1, c1, e1, -⟩ := ho.form
  obtain ⟨A2, c2, e2, -⟩ := hq.form
  generalize hn1 : xs.length = n1 at e1 hx
  generalize hn2 : ss.length = n2 at e2 hy
  subst e1 e2
  have HQ := Lib.hid (And.intro ho (And.intro hq (And.intro (Below.on HW.out.2.2.1 hb2) (And.intro hZ2 (And.intro hn1 (And.intro hn2 (And.intro hx (And.intro hy HB.out.size))))))))
  clear ho hq hb2 hZ2 hn1 hn2 hx hy hg
  go_wp2
  obtain ⟨ho, hq, hbw, hZ2, hn1, hn2, hx, hy, hsz⟩ := HQ.out
  have hZe := HW.out.2.1
  have eW := HW.out.2.2.2.2
  obtain ⟨q1, q2, _, q4⟩ := copy_end hbw (show w.heap.size ≤ Z by omega) (ho.less (show Z + 1 ≤ w1.heap.size by omega)) (hq.less (show Z + 1 ≤ w1.heap.size by omega))
  obtain ⟨⟨k1, k2⟩, _⟩ := boxTwo_cells (boxTwo_set hZ2 (.slice A1 n1 c1) (.slice A2 n2 c2))
  refine bodyPost_ret (v := .tuple #[.agg #[.slice A1 n1 c1, .slice A2 n2 c2], .int .i64 a, .int .i64 b]) (by simp [results, Try.results6, go_sem, k1, k2]) rfl ?_
  exact ⟨_, _, a, b, xs, ss, rfl, q1, by omega, q2, by omega, q4⟩
end Go.Proofs.Ytichcnaomcpnhaa