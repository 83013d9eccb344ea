/- DrawUndoLog: a drawn log. Condition: none beyond the bytes read. -/
import Derived.Test.YtichcnaomcpnhaaDrawLog
import Derived.Test.YtichcnaomcpnhaaLogParts
namespace Go.Proofs.Ytichcnaomcpnhaa
open Go.RowKit Go.Shelf

theorem drawUndo_any (A : Option Addr) (n c B : Nat) (bs : List Int) (w : World) (h : Bt w B A n bs) (hB : B ≤ w.heap.size) (hc : n ≤ c) :
    Calls Try.prog 9 #[.slice A n c] w fun e w' => ∃ v v2 xs ss, e = .returned (.agg #[v, v2]) ∧ Own w' w.heap.size v xs ∧ xs.length ≤ 16 ∧ OwnQ 68 w' w.heap.size v2 ss ∧ ss.length ≤ 17 ∧ Below w.heap.size w w' := by
  obtain ⟨W, hW⟩ : ∃ W, W = w.alloc (.cells #[.slice none 0 0, .slice none 0 0] 26) := ⟨_, rfl⟩
  have hbW : Below w.heap.size w W := by rw [hW]; exact log_box w _ _
  have hZ : W.heap[w.heap.size]? = some (.cells #[.slice none 0 0, .slice none 0 0] 26 (0, 0)) := by rw [hW]; exact World.alloc_heap_new w _
  have eW : W.heap.size = w.heap.size + 1 := by rw [hW]; simp
  have O := Lib.hid (open_any A n c B bs W (h.below hbW hB) (Nat.le_trans hB hbW.size) hc)
  obtain ⟨Z, hZe⟩ : ∃ Z, Z = w.heap.size := ⟨_, rfl⟩
  rw [← hZe] at hZ
  have HW := Lib.hid (And.intro hW (And.intro hZe (And.intro hbW (And.intro hZ eW))))
  clear h hB hc hW hbW hZ eW hZe
  go_enter Try.func9, Try.ntmps9
  go_wp2_with fail
  rw [← HW.out.1, ← HW.out.2.1]
  refine O.out.mono ?_
  rintro e w1 ⟨rfl, hs, hb⟩
  have SM := Lib.hid (l4Some_any W.heap.size 0 w1 hs (by omega))
  have HB := Lib.hid hb
  clear hs hb
  go_wp2_with fail
  refine SM.out.mono ?_
  rintro e w2 ⟨v, v2, xs, ss, rfl, ho, hx, hq, hy, _, hg⟩
  have hb2 : Below W.heap.size W w2 := ⟨hg.os.trans HB.out.os, hg.tape.trans HB.out.tape, hg.output.trans HB.out.output, Nat.le_trans HB.out.size hg.size, fun k hk => (hg.block k (by have := HB.out.size; omega) (fun e => by injection e with e; omega)).trans (HB.out.block k hk)⟩
  have hZ2 := (hb2.block Z (by have := HW.out.2.2.2.2; have := HW.out.2.1; omega)).trans HW.out.2.2.2.1
  obtain ⟨⟨r1, r2⟩, r3, r4⟩ := boxTwo_cells hZ2
  obtain ⟨A1, c1, e1, -⟩ := ho.form
  obtain ⟨A2, c2, e2, -⟩ := hq.form
  generalize hn1 : xs.length = n1 at e1 hx
  generalize hn2 : ss.length = n2 at e2 hy
  subst e1 e2
  have HQ := Lib.hid (And.intro ho (And.intro hq (And.intro (Below.on HW.out.2.2.1 hb2) (And.intro hZ2 (And.intro hn1 (And.intro hn2 (And.intro hx (And.intro hy HB.out.size))))))))
  clear ho hq hb2 hZ2 hn1 hn2 hx hy hg
  go_wp2
  obtain ⟨ho, hq, hbw, hZ2, hn1, hn2, hx, hy, hsz⟩ := HQ.out
  have hZe := HW.out.2.1
  have eW := HW.out.2.2.2.2
  obtain ⟨q1, q2, _, q4⟩ := copy_end hbw (show w.heap.size ≤ Z by omega) (ho.less (show Z + 1 ≤ w1.heap.size by omega)) (hq.less (show Z + 1 ≤ w1.heap.size by omega))
  obtain ⟨⟨k1, k2⟩, _⟩ := boxTwo_cells (boxTwo_set hZ2 (.slice A1 n1 c1) (.slice A2 n2 c2))
  refine bodyPost_ret (v := .agg #[.slice A1 n1 c1, .slice A2 n2 c2]) (by simp [results, Try.results9, go_sem, k1, k2]) rfl ?_
  exact ⟨_, _, xs, ss, rfl, q1, by omega, q2, by omega, q4⟩
end Go.Proofs.Ytichcnaomcpnhaa
