/- The walk of FnTimed: for every row of bytes the law returns true. -/
import Derived.Test.YtmkdiifjecnokaaGreatTimesLaw
import Derived.Test.YtmkdiifjecnokaaGreatSinceAt
import Derived.Test.YtmkdiifjecnokaaGreatJoinAll
import Derived.Test.YtmkdiifjecnokaaGreatTimedIn
import Derived.Test.YtmkdiifjecnokaaGreatLr
import Derived.Deep.RegionHeld3
namespace Go.Proofs.YtmkdiifjecnokaaGreat
open Go.RowKit Go.Shelf

section
variable {p : Nat} {qs : List (Int × Int)}
theorem tl_valid (hv : logB (p : Int) qs = true) : tmB (upk p (natP qs) qs.length) (tmTo p (natP qs) qs.length) = true := by
  obtain ⟨⟨p1, p16⟩, hin, h24, hpl⟩ := tmOf_parts hv
  rw [Int.toNat_natCast] at p1 p16 hin
  rw [← hpl]
  exact tmTo_valid p1 p16 hin h24 (Nat.le_refl _)
theorem tl_ask (hv : logB (p : Int) qs = true) {i : Nat} (hi : i ≤ qs.length) : askB (upk p (natP qs) qs.length) (tmTo p (natP qs) qs.length) (i : Int) = true := by
  obtain ⟨⟨p1, p16⟩, hin, h24, hpl⟩ := tmOf_parts hv
  unfold askB
  rw [tl_valid hv, decide_eq_true (by omega)]
  rfl
theorem tl_at (hv : logB (p : Int) qs = true) {i : Nat} (hi : i ≤ qs.length) : atL (upk p (natP qs) qs.length) (tmTo p (natP qs) qs.length) (i : Int) = upk p (natP qs) i := by
  obtain ⟨⟨p1, p16⟩, hin, h24, hpl⟩ := tmOf_parts hv
  rw [Int.toNat_natCast] at p1 p16 hin
  rw [← hpl, at_to p1 p16 hin h24 i _ (Nat.le_refl _), Nat.min_eq_left (by omega)]
theorem tl_forest (hv : logB (p : Int) qs = true) {i : Nat} (hi : i ≤ qs.length) : faL (upk p (natP qs) qs.length) (tmTo p (natP qs) qs.length) (i : Int) = upk p (natP qs) i := by
  rw [faL_yes (tl_ask hv hi), tl_at hv hi]
theorem tl_join (hv : logB (p : Int) qs = true) {i : Nat} (_hi : i ≤ qs.length) : jaB (roots p) 1 (qs.take i) = true ∧ jaN (roots p) 1 (qs.take i) = upk p (natP qs) i := by
  obtain ⟨⟨p1, p16⟩, hin, h24, hpl⟩ := tmOf_parts hv
  rw [Int.toNat_natCast] at p1 p16 hin
  obtain ⟨hn, hk⟩ := usB_parts hv
  obtain ⟨a1, a2⟩ := okQ_parts hk
  have ho : okQ (p : Int) (qs.take i) = true := okQ_of (by rw [List.length_take]; omega) fun x hx => a2 x (List.mem_of_mem_take hx)
  have hj : jaB (roots p) 1 (qs.take i) = true := by
    unfold jaB
    rw [roots_fv p1 p16, roots_len, ho]
    rfl
  exact ⟨hj, by rw [jaN_yes hj, natP_take]; rfl⟩
theorem tl_classes (hv : logB (p : Int) qs = true) {i : Nat} (hi : i ≤ qs.length) : caN (upk p (natP qs) qs.length) (tmTo p (natP qs) qs.length) (i : Int) = ccN (p : Int) (qs.take i) := by
  obtain ⟨⟨p1, p16⟩, hin, h24, hpl⟩ := tmOf_parts hv
  rw [Int.toNat_natCast] at p1 p16 hin
  rw [ca_at hv (by omega)]
  have hs := cAt_sum p1 p16 hin (k := i) (by omega)
  have h1 := (tm_first hv hi).1
  have hl : (qs.take i).length = i := by rw [List.length_take]; omega
  unfold ccN cAt
  rw [if_pos (show usB (p : Int) (qs.take i) = true from h1), usN_yes (show usB (p : Int) (qs.take i) = true from h1), hl, natP_take, Int.toNat_natCast, useTo_take, Nat.min_eq_left (by omega)]
  omega
theorem tl_since (hv : logB (p : Int) qs = true) {k : Nat} (hk : k < qs.length) : 0 ≤ sinceN (upk p (natP qs) qs.length) (tmTo p (natP qs) qs.length) (qs[k]?.getD (0, 0)).1 (qs[k]?.getD (0, 0)).2 := by
  obtain ⟨⟨p1, p16⟩, hin, h24, hpl⟩ := tmOf_parts hv
  rw [Int.toNat_natCast] at p1 p16 hin
  obtain ⟨hn, hok⟩ := usB_parts hv
  obtain ⟨e1, e2⟩ := okQ_get hok hk
  have hp := hin.get (k := k) (by omega)
  rcases since_cases (tl_valid hv) (qs[k]?.getD (0, 0)).1 (qs[k]?.getD (0, 0)).2 with ⟨_, h⟩ | ⟨x, _, h, _⟩
  · have := h (k + 1) (by omega)
    unfold tgAt at this
    rw [tl_at hv (show k + 1 ≤ qs.length by omega)] at this
    have ht : togB (upk p (natP qs) (k + 1)) (qs[k]?.getD (0, 0)).1 (qs[k]?.getD (0, 0)).2 = true := by
      rw [tog_iff (upk_fv p1 p16 hin (k + 1)), e1, e2, upk_len]
      refine ⟨by omega, by omega, ?_⟩
      rw [Int.toNat_natCast, Int.toNat_natCast]
      unfold upk
      rw [allL_succ _ _ (by omega)]
      exact joinL_tog (allL_fv (roots_fv p1 p16) 1 (by rw [roots_len]; exact hin.take)) (by rw [allL_len, roots_len]; exact hp.1) (by rw [allL_len, roots_len]; exact hp.2) 1
    rw [ht] at this
    cases this
  · rw [h]
    omega
end

section
variable {p m : Nat} {qs : List (Int × Int)} {A A' A2 A3 : Option Addr} {c c' c2 c3 B : Nat} {w : World} {us ts : List Int}
theorem tlc_forest (hv : logB (p : Int) qs = true) {i : Nat} (hi : i ≤ qs.length) (hus : us = upk p (natP qs) qs.length) (hts : ts = tmTo p (natP qs) qs.length) (hp : p ≤ 16) (h2 : Rd w B A2 p us) (h3 : Rd w B A3 p ts) (hB : B ≤ w.heap.size) :
    Calls Tryz.prog 9 #[.agg #[.slice A2 p c2, .slice A3 p c3], .int .i64 (i : Int)] w fun e w' => ∃ A c, e = .returned (.tuple #[.slice A p c, .bool true]) ∧ Rd w' w'.heap.size A p (upk p (natP qs) i) ∧ Below w.heap.size w w' := by
  have := rd2_of (implForestAt_any A2 A3 p c2 p c3 B (i : Int) us ts w h2 h3 hB (by omega) (by omega))
  rw [hus, hts, tl_ask hv hi, tl_forest hv hi, upk_len] at this
  exact this
theorem tlc_classes (hv : logB (p : Int) qs = true) {i : Nat} (hi : i ≤ qs.length) (hus : us = upk p (natP qs) qs.length) (hts : ts = tmTo p (natP qs) qs.length) (hp : p ≤ 16) (h2 : Rd w B A2 p us) (h3 : Rd w B A3 p ts) (hB : B ≤ w.heap.size) :
    Calls Tryz.prog 12 #[.agg #[.slice A2 p c2, .slice A3 p c3], .int .i64 (i : Int)] w fun e w' => e = .returned (.int .i64 (ccN (p : Int) (qs.take i))) ∧ Below w.heap.size w w' := by
  have := implClassesAt_any A2 A3 p c2 p c3 B (i : Int) us ts w h2 h3 hB (by omega) (by omega)
  rw [hus, hts, tl_classes hv hi] at this
  exact this
theorem tlc_since (hv : logB (p : Int) qs = true) {k : Nat} (hk : k < qs.length) (hus : us = upk p (natP qs) qs.length) (hts : ts = tmTo p (natP qs) qs.length) (hp : p ≤ 16) (h2 : Rd w B A2 p us) (h3 : Rd w B A3 p ts) (hB : B ≤ w.heap.size) :
    Calls Tryz.prog 14 #[.agg #[.slice A2 p c2, .slice A3 p c3], .int .i64 (qs[k]?.getD (0, 0)).1, .int .i64 (qs[k]?.getD (0, 0)).2] w fun e w' => ∃ x : Int, e = .returned (.int .i64 x) ∧ 0 ≤ x ∧ Below w.heap.size w w' := by
  have h := tl_since hv hk
  rw [← hus, ← hts] at h
  exact (implSince_any A2 A3 p c2 p c3 B _ _ us ts w h2 h3 hB (by omega) (by omega)).mono fun e w' ⟨he, hb⟩ => ⟨_, he, h, hb⟩
theorem tlc_valid (hv : logB (p : Int) qs = true) (hus : us = upk p (natP qs) qs.length) (hts : ts = tmTo p (natP qs) qs.length) (hp : p ≤ 16) (h2 : Rd w B A2 p us) (h3 : Rd w B A3 p ts) (hB : B ≤ w.heap.size) :
    Calls Tryz.prog 15 #[.agg #[.slice A2 p c2, .slice A3 p c3]] w fun e w' => e = .returned (.bool true) ∧ Below w.heap.size w w' := by
  have := implTimed_any A2 A3 p c2 p c3 B us ts w h2 h3 hB (by omega) (by omega)
  rw [hus, hts, tl_valid hv] at this
  exact this
theorem tlc_join (hv : logB (p : Int) qs = true) (hm : m = qs.length) (hm25 : m ≤ 25) {i : Nat} (hi : i ≤ m) (hp : p ≤ 16) (h1 : Rd w w.heap.size A p (roots p)) (hq : RdQ w B A' m qs) (hB : B ≤ w.heap.size) :
    Calls Tryz.prog 10 #[.slice A p c, .int .i64 1, .slice A' i c'] w fun e w' => ∃ A c, e = .returned (.tuple #[.slice A p c, .bool true]) ∧ Rd w' w'.heap.size A p (upk p (natP qs) i) ∧ Below w.heap.size w w' := by
  obtain ⟨j1, j2⟩ := tl_join hv (i := i) (by omega)
  have := rd2_of (implJoinAll_any A p c _ (roots p) 1 A' i c' B (qs.take i) w h1 (Nat.le_refl _) (by omega) (hq.take hi) hB (by omega))
  rw [j1, j2, upk_len] at this
  exact this
theorem tlc_count {i : Nat} (hm25 : m ≤ 25) (hi : i ≤ m) (hq : RdQ w B A' m qs) (hB : B ≤ w.heap.size) :
    Calls Tryz.prog 13 #[.int .i64 (p : Int), .slice A' i c'] w fun e w' => e = .returned (.int .i64 (ccN (p : Int) (qs.take i))) ∧ Below w.heap.size w w' :=
  implCount_any (p : Int) A' i c' B (qs.take i) w (hq.take hi) hB (by omega)
end

set_option maxHeartbeats 2000000 in
/-- lrTimed of two that read alike. -/
theorem lrTimed_any (A1 A2 C1 C2 : Option Addr) (n c1 m c2 d1 d2 B1 B2 B3 B4 : Nat) (xs ss : List Int) (w : World) (h1 : Rd w B1 A1 n xs) (h2 : Rd w B2 A2 m ss) (h3 : Rd w B3 C1 n xs) (h4 : Rd w B4 C2 m ss) (hB : B1 ≤ w.heap.size ∧ B2 ≤ w.heap.size ∧ B3 ≤ w.heap.size ∧ B4 ≤ w.heap.size) (hb : n ≤ 1048576) (hb2 : m ≤ 1048576) :
    Calls Tryz.prog 7 #[.agg #[.slice A1 n c1, .slice A2 m c2], .agg #[.slice C1 n d1, .slice C2 m d2]] w fun e w' => e = .returned (.bool true) ∧ Below w.heap.size w w' := by
  obtain ⟨W1, hW1⟩ : ∃ W1, W1 = w.alloc (.cells #[.slice A1 n c1, .slice A2 m c2] 28) := ⟨_, rfl⟩
  obtain ⟨W, hW⟩ : ∃ W, W = W1.alloc (.cells #[.slice C1 n d1, .slice C2 m d2] 28) := ⟨_, rfl⟩
  have e1 : W1.heap.size = w.heap.size + 1 := by rw [hW1]; simp
  have eW : W.heap.size = w.heap.size + 2 := by rw [hW]; simp [e1]
  have hA : W1.heap[w.heap.size]? = some (.cells #[.slice A1 n c1, .slice A2 m c2] 28 (0, 0)) := by rw [hW1]; exact World.alloc_heap_new w _
  have hAW : W.heap[w.heap.size]? = some (.cells #[.slice A1 n c1, .slice A2 m c2] 28 (0, 0)) := by rw [hW]; exact (Below.heap_alloc _ _ _ (by omega)).trans hA
  have hCW : W.heap[w.heap.size + 1]? = some (.cells #[.slice C1 n d1, .slice C2 m d2] 28 (0, 0)) := by rw [hW, ← e1]; exact World.alloc_heap_new W1 _
  have hbW : Below w.heap.size w W := by rw [hW, hW1]; exact ((Below.refl _ _).alloc (Nat.le_refl _) _).alloc (by simp) _
  have LS := Lib.hid (lrSame_any A1 C1 n c1 d1 B1 B3 xs W (h1.below hbW hB.1) (h3.below hbW hB.2.2.1) hb)
  have q2 := h2.below hbW hB.2.1
  have q4 := h4.below hbW hB.2.2.2
  have LT := Lib.hid (fun j => lrSame_any A2 C2 m c2 d2 B2 B4 ss (W.drewN j) (q2.drewN j) (q4.drewN j) hb2)
  obtain ⟨P, hP⟩ : ∃ P, P = w.heap.size := ⟨_, rfl⟩
  obtain ⟨Q, hQ⟩ : ∃ Q, Q = w.heap.size + 1 := ⟨_, rfl⟩
  rw [← hP] at hAW
  rw [← hQ] at hCW
  obtain ⟨⟨a1, a2⟩, _⟩ := boxTwo_cells hAW
  obtain ⟨⟨p1, p2⟩, _⟩ := boxTwo_cells hCW
  have HW := Lib.hid (And.intro hW (And.intro hW1 (And.intro hP (show P + 1 = Q by omega))))
  have HF := Lib.hid hbW
  clear h1 h2 h3 h4 hB hb hW1 hW e1 eW hA hAW hCW hbW q2 q4 hP hQ
  go_enter Tryz.func7, Tryz.ntmps7
  go_wp2_with fail
  rw [← HW.out.2.1, ← HW.out.1, ← HW.out.2.2.1]
  rw [HW.out.2.2.2]
  refine LS.out.mono ?_
  rintro e w1 ⟨rfl, j, rfl⟩
  have LT1 := Lib.hid (LT.out j)
  obtain ⟨V, hV⟩ : ∃ V, V = W.drewN j := ⟨_, rfl⟩
  have a1 : V.cell? ⟨P, 0, none⟩ = some (.slice A1 n c1) := by rw [hV]; exact a1
  have a2 : V.cell? ⟨P, 1, none⟩ = some (.slice A2 m c2) := by rw [hV]; exact a2
  have p1 : V.cell? ⟨Q, 0, none⟩ = some (.slice C1 n d1) := by rw [hV]; exact p1
  have p2 : V.cell? ⟨Q, 1, none⟩ = some (.slice C2 m d2) := by rw [hV]; exact p2
  have HV := Lib.hid (show Below w.heap.size w V by rw [hV]; exact below_drewN HF.out j)
  rw [← hV] at LT1 ⊢
  clear hV LT
  go_wp2_with fail
  refine LT1.out.mono ?_
  rintro e w2 ⟨rfl, j2, rfl⟩
  go_wp2_with fail
  go_ret
  exact ⟨rfl, below_drewN HV.out j2⟩
end Go.Proofs.YtmkdiifjecnokaaGreat

namespace Go.Proofs.YtmkdiifjecnokaaGreat
open Go.RowKit Go.Shelf

set_option maxRecDepth 100000 in
set_option maxHeartbeats 8000000 in
theorem fnTimed (A0 : Option Addr) (n0 c0 : Nat) (z0 : List Int) (w : World) (h0 : Row .u8 w A0 n0 c0 z0) :
    Calls Tryz.prog 3 #[.slice A0 n0 c0] w fun e w' => e = .returned (.bool true) ∧ Below w.heap.size w w' := by
  by_cases hl0 : 1048576 < n0
  · clear h0
    go_enter Tryz.func3, Tryz.ntmps3
    go_wp2
    go_ret
    exact ⟨rfl, Below.refl _ _⟩
  obtain ⟨b0, hc0⟩ := h0.bt
  have D0 := Lib.hid (drawTimedOf_any A0 n0 c0 w.heap.size z0 w b0 (Nat.le_refl _) hc0)
  clear h0 b0 hc0
  go_enter Tryz.func3, Tryz.ntmps3
  go_wp2_with fail
  refine D0.out.mono ?_
  rintro e w1 ⟨n, v, qs, rfl, hn17, hq, hlq, hb1⟩
  obtain ⟨A', c', rfl, hrq, hcap⟩ := OwnQ.form2 hq
  obtain ⟨m, hm⟩ : ∃ m, m = qs.length := ⟨_, rfl⟩
  rw [← hm] at hrq hlq hcap ⊢
  obtain ⟨us, hus⟩ : ∃ us, us = logUp (n : Int) qs := ⟨_, rfl⟩
  obtain ⟨ts, hts⟩ : ∃ ts, ts = tmAt (n : Int) qs := ⟨_, rfl⟩
  obtain ⟨p, hp⟩ : ∃ p, p = us.length := ⟨_, rfl⟩
  obtain ⟨q, hqq⟩ : ∃ q, q = ts.length := ⟨_, rfl⟩
  obtain ⟨ok, hok⟩ : ∃ ok, ok = logB (n : Int) qs := ⟨_, rfl⟩
  have IT := tm_read' (implTimedOf_any (n : Int) A' m c' w1.heap.size qs w1 hrq (Nat.le_refl _) (by omega))
  have ST := Lib.hid (fun (w2 : World) (hb2 : Below w1.heap.size w1 w2) => by
    have := tm_read (specTimedOf_any (n : Int) A' m c' w1.heap.size qs w2 (hrq.below hb2 (Nat.le_refl _)) hb2.size (by omega))
    rw [← hus, ← hts, ← hp, ← hqq, ← hok] at this
    exact this)
  rw [← hus, ← hts, ← hp, ← hqq, ← hok] at IT
  have IT := Lib.hid IT
  have hsm : p ≤ 1048576 ∧ q ≤ 1048576 := by
    cases hv : logB (n : Int) qs with
    | false =>
      have e1 : us = [] := by rw [hus, tmUp_no hv]
      have e2 : ts = [] := by rw [hts, tmAt_no hv]
      rw [hp, hqq, e1, e2]
      simp
    | true =>
      obtain ⟨⟨p1, p16⟩, _⟩ := tmOf_parts hv
      rw [Int.toNat_natCast] at p1 p16
      rw [hp, hqq, hus, hts, tmUp_yes hv, tmAt_yes hv, Int.toNat_natCast, upk_len, tmTo_len]
      omega
  have HE := Lib.hid (And.intro hus (And.intro hts (And.intro hp (And.intro hqq hok))))
  have H1 := Lib.hid (And.intro hb1 (And.intro hrq (And.intro hm (And.intro hcap hlq))))
  have HS := Lib.hid hsm
  clear hq D0 hus hts hp hqq hok hrq hm hcap hlq hb1 hsm hn17
  go_wp2_with fail
  refine IT.out.mono ?_
  rintro e w2 ⟨A2, c2, A3, c3, rfl, hr2, hr3, hb2⟩
  obtain ⟨V2, hV2⟩ : ∃ V2, V2 = w2.alloc (.cells #[.slice A2 p c2, .slice A3 q c3] 28) := ⟨_, rfl⟩
  obtain ⟨X2, hX2⟩ : ∃ X2, X2 = w2.heap.size := ⟨_, rfl⟩
  have hbV2 : Below w2.heap.size w2 V2 := by rw [hV2]; exact (Below.refl _ _).alloc (Nat.le_refl _) _
  have hR2 : V2.heap[X2]? = some (.cells #[.slice A2 p c2, .slice A3 q c3] 28 (0, 0)) := by rw [hV2, hX2]; exact World.alloc_heap_new w2 _
  have H2 := Lib.hid (And.intro (hr2.to hbV2) (And.intro (hr3.to hbV2) (And.intro hR2 (Below.on hb2 hbV2))))
  have HE2 := Lib.hid (And.intro hV2 hX2)
  clear hr2 hr3 hb2 hV2 hX2 hbV2 hR2 IT
  go_wp2_with fail
  rw [← HE2.out.1, ← HE2.out.2]
  refine (ST.out V2 H2.out.2.2.2).mono ?_
  rintro e w3 ⟨A4, c4, A5, c5, rfl, hr4, hr5, hb3⟩
  obtain ⟨V, hV⟩ : ∃ V, V = w3.alloc (.cells #[.slice A4 p c4, .slice A5 q c5] 28) := ⟨_, rfl⟩
  obtain ⟨X3, hX3⟩ : ∃ X3, X3 = w3.heap.size := ⟨_, rfl⟩
  have hbV3 : Below w3.heap.size w3 V := by rw [hV]; exact (Below.refl _ _).alloc (Nat.le_refl _) _
  have hR3 : V.heap[X3]? = some (.cells #[.slice A4 p c4, .slice A5 q c5] 28 (0, 0)) := by rw [hV, hX3]; exact World.alloc_heap_new w3 _
  have hb2V : Below V2.heap.size V2 V := Below.on hb3 hbV3
  have hX2V := (hb2V.block X2 (Array.getElem?_eq_some_iff.1 H2.out.2.2.1).1).trans H2.out.2.2.1
  have r2 := H2.out.1.to hb2V
  have q2 := H2.out.2.1.to hb2V
  have r4 := hr4.to hbV3
  have q5 := hr5.to hbV3
  have LR := Lib.hid (fun (W' : World) (h8 : Below V.heap.size V W') => lrTimed_any A2 A3 A4 A5 p c2 q c3 c4 c5 V.heap.size V.heap.size V.heap.size V.heap.size us ts W' (r2.below h8 (Nat.le_refl _)) (q2.below h8 (Nat.le_refl _)) (r4.below h8 (Nat.le_refl _)) (q5.below h8 (Nat.le_refl _)) ⟨h8.size, h8.size, h8.size, h8.size⟩ HS.out.1 HS.out.2)
  have HV := Lib.hid (And.intro (Below.on H1.out.1 (Below.on H2.out.2.2.2 hb2V)) (And.intro r2 (And.intro q2 (H1.out.2.1.to (Below.on H2.out.2.2.2 hb2V)))))
  have HE3 := Lib.hid (And.intro hV hX3)
  have HC : Hid (∀ W', Below V.heap.size V W' → (W'.cell? ⟨X2, 0, none⟩ = some (.slice A2 p c2) ∧ W'.cell? ⟨X2, 1, none⟩ = some (.slice A3 q c3)) ∧ (W'.cell? ⟨X3, 0, none⟩ = some (.slice A4 p c4) ∧ W'.cell? ⟨X3, 1, none⟩ = some (.slice A5 q c5))) := fun W' hb =>
    ⟨(boxTwo_cells ((hb.block X2 (Array.getElem?_eq_some_iff.1 hX2V).1).trans hX2V)).1, (boxTwo_cells ((hb.block X3 (Array.getElem?_eq_some_iff.1 hR3).1).trans hR3)).1⟩
  obtain ⟨⟨a1, a2⟩, _⟩ := boxTwo_cells hX2V
  obtain ⟨⟨a3, a4⟩, _⟩ := boxTwo_cells hR3
  rw [hV] at a1 a2 a3 a4
  rw [hX3] at a3 a4
  clear hr4 hr5 hb3 hV hX3 hbV3 hR3 hb2V hX2V r2 q2 r4 q5 ST
  cases ok with
  | false =>
    have hv := HE.out.2.2.2.2.symm
    have hp0 : p = 0 := by rw [HE.out.2.2.1, HE.out.1, tmUp_no hv]; rfl
    subst hp0
    clear hv
    go_wp2_with fail
    rw [← HE3.out.1, ← HE3.out.2]
    refine (LR.out V (Below.refl _ _)).mono ?_
    rintro e w7 ⟨rfl, hb⟩
    have H7 := Lib.hid hb
    clear hb a1 a2 a3 a4
    obtain ⟨⟨a1, a2⟩, ⟨a3, a4⟩⟩ := HC.out _ H7.out
    go_wp2_with fail
    refine (LR.out w7 H7.out).mono ?_
    rintro e w8 ⟨rfl, hb⟩
    have H8 := Lib.hid (Below.on H7.out hb)
    clear hb a1 a2 a3 a4
    obtain ⟨⟨a1, a2⟩, ⟨a3, a4⟩⟩ := HC.out _ H8.out
    go_wp2_with fail
    go_ret
    exact ⟨rfl, Below.on HV.out.1 H8.out⟩
  | true =>
    have hv := HE.out.2.2.2.2.symm
    obtain ⟨⟨p1, p16⟩, _, _, _⟩ := tmOf_parts hv
    rw [Int.toNat_natCast] at p1 p16
    have hus : us = upk n (natP qs) qs.length := by rw [HE.out.1, tmUp_yes hv, Int.toNat_natCast]
    have hts : ts = tmTo n (natP qs) qs.length := by rw [HE.out.2.1, tmAt_yes hv, Int.toNat_natCast]
    have hpn : p = n := by rw [HE.out.2.2.1, hus, upk_len]
    have hqn : q = n := by rw [HE.out.2.2.2.1, hts, tmTo_len]
    subst hpn
    subst hqn
    obtain ⟨_, hrq, hm, hcap, hm25⟩ := H1.out
    have hnN : newN (q : Int) = q := by unfold newN; rw [if_pos (by omega)]; simp
    have FA := Lib.hid (fun (i : Nat) (hi : i ≤ m) (W' : World) (h8 : Below V.heap.size V W') => tlc_forest (c2 := c2) (c3 := c3) hv (show i ≤ qs.length by omega) hus hts p16 (HV.out.2.1.below h8 (Nat.le_refl _)) (HV.out.2.2.1.below h8 (Nat.le_refl _)) h8.size)
    have CA := Lib.hid (fun (i : Nat) (hi : i ≤ m) (W' : World) (h8 : Below V.heap.size V W') => tlc_classes (c2 := c2) (c3 := c3) hv (show i ≤ qs.length by omega) hus hts p16 (HV.out.2.1.below h8 (Nat.le_refl _)) (HV.out.2.2.1.below h8 (Nat.le_refl _)) h8.size)
    have SI := Lib.hid (fun (k : Nat) (hk : k < m) (W' : World) (h8 : Below V.heap.size V W') => tlc_since (c2 := c2) (c3 := c3) hv (show k < qs.length by omega) hus hts p16 (HV.out.2.1.below h8 (Nat.le_refl _)) (HV.out.2.2.1.below h8 (Nat.le_refl _)) h8.size)
    have TV := Lib.hid (fun (W' : World) (h8 : Below V.heap.size V W') => tlc_valid (c2 := c2) (c3 := c3) hv hus hts p16 (HV.out.2.1.below h8 (Nat.le_refl _)) (HV.out.2.2.1.below h8 (Nat.le_refl _)) h8.size)
    have JA := Lib.hid (fun (i : Nat) (hi : i ≤ m) (A : Option Addr) (c : Nat) (W' : World) (h8 : Below V.heap.size V W') (h1 : Rd W' W'.heap.size A q (roots q)) => tlc_join (c := c) (c' := c') hv hm hm25 hi p16 h1 (HV.out.2.2.2.below h8 (Nat.le_refl _)) h8.size)
    have CO := Lib.hid (fun (i : Nat) (hi : i ≤ m) (W' : World) (h8 : Below V.heap.size V W') => tlc_count (p := q) (c' := c') hm25 hi (HV.out.2.2.2.below h8 (Nat.le_refl _)) h8.size)
    have NI := Lib.hid (fun (W' : World) => by
      have := rd2_of (implNew_any (q : Int) W')
      rw [hnN, roots_len] at this
      exact this)
    have SL := Lib.hid (fun (i : Nat) (hi : i ≤ m) => pairs_sliceT A' m c' i hi hcap)
    have HQ := Lib.hid HV.out.2.2.2
    have hq16 : q ≤ 16 := p16
    clear hv p1 p16 hus hts hrq hm hcap hnN HE
    go_wp2_with fail
    rw [← HE3.out.1, ← HE3.out.2]
    refine (LR.out V (Below.refl _ _)).mono ?_
    rintro e w7 ⟨rfl, hb⟩
    have H7 := Lib.hid hb
    clear hb a1 a2 a3 a4
    go_wp2_with fail
    refine (NI.out w7).mono ?_
    rintro e w8 ⟨A8, c8, rfl, hr8, hb8⟩
    have H8 := Lib.hid (And.intro (Below.on H7.out hb8) hr8)
    clear hb8 hr8 LR NI
    have HI0 : Hid (Below w8.heap.size w8 w8) := Below.refl _ _
    go_wp2_with fail
    go_loopw [73] (fun i wr => ∃ j : Nat, j ≤ m + 1 ∧ i = .int .i64 j ∧ Hid (Below w8.heap.size w8 wr)) (fun i _ => m + 1 - (intOf i).toNat)
    case atStart => exact ⟨0, Nat.zero_le _, rfl, HI0⟩
    case round =>
      obtain ⟨j, hj, rfl, HR⟩ := hrel
      clear HI0
      have hbVr : Below V.heap.size V wr := Below.on H8.out.1 HR.out
      obtain ⟨⟨a1, a2⟩, _⟩ := HC.out wr hbVr
      by_cases hlt : j ≤ m
      · have hjj : (j : Int) < (m : Int) + 1 := by omega
        have FA1 := Lib.hid (FA.out j hlt wr hbVr)
        have sl := SL.out j hlt
        have HBV := Lib.hid hbVr
        obtain ⟨wA, hwA⟩ : ∃ wA, wA = wr := ⟨_, rfl⟩
        rw [← hwA] at HBV FA1 HR a1 a2 ⊢
        clear hbVr hwA
        go_wp2_with fail
        refine FA1.out.mono ?_
        rintro e w9 ⟨A9, c9, rfl, hr9, hb9⟩
        have H9 := Lib.hid (And.intro (Below.on HBV.out hb9) hr9)
        have hb9w := Lib.hid hb9
        have JA1 := Lib.hid (JA.out j hlt A8 c8 w9 H9.out.1 ((H8.out.2.to HR.out).to hb9))
        clear hb9 hr9 FA1 a1 a2
        go_wp2_with fail
        refine JA1.out.mono ?_
        rintro e w10 ⟨A10, c10, rfl, hr10, hb10⟩
        have hbV10 := Below.on H9.out.1 hb10
        obtain ⟨⟨a1, a2⟩, _⟩ := HC.out w10 hbV10
        have LS := Lib.hid (fun (W' : World) (h8 : Below w10.heap.size w10 W') => (lrSame_any A9 A10 q c9 c10 _ _ _ W' ((H9.out.2.to hb10).below h8 (Nat.le_refl _)) (hr10.below h8 (Nat.le_refl _)) (by omega)).mono (fun e w' (h : e = .returned (.bool true) ∧ ∃ n, w' = W'.drewN n) => (show e = .returned (.bool true) ∧ Below W'.heap.size W' w' from ⟨h.1, by obtain ⟨_, q, rfl⟩ := h; exact below_drewN (Below.refl _ _) q⟩)))
        have CA1 := Lib.hid (fun (W' : World) (h8 : Below w10.heap.size w10 W') => CA.out j hlt W' (Below.on hbV10 h8))
        have CO1 := Lib.hid (fun (W' : World) (h8 : Below w10.heap.size w10 W') => CO.out j hlt W' (Below.on hbV10 h8))
        have H10 := Lib.hid (Below.on HR.out (Below.on hb9w.out hb10))
        generalize ccN (q : Int) (qs.take j) = cc at CA1 CO1
        have hcc : (cc != cc) = false := by simp
        have hbb : Below w10.heap.size w10 w10 := Below.refl _ _
        clear hr10 hb10 hbV10 JA1 H9
        go_wp2_with fail
        go_region_held3 (fun w' => Below w10.heap.size w10 w' ∧ w'.cell? ⟨X2, 0, none⟩ = some (.slice A2 q c2) ∧ w'.cell? ⟨X2, 1, none⟩ = some (.slice A3 q c3))
          (first | exact held2_drew ⟨by assumption, by assumption, by assumption⟩ | exact held2_drew (by assumption) | exact held2_call (by assumption) (by assumption) (Below.size (And.left (by assumption))))
          (first | (go_at_call 11; refine (LS.out _ (‹Below w10.heap.size w10 _ ∧ _›).1).mono ?_; rintro e w13 ⟨rfl, hb13⟩) | (go_at_call 12; refine (CA1.out _ (‹Below w10.heap.size w10 _ ∧ _›).1).mono ?_; rintro e w14 ⟨rfl, hb14⟩) | (go_at_call 13; refine (CO1.out _ (‹Below w10.heap.size w10 _ ∧ _›).1).mono ?_; rintro e w15 ⟨rfl, hb15⟩))
        have HI2 := Lib.hid (Below.on H10.out (show Below w10.heap.size w10 _ from And.left (by assumption)))
        go_wp2_with fail
        go_roundw
        case rel => exact ⟨j + 1, by omega, by go_num, HI2⟩
        case measure => simp [intOf]; omega
      · obtain rfl : j = m + 1 := by omega
        obtain ⟨wA, hwA⟩ : ∃ wA, wA = wr := ⟨_, rfl⟩
        rw [← hwA] at hbVr a1 a2 ⊢
        have HBV := Lib.hid hbVr
        have HI1 : Hid (Below wA.heap.size wA wA) := Below.refl _ _
        clear hwA hbVr a1 a2 FA CA JA CO SL
        go_wp2_with fail
        go_loopw [116] (fun i wr => ∃ k : Nat, k ≤ m ∧ i = .int .i64 k ∧ Hid (Below wA.heap.size wA wr)) (fun i _ => m - (intOf i).toNat)
        case atStart => exact ⟨0, Nat.zero_le _, rfl, HI1⟩
        case round =>
          obtain ⟨k, hk, rfl, HR2⟩ := hrel
          clear HI1
          have hbVr := Below.on HBV.out HR2.out
          by_cases hlt : k < m
          · obtain ⟨bq, oq, rfl, _, hcq⟩ := (HQ.out.below hbVr (Nat.le_refl _)).2 (by omega)
            obtain ⟨g1, g2⟩ := hcq k hlt
            obtain ⟨W10, hW10⟩ : ∃ W10, W10 = wr.alloc (.cells #[.int .i64 (qs[k]?.getD (0, 0)).1, .int .i64 (qs[k]?.getD (0, 0)).2] 41) := ⟨_, rfl⟩
            obtain ⟨X10, hX10⟩ : ∃ X10, X10 = wr.heap.size := ⟨_, rfl⟩
            have hbW10 : Below wr.heap.size wr W10 := by rw [hW10]; exact (Below.refl _ _).alloc (Nat.le_refl _) _
            have hB10 : W10.heap[X10]? = some (.cells #[.int .i64 (qs[k]?.getD (0, 0)).1, .int .i64 (qs[k]?.getD (0, 0)).2] 41 (0, 0)) := by rw [hW10, hX10]; exact World.alloc_heap_new wr _
            have hbV10 := Below.on hbVr hbW10
            have SI1 := SI.out k hlt W10 hbV10
            obtain ⟨⟨a1, a2⟩, _⟩ := HC.out _ hbV10
            obtain ⟨⟨d1, d2⟩, _⟩ := boxTwo_cells hB10
            revert g1 g2 hW10 d1 d2 SI1 hB10
            generalize (qs[k]?.getD (0, 0)).1 = x
            generalize (qs[k]?.getD (0, 0)).2 = z
            intro g1 g2 hW10 hB10 SI1 d1 d2
            have SI1 := Lib.hid SI1
            have HW10 := Lib.hid (And.intro hW10 hX10)
            have HB10 := Lib.hid (Below.on HR2.out hbW10)
            have hkk : (k : Int) < (m : Int) := by omega
            rw [hW10] at a1 a2 d1 d2
            rw [hX10] at d1 d2
            clear hW10 hX10 hbW10 hB10 hbV10 hcq hbVr
            go_wp2_with fail
            rw [← HW10.out.1]
            refine SI1.out.mono ?_
            rintro e w13 ⟨y, rfl, hy0, hb13⟩
            have HI2 := Lib.hid (Below.on HB10.out hb13)
            have hy1 : ¬ y < 0 := by omega
            clear hb13 hy0 SI1
            go_wp2_with fail
            refine ⟨⟨_, _, _, _, _, _, _, _, _, _, _, _, _, _, ⟨k + 1, by omega, by go_num, HI2⟩, rfl⟩, ?_⟩
            simp [intOf]
            omega
          · obtain rfl : k = m := by omega
            have TV1 := Lib.hid (TV.out wr hbVr)
            obtain ⟨⟨a1, a2⟩, _⟩ := HC.out _ hbVr
            have HF := Lib.hid hbVr
            clear hbVr SI
            go_wp2_with fail
            refine TV1.out.mono ?_
            rintro e w14 ⟨rfl, hb14⟩
            have HF2 := Lib.hid (Below.on HV.out.1 (Below.on HF.out hb14))
            clear hb14
            go_wp2_with fail
            go_ret
            exact ⟨rfl, HF2.out⟩
end Go.Proofs.YtmkdiifjecnokaaGreat
