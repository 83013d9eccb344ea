/- The model's JoinLog for valid logs and two of their items. Condition: lengths up to 1048576. -/
import Derived.Test.YtichcnaomcpnhaaSpecCopy
import Derived.Test.YtichcnaomcpnhaaSpecLogV
import Derived.Test.YtichcnaomcpnhaaPushS
namespace Go.Proofs.Ytichcnaomcpnhaa
open Go.RowKit

theorem lowupp {u : List Int} {p q : Nat} : (underB u 1 p q = true → lowI u 1 p q = p ∧ uppI u 1 p q = q) ∧ (underB u 1 p q = false → lowI u 1 p q = q ∧ uppI u 1 p q = p) := by
  unfold lowI uppI
  constructor
  · intro h; rw [h]; simp
  · intro h; rw [h]; simp
set_option maxRecDepth 100000 in
set_option maxHeartbeats 8000000 in
theorem specJoinLog_good (A1 A2 : Option Addr) (n c1 m c2 B0 a b : Nat) (xs : List Int) (ss : List (Int × Int)) (w : World) (h1 : Rd w B0 A1 n xs) (h2 : RdQ w B0 A2 m ss) (hB0 : B0 ≤ w.heap.size) (hb2 : m ≤ 1000) (hv : logV xs ss = true) (ha : a < n) (hb : b < n) :
    Calls Try.prog 8 #[.agg #[.slice A1 n c1, .slice A2 m c2], .int .i64 (a : Int), .int .i64 (b : Int)] w fun e w' => ∃ v v2, e = .returned (.tuple #[.agg #[v, v2], .bool (!decide (rootI xs a = rootI xs b))]) ∧ (rootI xs a ≠ rootI xs b → Own w' w.heap.size v (joinL xs 1 a b) ∧ OwnQ 68 w' w.heap.size v2 (joinSt xs a b ss)) ∧ ((∃ A n c, v = .slice A n c) ∧ ∃ A n c, v2 = .slice A n c) ∧ Below w.heap.size w w' := by
  obtain ⟨W1, hW1⟩ : ∃ W1, W1 = w.alloc (.cells #[.slice A1 n c1, .slice A2 m c2] 26) := ⟨_, rfl⟩
  obtain ⟨W, hW⟩ : ∃ W, W = W1.alloc (.cells #[.slice none 0 0, .slice none 0 0] 26) := ⟨_, rfl⟩
  have e1 : W1.heap.size = w.heap.size + 1 := by rw [hW1]; simp
  have eW : W.heap.size = w.heap.size + 2 := by rw [hW]; simp [e1]
  have hA : W1.heap[w.heap.size]? = some (.cells #[.slice A1 n c1, .slice A2 m c2] 26 (0, 0)) := by rw [hW1]; exact World.alloc_heap_new w _
  have hAW : W.heap[w.heap.size]? = some (.cells #[.slice A1 n c1, .slice A2 m c2] 26 (0, 0)) := by rw [hW]; exact (Below.heap_alloc _ _ _ (by omega)).trans hA
  have hRW : W.heap[w.heap.size + 1]? = some (.cells #[.slice none 0 0, .slice none 0 0] 26 (0, 0)) := by rw [hW, ← e1]; exact World.alloc_heap_new W1 _
  have hbW : Below w.heap.size w W := by rw [hW, hW1]; exact ((Below.refl _ _).alloc (Nat.le_refl _) _).alloc (by simp) _
  obtain ⟨⟨p1, p16⟩, hbu, hfv⟩ := logV_parts hv
  have hl := h1.1
  have hl2 := h2.1
  have h1W := h1.below hbW hB0
  have h2W := h2.below hbW hB0
  have hBW : B0 ≤ W.heap.size := Nat.le_trans hB0 hbW.size
  have LV := Lib.hid (fun (w8 : World) (h8 : Below W.heap.size W w8) => specLogV_good A1 A2 n c1 m c2 B0 xs ss w8 (h1W.below h8 hBW) (h2W.below h8 hBW) (Nat.le_trans hBW h8.size) (by omega) hv)
  have IT : Hid (∀ (z : Nat), Hid (z < n) → ∀ w8, Below W.heap.size W w8 → Calls Try.prog 36 #[.slice A1 n c1, .int .i64 (z : Int)] w8 fun e w' => e = .returned (.bool true) ∧ Below w8.heap.size w8 w') := fun z hz w8 h8 => by
    have := l1Item_any A1 n c1 B0 xs (z : Int) w8 (h1W.below h8 hBW) (Nat.le_trans hBW h8.size) (by omega)
    rw [item_of hfv (by omega) (by have := hz.out; omega)] at this
    exact this
  obtain ⟨ρ, hρ⟩ : ∃ ρ, ρ = rootI xs := ⟨_, rfl⟩
  have RT : Hid (∀ (z : Nat), Hid (z < n) → ∀ w8, Below W.heap.size W w8 → Calls Try.prog 37 #[.slice A1 n c1, .int .i64 (z : Int)] w8 fun e w' => e = .returned (.int .i64 (ρ z : Int)) ∧ w8 = w') := fun z hz w8 h8 => by
    rw [hρ]
    exact l1Root_any A1 n c1 B0 z xs w8 (h1W.below h8 hBW) hfv hz.out
  have HA := Lib.hid ha
  have HB := Lib.hid hb
  obtain ⟨P, hP⟩ : ∃ P, P = w.heap.size := ⟨_, rfl⟩
  obtain ⟨R, hR⟩ : ∃ R, R = w.heap.size + 1 := ⟨_, rfl⟩
  have hew : W1.heap.size = R := by omega
  rw [← hP] at hAW
  rw [← hR] at hRW
  have hpW := (boxTwo_cells hAW).1
  obtain ⟨k1, k2⟩ := hpW
  have HW := Lib.hid (And.intro hW (And.intro hW1 (And.intro hP (And.intro hR hew))))
  have HF := Lib.hid (And.intro hbW (And.intro hAW (And.intro hRW (And.intro eW (And.intro h1W (And.intro h2W hBW))))))
  have HX := Lib.hid (And.intro hfv (And.intro hl hl2))
  have HP0 := Lib.hid (And.intro p1 p16)
  by_cases hpq : ρ a = ρ b
  · have t1 : ((ρ a : Int) == (ρ b : Int)) = true := by simp [hpq]
    have hdd : (!decide (rootI xs a = rootI xs b)) = false := by rw [← hρ, decide_eq_true hpq]; rfl
    rw [hdd]
    have HNE : Hid (rootI xs a ≠ rootI xs b → False) := fun e => e (by rw [← hρ]; exact hpq)
    clear h1 h2 hB0 hb2 hv ha hb hW1 hW e1 eW hA hAW hRW hbW p1 p16 hbu hfv hl hl2 h1W h2W hBW hρ hP hR hew hpq hdd
    have hbb : Below W.heap.size W W := Below.refl _ _
    go_enter Try.func8, Try.ntmps8
    go_wp2_with fail
    rw [← HW.out.2.1, ← HW.out.1, ← HW.out.2.2.2.1, ← HW.out.2.2.1]
    go_region_held3 (fun w' => Below W.heap.size W w' ∧ w'.cell? ⟨P, 0, none⟩ = some (.slice A1 n c1) ∧ w'.cell? ⟨P, 1, none⟩ = some (.slice A2 m c2))
      (first | assumption | exact held2_drew ⟨by assumption, by assumption, by assumption⟩ | exact held2_drew (by assumption) | exact held2_call (by assumption) (by assumption) (Below.size (And.left (by assumption))))
      (first | (go_at_call 35; refine (LV.out _ (‹Below W.heap.size W _ ∧ _›).1).mono ?_; rintro e w8 ⟨rfl, hb8⟩) | (go_at_call 36; refine (IT.out _ (by first | exact HA | exact HB) _ (‹Below W.heap.size W _ ∧ _›).1).mono ?_; rintro e w8 ⟨rfl, hb8⟩) | (go_at_call 37; refine (RT.out _ (by first | exact HA | exact HB) _ (‹Below W.heap.size W _ ∧ _›).1).mono ?_; rintro e w8 ⟨rfl, rfl⟩))
    have hbz := (‹Below W.heap.size W _ ∧ _›).1
    have hRz := (hbz.block R (by have := HF.out.2.2.2.1; have := HW.out.2.2.2.1; omega)).trans HF.out.2.2.1
    obtain ⟨⟨r1, r2⟩, f1, f2⟩ := boxTwo_cells hRz
    have HZ := Lib.hid (And.intro hRz (Below.on HF.out.1 hbz))
    clear hRz hbz
    go_wp2_with fail
    obtain ⟨⟨k1, k2⟩, _⟩ := boxTwo_cells (boxTwo_set HZ.out.1 (.slice none 0 0) (.slice none 0 0))
    refine bodyPost_ret (v := .tuple #[.agg #[.slice none 0 0, .slice none 0 0], .bool false]) (by simp [results, Try.results8, go_sem, k1, k2]) rfl ?_
    exact ⟨_, _, rfl, fun e => (HNE.out e).elim, ⟨⟨_, _, _, rfl⟩, _, _, _, rfl⟩, boxTwo_below HZ.out.2 (by have := HW.out.2.2.2.1; omega) _ _⟩
  · have t1 : ((ρ a : Int) == (ρ b : Int)) = false := by simp; omega
    have hdd : (!decide (rootI xs a = rootI xs b)) = true := by rw [← hρ, decide_eq_false hpq]; rfl
    rw [hdd]
    have T := low_two (roots_two hfv (show a < xs.length by omega) (show b < xs.length by omega) (by rw [← hρ]; exact hpq)) 1
    have eJ : joinL xs 1 a b = xs.set (lowI xs 1 (ρ a) (ρ b)) (uppI xs 1 (ρ a) (ρ b) : Int) := by
      unfold joinL
      rw [← hρ, if_neg hpq, joinTo_low]
      rfl
    have eS : joinSt xs a b ss = ss ++ [((lowI xs 1 (ρ a) (ρ b) : Int), (uppI xs 1 (ρ a) (ρ b) : Int))] := by
      unfold joinSt stR stT
      rw [← hρ, if_neg hpq, if_neg hpq, if_neg hpq]
    have hp := root_is hfv (i := a) (by omega)
    have hq := root_is hfv (i := b) (by omega)
    rw [← hρ] at hp hq
    have pn : ρ a < n := by omega
    have qn : ρ b < n := by omega
    have CP := Lib.hid (fun (w8 : World) (h8 : Below W.heap.size W w8) => l4Copy_any A1 A2 n c1 m c2 B0 xs ss w8 (h1W.below h8 hBW) (h2W.below h8 hBW) (Nat.le_trans hBW h8.size) (by omega) (by omega) (by omega))
    have UN := Lib.hid (fun (w8 : World) (h8 : Below W.heap.size W w8) => l2Under_any A1 n c1 B0 (ρ a) (ρ b) xs 1 w8 (h1W.below h8 hBW) (Nat.le_trans hBW h8.size) hfv ⟨by decide, by decide⟩ pn qn)
    have LU := lowupp (u := xs) (p := ρ a) (q := ρ b)
    obtain ⟨d, hd⟩ : ∃ d, d = underB xs 1 (ρ a) (ρ b) := ⟨_, rfl⟩
    rw [← hd] at UN LU
    have HE := Lib.hid (And.intro eJ (And.intro eS (And.intro LU hpq)))
    have HM := Lib.hid hb2
    have HPQ := Lib.hid (And.intro pn qn)
    clear h1 h2 hB0 hb2 hv ha hb hW1 hW e1 eW hA hAW hRW hbW p1 p16 hbu hfv hl hl2 h1W h2W hBW hρ hP hR hew hpq hdd T eJ eS hp hq LU hd pn qn
    have hbb : Below W.heap.size W W := Below.refl _ _
    go_enter Try.func8, Try.ntmps8
    go_wp2_with fail
    rw [← HW.out.2.1, ← HW.out.1, ← HW.out.2.2.2.1, ← HW.out.2.2.1]
    go_region_held3 (fun w' => Below W.heap.size W w' ∧ w'.cell? ⟨P, 0, none⟩ = some (.slice A1 n c1) ∧ w'.cell? ⟨P, 1, none⟩ = some (.slice A2 m c2))
      (first | assumption | exact held2_drew ⟨by assumption, by assumption, by assumption⟩ | exact held2_drew (by assumption) | exact held2_call (by assumption) (by assumption) (Below.size (And.left (by assumption))))
      (first | (go_at_call 35; refine (LV.out _ (‹Below W.heap.size W _ ∧ _›).1).mono ?_; rintro e w8 ⟨rfl, hb8⟩) | (go_at_call 36; refine (IT.out _ (by first | exact HA | exact HB) _ (‹Below W.heap.size W _ ∧ _›).1).mono ?_; rintro e w8 ⟨rfl, hb8⟩) | (go_at_call 37; refine (RT.out _ (by first | exact HA | exact HB) _ (‹Below W.heap.size W _ ∧ _›).1).mono ?_; rintro e w8 ⟨rfl, rfl⟩))
    have hS9 := ‹Below W.heap.size W _ ∧ _›
    have CZ := Lib.hid (CP.out _ hS9.1)
    have HZ := Lib.hid (And.intro hS9 ((hS9.1.block R (by have := HF.out.2.2.2.1; have := HW.out.2.2.2.1; omega)).trans HF.out.2.2.1))
    have hP9 := (hS9.1.block P (by have := HF.out.2.2.2.1; have := HW.out.2.2.1; omega)).trans HF.out.2.1
    have HP9 := Lib.hid hP9
    have HSZ := Lib.hid hS9.1.size
    clear hS9 hP9 LV IT
    go_wp2_with fail
    refine CZ.out.mono ?_
    rintro e w3 ⟨v, v2, rfl, ho, hq, hne, hb3⟩
    obtain ⟨B1, d1, rfl, hr1⟩ := ho.form
    obtain ⟨B2, d2, rfl, hr2⟩ := hq.form
    obtain ⟨base, hbase, ho, hq⟩ : ∃ base, W.heap.size ≤ base ∧ Own w3 base (.slice B1 xs.length d1) xs ∧ OwnQ 68 w3 base (.slice B2 ss.length d2) ss := ⟨_, HSZ.out, ho, hq⟩
    obtain ⟨g, rfl⟩ := own_head ho HP0.out.1
    obtain ⟨V, hV⟩ : ∃ V, V = w3.alloc (.cells #[.slice (some ⟨g, 0, none⟩) xs.length d1, .slice B2 ss.length d2] 26) := ⟨_, rfl⟩
    have hbV : Below w3.heap.size w3 V := by rw [hV]; exact (Below.refl _ _).alloc (Nat.le_refl _) _
    have hXV : V.heap[w3.heap.size]? = some (.cells #[.slice (some ⟨g, 0, none⟩) xs.length d1, .slice B2 ss.length d2] 26 (0, 0)) := by rw [hV]; exact World.alloc_heap_new w3 _
    have hP9 := HP9.out
    have hPl := (Array.getElem?_eq_some_iff.1 hP9).1
    have hRl := (Array.getElem?_eq_some_iff.1 HZ.out.2).1
    have hsz3 := hb3.size
    have hPV := (hbV.block P (by omega)).trans ((hb3.block P hPl).trans hP9)
    have hRV := (hbV.block R (by omega)).trans ((hb3.block R hRl).trans HZ.out.2)
    have hWV := Below.on (Below.on HZ.out.1.1 hb3) hbV
    have hgX := (ho.blockOf g rfl)
    have hx2 := hq.blockOf
    obtain ⟨X, hX⟩ : ∃ X, X = w3.heap.size := ⟨_, rfl⟩
    have hRW0 : R + 1 = W.heap.size := by have := HF.out.2.2.2.1; have := HW.out.2.2.2.1; omega
    have hRX : R < X := by omega
    rw [← hX] at hXV hgX hx2
    have HV := Lib.hid (And.intro hXV (And.intro hRV (And.intro hWV (And.intro (ho.keep hbV (Nat.le_refl _)) (And.intro (hq.keep hbV (Nat.le_refl _)) (And.intro hgX (And.intro hx2 (And.intro hne (And.intro hbase (And.intro hRW0 hRX))))))))))
    have HVE := Lib.hid (And.intro hV hX)
    obtain ⟨⟨k1, k2⟩, _⟩ := boxTwo_cells hPV
    have hbb : Below V.heap.size V V := Below.refl _ _
    clear ho hq hne hb3 hr1 hr2 hV hbV hXV hP9 hPl hRl hsz3 hPV hRV hWV hgX hx2 hX hbase hRW0 hRX
    go_wp2_with fail
    rw [← HVE.out.1, ← HVE.out.2]
    go_region_held3 (fun w' => Below V.heap.size V w' ∧ w'.cell? ⟨P, 0, none⟩ = some (.slice A1 n c1) ∧ w'.cell? ⟨P, 1, none⟩ = some (.slice A2 m c2))
      (first | assumption | exact held2_drew ⟨by assumption, by assumption, by assumption⟩ | exact held2_drew (by assumption) | exact held2_call (by assumption) (by assumption) (Below.size (And.left (by assumption))))
      (first | (go_at_call 37; refine (RT.out _ (by first | exact HA | exact HB) _ (Below.on HV.out.2.2.1 (‹Below V.heap.size V _ ∧ _›).1)).mono ?_; rintro e w8 ⟨rfl, rfl⟩))
    have hS4 := ‹Below V.heap.size V _ ∧ _›
    have UZ := Lib.hid (UN.out _ (Below.on HV.out.2.2.1 hS4.1))
    have HB4 := Lib.hid hS4.1
    obtain ⟨_, k1, k2⟩ := hS4
    go_wp2_with fail
    refine UZ.out.mono ?_
    rintro e w5 ⟨rfl, hb5⟩
    have hbV5 : Below V.heap.size V w5 := Below.on HB4.out hb5
    obtain ⟨hXV, hRV, hWV, hoV, hqV, hgX, hx2, hne, hbase, hRW0, hRX⟩ := HV.out
    have hX5 := (hbV5.block X (Array.getElem?_eq_some_iff.1 hXV).1).trans hXV
    have hR5 := (hbV5.block R (Array.getElem?_eq_some_iff.1 hRV).1).trans hRV
    have ho5 := hoV.keep hbV5 (Nat.le_refl _)
    have hq5 := hqV.keep hbV5 (Nat.le_refl _)
    have hbw5 := Below.on (Below.on HF.out.1 hWV) hbV5
    have hwR : w.heap.size ≤ R := by have := HW.out.2.2.2.1; omega
    have hRb : R < base := by omega
    obtain ⟨hgb, hpX⟩ := hgX
    have hgX := hgb
    obtain ⟨⟨x1, x2⟩, x3, x4⟩ := boxTwo_cells hX5
    clear hXV hRV hWV hoV hqV hbV5 hb5 hRW0 k1 k2 UZ UN RT CP CZ
    cases d with
    | true =>
      have hp : (ρ a) < xs.length := by have := HPQ.out; have := HX.out.2.1; omega
      have hpn : (((ρ a) : Nat) : Int) < (xs.length : Int) := by omega
      have s1 := ho5.slot hp
      have fr := ho5.free (ρ a)
      obtain ⟨W6, hW6⟩ : ∃ W6, W6 = w5.setCell ⟨g, (ρ a), none⟩ (.int .i64 ((ρ b) : Int)) := ⟨_, rfl⟩
      have ho6 : Own W6 base (.slice (some ⟨g, 0, none⟩) xs.length d1) (xs.set ((ρ a)) ((ρ b) : Int)) := by rw [hW6]; exact ho5.set_ ((ρ a)) ((ρ b) : Int)
      have hq6 : OwnQ 68 W6 base (.slice B2 ss.length d2) ss := by rw [hW6]; exact hq5.kept (cell_growth w5 g ((ρ a)) _) (.inr (fun e => hne g rfl g e rfl))
      have hX6 : W6.heap[X]? = some (.cells #[.slice (some ⟨g, 0, none⟩) xs.length d1, .slice B2 ss.length d2] 26 (0, 0)) := by rw [hW6]; exact (Below.heap_setCell w5 ⟨g, (ρ a), none⟩ _ X (by show X ≠ g; omega)).trans hX5
      have hR6 : W6.heap[R]? = some (.cells #[.slice none 0 0, .slice none 0 0] 26 (0, 0)) := by rw [hW6]; exact (Below.heap_setCell w5 ⟨g, (ρ a), none⟩ _ R (by show R ≠ g; omega)).trans hR5
      have hb6 : Below w.heap.size w W6 := by rw [hW6]; exact hbw5.setCell (p := ⟨g, (ρ a), none⟩) (by show w.heap.size ≤ g; omega) _
      have hs6 : base ≤ W6.heap.size := by have := (Array.getElem?_eq_some_iff.1 hX6).1; omega
      obtain ⟨⟨y1, y2⟩, _⟩ := boxTwo_cells hX6
      have hlu : lowI xs 1 (ρ a) (ρ b) = (ρ a) ∧ uppI xs 1 (ρ a) (ρ b) = (ρ b) := HE.out.2.2.1.1 rfl
      have HU := Lib.hid (And.intro ho6 (And.intro hb6 (And.intro hlu (And.intro hpX (And.intro hgX (And.intro hRb hbase))))))
      have HR6 := Lib.hid hR6
      have HX6 := Lib.hid hX6
      have HB2 := Lib.hid (And.intro hx2 hne)
      have HWR := Lib.hid hwR
      have hsl : ss.length ≤ 1048576 := by have := HX.out.2.2; have := HM.out; omega
      have hXl := (Array.getElem?_eq_some_iff.1 hX6).1
      have hRl := (Array.getElem?_eq_some_iff.1 hR6).1
      have HW6 := Lib.hid (And.intro hW6 (show w5.heap.size = W6.heap.size by rw [hW6]; simp [World.setCell]))
      rw [hW6] at y1 y2
      clear hp ho6 hX6 hR6 hb6 hlu hpX hgX hRb hbase ho5 hq5 hX5 hR5 hbw5 hne hx2 hwR hW6
      go_wp2_with (at_builtin; rw [← HW6.out.1, HW6.out.2]; go_must (refine wpList_pushS rfl (.tmp 66) (.tmp 70) rfl W6 base (.slice B2 ss.length d2) ss ((ρ a) : Int) ((ρ b) : Int) rfl rfl hq6 hsl hs6 ?_); intro v' w9 ho9 hg9 hl9; obtain ⟨A9, c9, rfl, _⟩ := ho9.form; have hX9 : w9.heap[X]? = some (.cells #[.slice (some ⟨g, 0, none⟩) xs.length d1, .slice B2 ss.length d2] 26 (0, 0)) := (hg9.block X hXl (fun e => by have := (HB2.out.1 X e.symm).2; have := HU.out.2.2.2.1; omega)).trans HX6.out; have hR9 : w9.heap[R]? = some (.cells #[.slice none 0 0, .slice none 0 0] 26 (0, 0)) := (hg9.block R hRl (fun e => by have := (HB2.out.1 R e.symm).1; have := HU.out.2.2.2.2.2.1; omega)).trans HR6.out; have hXU := boxTwo_second hX9 (.slice A9 (ss.length + 1) c9); have hRU := (Below.heap_setCell w9 ⟨X, 1, none⟩ (.slice A9 (ss.length + 1) c9) R (by show R ≠ X; have := HU.out; omega)).trans hR9; obtain ⟨⟨_, c2⟩, _, c4⟩ := boxTwo_cells hX9; obtain ⟨⟨u1, u2⟩, _⟩ := boxTwo_cells hXU; obtain ⟨⟨r1, r2⟩, r3, r4⟩ := boxTwo_cells hRU)
      obtain ⟨ho6, hb6, hlu, hpX, hgX, hRb, hbase⟩ := HU.out
      have hx9 := ho9.blockOf
      have e9 : (ss ++ [(((ρ a) : Int), ((ρ b) : Int))]).length = ss.length + 1 := by simp
      rw [e9] at ho9 hx9 hl9
      obtain ⟨hx2, hne⟩ := HB2.out
      have ho9' : Own w9 base (.slice (some ⟨g, 0, none⟩) xs.length d1) (xs.set (ρ a) ((ρ b) : Int)) := ho6.kept hg9 (by
        cases e2 : (Value.slice B2 ss.length d2).ownBlock with
        | none => exact .inr (by simp [Value.ownBlock])
        | some y => exact .inr (fun e => hne g rfl y e2 (by rw [← e] at e2; have e3 : (Value.slice (some ⟨g, 0, none⟩) xs.length d1).ownBlock = some g := rfl; rw [e3] at e; injection e)))
      have hXne : ∀ k, (Value.slice A9 (ss.length + 1) c9).ownBlock = some k → k ≠ X := fun k hk => by
        rcases hl9 with h | ⟨z, h, hz⟩
        · rw [h] at hk
          have := (hx2 k hk).2
          omega
        · rw [h] at hk
          injection hk with hk
          omega
      have hbw9 : Below w.heap.size w w9 := hb6.grown hg9 (by have := (Array.getElem?_eq_some_iff.1 HR6.out).1; have := HWR.out; omega) (fun k e => by have := (hx2 k e).1; have := HWR.out; omega)
      have hU : Own (w9.setCell ⟨X, 1, none⟩ (.slice A9 (ss.length + 1) c9)) (R + 1) (.slice (some ⟨g, 0, none⟩) xs.length d1) (xs.set (ρ a) ((ρ b) : Int)) := (ho9'.kept (cell_growth w9 X 1 _) (.inr (fun e => by have e3 : (Value.slice (some ⟨g, 0, none⟩) xs.length d1).ownBlock = some g := rfl; rw [e3] at e; injection e; omega))).less (by omega)
      have hU2 : OwnQ 68 (w9.setCell ⟨X, 1, none⟩ (.slice A9 (ss.length + 1) c9)) (R + 1) (.slice A9 (ss.length + 1) c9) (ss ++ [(((ρ a) : Int), ((ρ b) : Int))]) := (ho9.kept (cell_growth w9 X 1 _) (by
        cases e2 : (Value.slice A9 (ss.length + 1) c9).ownBlock with
        | none => exact .inl rfl
        | some y => exact .inr (fun e => by injection e with e; exact hXne y e2 e))).less (by omega)
      have hbU : Below w.heap.size w (w9.setCell ⟨X, 1, none⟩ (.slice A9 (ss.length + 1) c9)) := hbw9.setCell (p := ⟨X, 1, none⟩) (by show w.heap.size ≤ X; have := HWR.out; omega) _
      obtain ⟨q1, q2, _, q4⟩ := copy_end hbU HWR.out hU hU2
      obtain ⟨⟨k1, k2⟩, _⟩ := boxTwo_cells (boxTwo_set hRU (.slice (some ⟨g, 0, none⟩) xs.length d1) (.slice A9 (ss.length + 1) c9))
      refine bodyPost_ret (v := .tuple #[.agg #[.slice (some ⟨g, 0, none⟩) xs.length d1, .slice A9 (ss.length + 1) c9], .bool true]) (by simp [results, Try.results8, go_sem, k1, k2]) rfl ?_
      refine ⟨_, _, rfl, fun _ => ?_, ⟨⟨_, _, _, rfl⟩, _, _, _, rfl⟩, q4⟩
      rw [HE.out.1, HE.out.2.1, hlu.1, hlu.2]
      exact ⟨q1, q2⟩
    | false =>
      have hp : (ρ b) < xs.length := by have := HPQ.out; have := HX.out.2.1; omega
      have hpn : (((ρ b) : Nat) : Int) < (xs.length : Int) := by omega
      have s1 := ho5.slot hp
      have fr := ho5.free (ρ b)
      obtain ⟨W6, hW6⟩ : ∃ W6, W6 = w5.setCell ⟨g, (ρ b), none⟩ (.int .i64 ((ρ a) : Int)) := ⟨_, rfl⟩
      have ho6 : Own W6 base (.slice (some ⟨g, 0, none⟩) xs.length d1) (xs.set ((ρ b)) ((ρ a) : Int)) := by rw [hW6]; exact ho5.set_ ((ρ b)) ((ρ a) : Int)
      have hq6 : OwnQ 68 W6 base (.slice B2 ss.length d2) ss := by rw [hW6]; exact hq5.kept (cell_growth w5 g ((ρ b)) _) (.inr (fun e => hne g rfl g e rfl))
      have hX6 : W6.heap[X]? = some (.cells #[.slice (some ⟨g, 0, none⟩) xs.length d1, .slice B2 ss.length d2] 26 (0, 0)) := by rw [hW6]; exact (Below.heap_setCell w5 ⟨g, (ρ b), none⟩ _ X (by show X ≠ g; omega)).trans hX5
      have hR6 : W6.heap[R]? = some (.cells #[.slice none 0 0, .slice none 0 0] 26 (0, 0)) := by rw [hW6]; exact (Below.heap_setCell w5 ⟨g, (ρ b), none⟩ _ R (by show R ≠ g; omega)).trans hR5
      have hb6 : Below w.heap.size w W6 := by rw [hW6]; exact hbw5.setCell (p := ⟨g, (ρ b), none⟩) (by show w.heap.size ≤ g; omega) _
      have hs6 : base ≤ W6.heap.size := by have := (Array.getElem?_eq_some_iff.1 hX6).1; omega
      obtain ⟨⟨y1, y2⟩, _⟩ := boxTwo_cells hX6
      have hlu : lowI xs 1 (ρ a) (ρ b) = (ρ b) ∧ uppI xs 1 (ρ a) (ρ b) = (ρ a) := HE.out.2.2.1.2 rfl
      have HU := Lib.hid (And.intro ho6 (And.intro hb6 (And.intro hlu (And.intro hpX (And.intro hgX (And.intro hRb hbase))))))
      have HR6 := Lib.hid hR6
      have HX6 := Lib.hid hX6
      have HB2 := Lib.hid (And.intro hx2 hne)
      have HWR := Lib.hid hwR
      have hsl : ss.length ≤ 1048576 := by have := HX.out.2.2; have := HM.out; omega
      have hXl := (Array.getElem?_eq_some_iff.1 hX6).1
      have hRl := (Array.getElem?_eq_some_iff.1 hR6).1
      have HW6 := Lib.hid (And.intro hW6 (show w5.heap.size = W6.heap.size by rw [hW6]; simp [World.setCell]))
      rw [hW6] at y1 y2
      clear hp ho6 hX6 hR6 hb6 hlu hpX hgX hRb hbase ho5 hq5 hX5 hR5 hbw5 hne hx2 hwR hW6
      go_wp2_with (at_builtin; rw [← HW6.out.1, HW6.out.2]; go_must (refine wpList_pushS rfl (.tmp 66) (.tmp 70) rfl W6 base (.slice B2 ss.length d2) ss ((ρ b) : Int) ((ρ a) : Int) rfl rfl hq6 hsl hs6 ?_); intro v' w9 ho9 hg9 hl9; obtain ⟨A9, c9, rfl, _⟩ := ho9.form; have hX9 : w9.heap[X]? = some (.cells #[.slice (some ⟨g, 0, none⟩) xs.length d1, .slice B2 ss.length d2] 26 (0, 0)) := (hg9.block X hXl (fun e => by have := (HB2.out.1 X e.symm).2; have := HU.out.2.2.2.1; omega)).trans HX6.out; have hR9 : w9.heap[R]? = some (.cells #[.slice none 0 0, .slice none 0 0] 26 (0, 0)) := (hg9.block R hRl (fun e => by have := (HB2.out.1 R e.symm).1; have := HU.out.2.2.2.2.2.1; omega)).trans HR6.out; have hXU := boxTwo_second hX9 (.slice A9 (ss.length + 1) c9); have hRU := (Below.heap_setCell w9 ⟨X, 1, none⟩ (.slice A9 (ss.length + 1) c9) R (by show R ≠ X; have := HU.out; omega)).trans hR9; obtain ⟨⟨_, c2⟩, _, c4⟩ := boxTwo_cells hX9; obtain ⟨⟨u1, u2⟩, _⟩ := boxTwo_cells hXU; obtain ⟨⟨r1, r2⟩, r3, r4⟩ := boxTwo_cells hRU)
      obtain ⟨ho6, hb6, hlu, hpX, hgX, hRb, hbase⟩ := HU.out
      have hx9 := ho9.blockOf
      have e9 : (ss ++ [(((ρ b) : Int), ((ρ a) : Int))]).length = ss.length + 1 := by simp
      rw [e9] at ho9 hx9 hl9
      obtain ⟨hx2, hne⟩ := HB2.out
      have ho9' : Own w9 base (.slice (some ⟨g, 0, none⟩) xs.length d1) (xs.set (ρ b) ((ρ a) : Int)) := ho6.kept hg9 (by
        cases e2 : (Value.slice B2 ss.length d2).ownBlock with
        | none => exact .inr (by simp [Value.ownBlock])
        | some y => exact .inr (fun e => hne g rfl y e2 (by rw [← e] at e2; have e3 : (Value.slice (some ⟨g, 0, none⟩) xs.length d1).ownBlock = some g := rfl; rw [e3] at e; injection e)))
      have hXne : ∀ k, (Value.slice A9 (ss.length + 1) c9).ownBlock = some k → k ≠ X := fun k hk => by
        rcases hl9 with h | ⟨z, h, hz⟩
        · rw [h] at hk
          have := (hx2 k hk).2
          omega
        · rw [h] at hk
          injection hk with hk
          omega
      have hbw9 : Below w.heap.size w w9 := hb6.grown hg9 (by have := (Array.getElem?_eq_some_iff.1 HR6.out).1; have := HWR.out; omega) (fun k e => by have := (hx2 k e).1; have := HWR.out; omega)
      have hU : Own (w9.setCell ⟨X, 1, none⟩ (.slice A9 (ss.length + 1) c9)) (R + 1) (.slice (some ⟨g, 0, none⟩) xs.length d1) (xs.set (ρ b) ((ρ a) : Int)) := (ho9'.kept (cell_growth w9 X 1 _) (.inr (fun e => by have e3 : (Value.slice (some ⟨g, 0, none⟩) xs.length d1).ownBlock = some g := rfl; rw [e3] at e; injection e; omega))).less (by omega)
      have hU2 : OwnQ 68 (w9.setCell ⟨X, 1, none⟩ (.slice A9 (ss.length + 1) c9)) (R + 1) (.slice A9 (ss.length + 1) c9) (ss ++ [(((ρ b) : Int), ((ρ a) : Int))]) := (ho9.kept (cell_growth w9 X 1 _) (by
        cases e2 : (Value.slice A9 (ss.length + 1) c9).ownBlock with
        | none => exact .inl rfl
        | some y => exact .inr (fun e => by injection e with e; exact hXne y e2 e))).less (by omega)
      have hbU : Below w.heap.size w (w9.setCell ⟨X, 1, none⟩ (.slice A9 (ss.length + 1) c9)) := hbw9.setCell (p := ⟨X, 1, none⟩) (by show w.heap.size ≤ X; have := HWR.out; omega) _
      obtain ⟨q1, q2, _, q4⟩ := copy_end hbU HWR.out hU hU2
      obtain ⟨⟨k1, k2⟩, _⟩ := boxTwo_cells (boxTwo_set hRU (.slice (some ⟨g, 0, none⟩) xs.length d1) (.slice A9 (ss.length + 1) c9))
      refine bodyPost_ret (v := .tuple #[.agg #[.slice (some ⟨g, 0, none⟩) xs.length d1, .slice A9 (ss.length + 1) c9], .bool true]) (by simp [results, Try.results8, go_sem, k1, k2]) rfl ?_
      refine ⟨_, _, rfl, fun _ => ?_, ⟨⟨_, _, _, rfl⟩, _, _, _, rfl⟩, q4⟩
      rw [HE.out.1, HE.out.2.1, hlu.1, hlu.2]
      exact ⟨q1, q2⟩
end Go.Proofs.Ytichcnaomcpnhaa
