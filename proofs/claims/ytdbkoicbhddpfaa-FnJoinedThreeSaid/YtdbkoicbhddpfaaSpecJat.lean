/- The model's JoinedAt. Condition: lengths up to 1048576; no more steps than the slice has room for. -/
import Derived.Test.YtdbkoicbhddpfaaBackwards
import Derived.Test.YtdbkoicbhddpfaaSpecLogV
import Derived.Deep.RegionHeld3
namespace Go.Proofs.Ytdbkoicbhddpfaa
open Go.RowKit Go.Shelf

theorem steps_slice (A2 : Option Addr) (m c2 k : Nat) (hk : k ≤ m) (hc : m ≤ c2) (w : World) : (Instr.slice 24 (.slice A2 m c2) none (some (.int .i64 (k : Int))) none).run Try.prog w = .ok (.slice A2 k c2) w := by
  have hsz : ∀ w, (sizeOf 45).run Try.prog w = .ok 2 w := fun w => by simp [sizeOf, go_sem]; rfl
  cases A2 with
  | none =>
    simp [go_sem, hsz]
    omega
  | some a =>
    obtain ⟨b, o, p⟩ := a
    by_cases h0 : c2 = 0
    · simp [go_sem, hsz, h0]
      omega
    · simp [go_sem, hsz, h0]
      omega
set_option maxRecDepth 100000 in
set_option maxHeartbeats 8000000 in
theorem specJat_good (A1 A2 : Option Addr) (n c1 m c2 B0 a b : Nat) (xs : List Int) (ss : List (Int × Int)) (w : World) (h1 : Rd w B0 A1 n xs) (h2 : RdQ w B0 A2 m ss) (hB0 : B0 ≤ w.heap.size) (hcap : m ≤ c2) (hv : logV xs ss = true) (ha : a < n) (hb : b < n) :
    Calls Try.prog 43 #[.agg #[.slice A1 n c1, .slice A2 m c2], .int .i64 (a : Int), .int .i64 (b : Int)] w fun e w' => e = .returned (.int .i64 (jatN xs ss (a : Int) (b : Int))) ∧ Below w.heap.size w w' := by
  obtain ⟨W, hW⟩ : ∃ W, W = w.alloc (.cells #[.slice A1 n c1, .slice A2 m c2] 26) := ⟨_, rfl⟩
  have eW : W.heap.size = w.heap.size + 1 := by rw [hW]; simp
  have hA : W.heap[w.heap.size]? = some (.cells #[.slice A1 n c1, .slice A2 m c2] 26 (0, 0)) := by rw [hW]; exact World.alloc_heap_new w _
  have hbW : Below w.heap.size w W := by rw [hW]; exact (Below.refl _ _).alloc (Nat.le_refl _) _
  obtain ⟨⟨p1, p16⟩, hbu, hfv⟩ := logV_parts hv
  have hsh := built_short p1 p16 hbu
  have hl := h1.1
  have hlm := h2.1
  have h1W := h1.below hbW hB0
  have h2W := h2.below hbW hB0
  have hBW : B0 ≤ W.heap.size := Nat.le_trans hB0 hbW.size
  have LV := Lib.hid (specLogV_good A1 A2 n c1 m c2 B0 xs ss W h1W h2W hBW (by omega) hv)
  have IT : Hid (∀ (z : Nat), Hid (z < n) → ∀ w8, Below W.heap.size W w8 → Calls Try.prog 81 #[.slice A1 n c1, .int .i64 (z : Int)] w8 fun e w' => e = .returned (.bool true) ∧ Below w8.heap.size w8 w') := fun z hz w8 h8 => by
    have := l1Item_any A1 n c1 B0 xs (z : Int) w8 (h1W.below h8 hBW) (Nat.le_trans hBW h8.size) (by omega)
    rw [item_of hfv (by omega) (by have := hz.out; omega)] at this
    exact this
  have LB := Lib.hid (fun (k : Nat) (hk : Hid (k ≤ m)) (w8 : World) (h8 : Below W.heap.size W w8) => l4Built_good n A2 k c2 B0 (ss.take k) (upAt xs ss k) w8 ((h2W.below h8 hBW).take hk.out) (Nat.le_trans hBW h8.size) (by have := hk.out; omega) (by omega) (by omega) (by have := (upAt_built hv (show k ≤ ss.length by have := hk.out; omega)).1; rw [hl] at this; exact this))
  obtain ⟨P, hP⟩ : ∃ P, P = w.heap.size := ⟨_, rfl⟩
  rw [← hP] at hA
  obtain ⟨k1, k2⟩ := (boxTwo_cells hA).1
  have HW := Lib.hid (And.intro hW hP)
  have HF := Lib.hid (And.intro hbW (And.intro hA (show P < W.heap.size by omega)))
  have HV := Lib.hid (And.intro hv (And.intro hl (And.intro hlm (And.intro hsh (And.intro hcap (And.intro ha hb))))))
  have HAN := Lib.hid ha
  have HBN := Lib.hid hb
  have hm16 : m ≤ 16 := by omega
  clear h1 h2 hB0 hcap hv ha hb hW eW hA hbW p1 p16 hbu hfv hsh hl hlm h1W h2W hBW hP
  go_enter Try.func43, Try.ntmps43
  go_wp2_with fail
  rw [← HW.out.1, ← HW.out.2]
  refine LV.out.mono ?_
  rintro e w1 ⟨rfl, hb1⟩
  obtain ⟨⟨k3, k4⟩, _⟩ := boxTwo_cells ((hb1.block P HF.out.2.2).trans HF.out.2.1)
  have IA := Lib.hid (IT.out a HAN _ hb1)
  have HB1 := Lib.hid hb1
  clear hb1 LV
  go_wp2_with fail
  refine IA.out.mono ?_
  rintro e w2 ⟨rfl, hb2⟩
  have hb2' := Below.on HB1.out hb2
  obtain ⟨⟨k5, k6⟩, _⟩ := boxTwo_cells ((hb2'.block P HF.out.2.2).trans HF.out.2.1)
  have IB := Lib.hid (IT.out b HBN _ hb2')
  have HB2 := Lib.hid hb2'
  clear hb2 hb2' k3 k4 IA HB1
  go_wp2_with fail
  refine IB.out.mono ?_
  rintro e w3 ⟨rfl, hb3⟩
  have hb3' := Below.on HB2.out hb3
  obtain ⟨⟨k7, k8⟩, _⟩ := boxTwo_cells ((hb3'.block P HF.out.2.2).trans HF.out.2.1)
  have HI0 : Hid (Below W.heap.size W w3 ∧ ∀ j, j < 0 → tgN xs ss a b j = false) := ⟨hb3', fun j hj => by omega⟩
  clear hb3 hb3' k5 k6 IB HB2 IT
  go_wp2_with fail
  go_loopw [31] (fun i wr => ∃ k : Nat, k ≤ m + 1 ∧ i = .int .i64 (k : Int) ∧ Hid (Below W.heap.size W wr ∧ ∀ j, j < k → tgN xs ss a b j = false)) (fun i _ => m + 1 - (intOf i).toNat)
  case atStart => exact ⟨0, by omega, rfl, HI0⟩
  case round =>
    obtain ⟨k, hkm, rfl, HK⟩ := hrel
    clear HI0 k7 k8
    by_cases hlt : k < m + 1
    · have hkk : (k : Int) < (m : Int) + 1 := by omega
      have hk0 : k ≤ m := by omega
      have hbr := HK.out.1
      obtain ⟨⟨q1, q2⟩, _⟩ := boxTwo_cells ((hbr.block P HF.out.2.2).trans HF.out.2.1)
      have SL := steps_slice A2 m c2 k hk0 HV.out.2.2.2.2.1
      have HKM := Lib.hid hk0
      have hbb : Below wr.heap.size wr wr := Below.refl _ _
      have HBR := Lib.hid hbr
      clear hbr
      go_wp2_with fail
      go_region_held3 (fun w' => Below wr.heap.size wr w' ∧ w'.cell? ⟨P, 0, none⟩ = some (.slice A1 n c1) ∧ w'.cell? ⟨P, 1, none⟩ = some (.slice A2 m c2))
        (first | assumption | exact held2_drew ⟨by assumption, by assumption, by assumption⟩ | exact held2_drew (by assumption) | exact held2_call (by assumption) (by assumption) (Below.size (And.left (by assumption))))
        (first | (go_at_call 105; refine (LB.out k HKM _ (Below.on HBR.out (‹Below wr.heap.size wr _ ∧ _›).1)).mono ?_; rintro e w8 ⟨v8, rfl, ho8, hb8⟩))
      obtain ⟨A8, c8, rfl, hr8⟩ := ho8.form
      obtain ⟨_, hul, huv, _⟩ := upAt_built HV.out.1 (k := k) (by have := HV.out.2.2.1; omega)
      have hbz := (‹Below wr.heap.size wr w8 ∧ _›).1
      have hln : (upAt xs ss k).length = n := by have := HV.out.2.1; omega
      rw [hln] at hr8 ⊢
      have R1 := Lib.hid (fun (z : Nat) (hz : Hid (z < n)) (w9 : World) (h9 : Below w8.heap.size w8 w9) => l1Root_any A8 n c8 w8.heap.size z (upAt xs ss k) w9 (hr8.below h9 (Nat.le_refl _)) huv hz.out)
      have HBZ := Lib.hid (Below.on HBR.out hbz)
      have HT := Lib.hid HK.out.2
      obtain ⟨ρ, hρ⟩ : ∃ ρ, ρ = rootI (upAt xs ss k) := ⟨_, rfl⟩
      rw [← hρ] at R1
      have htg : tgN xs ss a b k = decide (ρ a = ρ b) := by rw [hρ]; rfl
      have HTG := Lib.hid htg
      clear ho8 hb8 hr8 hul huv hbz hln hρ htg HK hbb SL q1 q2
      by_cases hpq : ρ a = ρ b
      · have t1 : ((ρ a : Int) == (ρ b : Int)) = true := by simp [hpq]
        have HPQ := Lib.hid hpq
        clear hpq
        go_wp2_with fail
        refine (R1.out a HAN _ (Below.refl _ _)).mono ?_
        rintro e w9 ⟨rfl, rfl⟩
        go_wp2_with fail
        refine (R1.out b HBN _ (Below.refl _ _)).mono ?_
        rintro e w9 ⟨rfl, rfl⟩
        go_wp2
        go_ret
        obtain ⟨hv, hl, hlm, _, _, ha, hb⟩ := HV.out
        have hk := HKM.out
        rw [jat_at hv (by omega) (by omega) (show k ≤ ss.length by omega) (by rw [HTG.out, decide_eq_true HPQ.out]) HT.out]
        exact ⟨rfl, Below.on HF.out.1 HBZ.out⟩
      · have t1 : ((ρ a : Int) == (ρ b : Int)) = false := by simp; omega
        have HPQ := Lib.hid hpq
        have HI2 : Hid (Below W.heap.size W w8 ∧ ∀ j, j < k + 1 → tgN xs ss a b j = false) := ⟨HBZ.out, fun j hj => by
          by_cases e : j = k
          · rw [e, HTG.out, decide_eq_false HPQ.out]
          · exact HT.out j (by omega)⟩
        clear hpq
        go_wp2_with fail
        refine (R1.out a HAN _ (Below.refl _ _)).mono ?_
        rintro e w9 ⟨rfl, rfl⟩
        go_wp2_with fail
        refine (R1.out b HBN _ (Below.refl _ _)).mono ?_
        rintro e w9 ⟨rfl, rfl⟩
        go_wp2_with fail
        go_roundw
        case rel => exact ⟨k + 1, by omega, by go_num, HI2⟩
        case measure => simp [intOf]; omega
    · obtain rfl : k = m + 1 := by omega
      have HJ := Lib.hid HK
      clear HK
      go_wp2
      go_ret
      obtain ⟨hv, hl, hlm, _, _, ha, hb⟩ := HV.out
      rw [jat_never hv (by omega) (by omega) (HJ.out.out.2 _ (by omega))]
      exact ⟨rfl, Below.on HF.out.1 HJ.out.out.1⟩
set_option maxRecDepth 100000 in
set_option maxHeartbeats 8000000 in
theorem specJat_any (A1 A2 : Option Addr) (n c1 m c2 B0 : Nat) (a b : Int) (xs : List Int) (ss : List (Int × Int)) (w : World) (h1 : Rd w B0 A1 n xs) (h2 : RdQ w B0 A2 m ss) (hB0 : B0 ≤ w.heap.size) (hcap : m ≤ c2) (hb1 : n ≤ 1048576) (hb2 : m ≤ 1048576) :
    Calls Try.prog 43 #[.agg #[.slice A1 n c1, .slice A2 m c2], .int .i64 a, .int .i64 b] w fun e w' => e = .returned (.int .i64 (jatN xs ss a b)) ∧ Below w.heap.size w w' := by
  have hl := h1.1
  by_cases hg : logV xs ss = true ∧ itemB xs a = true ∧ itemB xs b = true
  · obtain ⟨hv, ha, hb⟩ := hg
    have la := item_lt ha
    have lb := item_lt hb
    obtain ⟨a, rfl⟩ : ∃ x : Nat, a = x := ⟨a.toNat, by omega⟩
    obtain ⟨b, rfl⟩ : ∃ x : Nat, b = x := ⟨b.toNat, by omega⟩
    exact specJat_good A1 A2 n c1 m c2 B0 a b xs ss w h1 h2 hB0 hcap hv (by omega) (by omega)
  rw [jat_no hg]
  obtain ⟨W, hW⟩ : ∃ W, W = w.alloc (.cells #[.slice A1 n c1, .slice A2 m c2] 26) := ⟨_, rfl⟩
  have eW : W.heap.size = w.heap.size + 1 := by rw [hW]; simp
  have hA : W.heap[w.heap.size]? = some (.cells #[.slice A1 n c1, .slice A2 m c2] 26 (0, 0)) := by rw [hW]; exact World.alloc_heap_new w _
  have hbW : Below w.heap.size w W := by rw [hW]; exact (Below.refl _ _).alloc (Nat.le_refl _) _
  have h1W := h1.below hbW hB0
  have h2W := h2.below hbW hB0
  have hBW : B0 ≤ W.heap.size := Nat.le_trans hB0 hbW.size
  have LV := specLogV_any A1 A2 n c1 m c2 B0 xs ss W h1W h2W hBW hb1 hb2
  have IT : Hid (∀ (z : Int) w8, Below W.heap.size W w8 → Calls Try.prog 81 #[.slice A1 n c1, .int .i64 z] w8 fun e w' => e = .returned (.bool (itemB xs z)) ∧ Below w8.heap.size w8 w') := fun z w8 h8 => l1Item_any A1 n c1 B0 xs z w8 (h1W.below h8 hBW) (Nat.le_trans hBW h8.size) hb1
  obtain ⟨P, hP⟩ : ∃ P, P = w.heap.size := ⟨_, rfl⟩
  rw [← hP] at hA
  obtain ⟨k1, k2⟩ := (boxTwo_cells hA).1
  have HW := Lib.hid (And.intro hW hP)
  have HF := Lib.hid (And.intro hbW (And.intro hA (show P < W.heap.size by omega)))
  obtain ⟨lv, hlv⟩ : ∃ x, x = logV xs ss := ⟨_, rfl⟩
  obtain ⟨ia, hia⟩ : ∃ x, x = itemB xs a := ⟨_, rfl⟩
  obtain ⟨ib, hib⟩ : ∃ x, x = itemB xs b := ⟨_, rfl⟩
  have HNO : Hid (lv = true → ia = true → ib = true → False) := fun h1 h2 h3 => hg ⟨hlv.symm.trans h1, hia.symm.trans h2, hib.symm.trans h3⟩
  have IA := IT.out a
  have IB := IT.out b
  rw [← hlv] at LV
  rw [← hia] at IA
  rw [← hib] at IB
  replace LV := Lib.hid LV
  replace IA := Lib.hid IA
  replace IB := Lib.hid IB
  clear h1 h2 hB0 hcap hb1 hb2 hW eW hA hbW h1W h2W hBW hP hl hg hlv hia hib IT
  go_enter Try.func43, Try.ntmps43
  go_wp2_with fail
  rw [← HW.out.1, ← HW.out.2]
  refine LV.out.mono ?_
  rintro e w1 ⟨rfl, hb1⟩
  have HB1 := Lib.hid hb1
  obtain ⟨⟨k3, k4⟩, _⟩ := boxTwo_cells ((hb1.block P HF.out.2.2).trans HF.out.2.1)
  clear hb1 k1 k2
  cases lv with
  | false =>
    go_wp2
    go_ret
    exact ⟨rfl, Below.on HF.out.1 HB1.out⟩
  | true =>
    go_wp2_with fail
    refine (IA.out _ HB1.out).mono ?_
    rintro e w2 ⟨rfl, hb2⟩
    have hb2' := Below.on HB1.out hb2
    have HB2 := Lib.hid hb2'
    obtain ⟨⟨k5, k6⟩, _⟩ := boxTwo_cells ((hb2'.block P HF.out.2.2).trans HF.out.2.1)
    clear hb2 hb2' k3 k4
    cases ia with
    | false =>
      go_wp2
      go_ret
      exact ⟨rfl, Below.on HF.out.1 HB2.out⟩
    | true =>
      go_wp2_with fail
      refine (IB.out _ HB2.out).mono ?_
      rintro e w3 ⟨rfl, hb3⟩
      have HB3 := Lib.hid (Below.on HB2.out hb3)
      clear hb3
      cases ib with
      | false =>
        go_wp2
        go_ret
        exact ⟨rfl, Below.on HF.out.1 HB3.out⟩
      | true => exact absurd trivial (fun _ => HNO.out (by trivial) (by trivial) (by trivial))
end Go.Proofs.Ytdbkoicbhddpfaa
