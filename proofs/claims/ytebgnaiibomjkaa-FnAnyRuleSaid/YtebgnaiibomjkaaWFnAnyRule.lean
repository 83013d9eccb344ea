/- The walk of the law on pairs joined by any rule, in any order: for every row of bytes the law returns true and nothing that was there has turned. -/
import Derived.Test.YtebgnaiibomjkaaJoinAll
import Derived.Test.YtebgnaiibomjkaaSpecAll
import Derived.Test.YtebgnaiibomjkaaDraw11
import Derived.Test.YtebgnaiibomjkaaRdR
import Derived.Test.YtebgnaiibomjkaaLr
import Derived.Test.YtebgnaiibomjkaaRowsAll
import Derived.Test.YtebgnaiibomjkaaSame
import Derived.Deep.RegionHeld3
namespace Go.Proofs.Ytebgnaiibomjkaa
open Go.RowKit

/-- The pairs backwards, each turned. -/
def turned (qs : List (Int × Int)) : List (Int × Int) := qs.reverse.map fun p => (p.2, p.1)
theorem turned_len (qs : List (Int × Int)) : (turned qs).length = qs.length := by simp [turned]
theorem turned_mem {qs : List (Int × Int)} {p : Int × Int} : p ∈ turned qs ↔ (p.2, p.1) ∈ qs := by
  unfold turned
  simp only [List.mem_map, List.mem_reverse]
  constructor
  · rintro ⟨q, hq, rfl⟩; exact hq
  · exact fun h => ⟨_, h, rfl⟩
theorem turned_ok {n : Int} {qs : List (Int × Int)} (h : okQ n qs = true) : okQ n (turned qs) = true := by
  obtain ⟨h1, h2⟩ := okQ_parts h
  exact okQ_of (by rw [turned_len]; exact h1) fun p hp => by have := h2 _ (turned_mem.1 hp); exact ⟨this.2, this.1⟩
theorem turned_at {qs : List (Int × Int)} {j : Nat} (h : j < qs.length) : (turned qs)[qs.length - (j + 1)]?.getD (0, 0) = ((qs[j]?.getD (0, 0)).2, (qs[j]?.getD (0, 0)).1) := by
  unfold turned
  rw [List.getElem?_map, List.getElem?_reverse (by omega), show qs.length - 1 - (qs.length - (j + 1)) = j by omega, List.getElem?_eq_getElem h]
  rfl
theorem natP_turned {qs : List (Int × Int)} : (∀ p ∈ natP qs, p ∈ natP (turned qs) ∨ (p.2, p.1) ∈ natP (turned qs)) ∧ (∀ p ∈ natP (turned qs), p ∈ natP qs ∨ (p.2, p.1) ∈ natP qs) := by
  constructor
  · intro p hp
    obtain ⟨q, hq, rfl⟩ := List.mem_map.1 hp
    exact .inr (List.mem_map.2 ⟨(q.2, q.1), turned_mem.2 hq, rfl⟩)
  · intro p hp
    obtain ⟨q, hq, rfl⟩ := List.mem_map.1 hp
    exact .inr (List.mem_map.2 ⟨(q.2, q.1), turned_mem.1 hq, rfl⟩)
theorem ja_rule {zs : List Int} {r o : Int} {qs : List (Int × Int)} (h : jaB zs r qs = true) (ho : 0 ≤ o ∧ o ≤ 2) :
    (jaB zs o qs = true ∧ sameN (allL zs r (natP qs)) (jaN zs o qs) = true ∧ (jaN zs o qs).length = zs.length) ∧ (jaB zs o (turned qs) = true ∧ sameN (allL zs r (natP qs)) (jaN zs o (turned qs)) = true ∧ (jaN zs o (turned qs)).length = zs.length) := by
  obtain ⟨hv, hr, hk⟩ := jaB_parts h
  have h1 := jaB_of hv ho hk
  have h2 := jaB_of hv ho (turned_ok hk)
  have i1 := okQ_in hk
  have i2 := okQ_in (turned_ok hk)
  refine ⟨⟨h1, ?_, ?_⟩, h2, ?_, ?_⟩
  · rw [jaN_yes h1]
    exact all_same hv i1 i1 (fun p hp => .inl hp) (fun p hp => .inl hp)
  · rw [jaN_yes h1, allL_len]
  · rw [jaN_yes h2]
    exact all_same hv i1 i2 natP_turned.1 natP_turned.2
  · rw [jaN_yes h2, allL_len]
theorem ja_tog {zs : List Int} {r : Int} {qs : List (Int × Int)} (h : jaB zs r qs = true) {k : Nat} (hk : k < qs.length) : togB (allL zs r (natP qs)) (qs[k]?.getD (0, 0)).1 (qs[k]?.getD (0, 0)).2 = true := by
  obtain ⟨hv, hr, hq⟩ := jaB_parts h
  have hin := okQ_in hq
  have hxv := allL_fv hv r hin
  obtain ⟨e1, e2⟩ := okQ_get hq hk
  have hp := hin.get (k := k) (by rw [natP_len]; exact hk)
  have hm : (natP qs)[k]?.getD (0, 0) ∈ natP qs := by
    rw [List.getElem?_eq_getElem (by rw [natP_len]; exact hk)]
    exact List.getElem_mem _
  rw [e1, e2, togB_items (item_of hxv (by omega) (by rw [allL_len]; omega)) (item_of hxv (by omega) (by rw [allL_len]; omega)), all_tog hv r hin hm]
  simp
theorem rule_cells (w : World) (t : TypeId) {j : Nat} (h : j < 3) : (w.alloc (.cells #[.int .i64 0, .int .i64 1, .int .i64 2] t)).cell? ⟨w.heap.size, j, none⟩ = some (.int .i64 (j : Int)) := by
  have h0 := heap_alloc_new w (.cells #[.int .i64 0, .int .i64 1, .int .i64 2] t)
  unfold World.cell?
  rw [h0]
  rcases (show j = 0 ∨ j = 1 ∨ j = 2 by omega) with rfl | rfl | rfl <;> rfl
set_option maxRecDepth 100000 in
set_option maxHeartbeats 16000000 in
theorem fnAnyRule (A0 : Option Addr) (n0 c0 : Nat) (z0 : List Int) (w : World) (h0 : Row .u8 w A0 n0 c0 z0) :
    Calls Try.prog 4 #[.slice A0 n0 c0] w fun e w' => e = .returned (.bool true) ∧ Below w.heap.size w w' := by
  by_cases hl0 : 1048576 < n0
  · clear h0
    go_enter Try.func4, Try.ntmps4
    go_wp2
    go_ret
    exact ⟨rfl, Below.refl _ _⟩
  obtain ⟨b0, hc0⟩ := h0.bt
  have D0 := Lib.hid (drawJoinAll_any A0 n0 c0 w.heap.size z0 w b0 (Nat.le_refl _) hc0)
  clear h0 b0 hc0
  go_enter Try.func4, Try.ntmps4
  go_wp2_with fail
  refine D0.out.mono ?_
  rintro e w1 ⟨v, zs, r, v2, qs, rfl, ho, hl, _, hq, hlq, hb1⟩
  obtain ⟨A, c, rfl, hr⟩ := ho.form
  obtain ⟨A', c', rfl, hrq⟩ := hq.form
  obtain ⟨n, hn⟩ : ∃ n, n = zs.length := ⟨_, rfl⟩
  obtain ⟨m, hm⟩ : ∃ m, m = qs.length := ⟨_, rfl⟩
  rw [← hn] at hr hl
  rw [← hm] at hrq hlq
  rw [← hn, ← hm]
  clear ho hq D0
  have RI := fun (w2 : World) (hb2 : Below w1.heap.size w1 w2) => rd2_of (implJoinAll_any A n c w1.heap.size zs r A' m c' w1.heap.size qs w2 (hr.below hb2 (Nat.le_refl _)) hb2.size (by omega) (hrq.below hb2 (Nat.le_refl _)) hb2.size (by omega))
  have RS := fun (w2 : World) (hb2 : Below w1.heap.size w1 w2) => rd2_of (specJoinAll_any A n c w1.heap.size zs r A' m c' w1.heap.size qs w2 (hr.below hb2 (Nat.le_refl _)) hb2.size (by omega) (hrq.below hb2 (Nat.le_refl _)) hb2.size (by omega))
  cases hv : jaB zs r qs with
  | false =>
    rw [hv, jaN_no hv] at RS RI
    have RI := Lib.hid RI
    have RS := Lib.hid RS
    clear hv hn hm hr hrq
    go_wp2_with fail
    refine (RI.out _ (by repeat (first | assumption | exact Below.refl _ _ | refine Below.on ?_ (by assumption)))).mono ?_
    rintro e w2 ⟨A2, c2, rfl, hr2, hb2⟩
    go_wp2_with fail
    refine (RS.out _ (by repeat (first | assumption | exact Below.refl _ _ | refine Below.on ?_ (by assumption)))).mono ?_
    rintro e w3 ⟨A3, c3, rfl, hr3, hb3⟩
    have hr2 := hr2.to hb3
    go_wp2_with fail
    refine (lrSame_any _ _ _ _ _ _ _ [] _ hr2 hr3 (by simp)).mono ?_
    rintro e w4 ⟨rfl, k4, rfl⟩
    go_wp2_with fail
    refine (lrSame_any _ _ _ _ _ _ _ [] _ (hr2.drewN k4) (hr3.drewN k4) (by simp)).mono ?_
    rintro e w5 ⟨rfl, k5, rfl⟩
    go_wp2_with fail
    go_ret
    exact ⟨rfl, below_drewN (by repeat (first | assumption | exact Below.refl _ _ | refine Below.on ?_ (by assumption))) _⟩
  | true =>
    obtain ⟨hfv, hrr, hk⟩ := jaB_parts hv
    have hin := okQ_in hk
    have hxv := allL_fv hfv r hin
    have hxl := allL_len zs r (natP qs)
    have hmk : m ≤ 24 := by have := (okQ_parts hk).1; omega
    rw [hv, jaN_yes hv] at RI RS
    obtain ⟨x, hx⟩ : ∃ x, x = allL zs r (natP qs) := ⟨_, rfl⟩
    rw [← hx] at RI RS hxv hxl
    rw [hxl, ← hn] at RI RS
    obtain ⟨bs, hbs⟩ : ∃ bs, bs = turned qs := ⟨_, rfl⟩
    have HBL : Hid (bs.length = m) := by show _ = _; rw [hbs, turned_len, hm]
    have HBA : Hid (∀ j, j < m → bs[m - (j + 1)]?.getD (0, 0) = ((qs[j]?.getD (0, 0)).2, (qs[j]?.getD (0, 0)).1)) := fun j hj => by rw [hbs, hm]; exact turned_at (by omega)
    have JY : Hid (∀ (j : Nat), j < 3 → ∀ w2, Below w1.heap.size w1 w2 → Calls Try.prog 25 #[.slice A n c, .int .i64 (j : Int), .slice A' m c'] w2 fun e w' => ∃ A3 c3 y, e = .returned (.tuple #[.slice A3 n c3, .bool true]) ∧ Rd w' w'.heap.size A3 n y ∧ sameN x y = true ∧ Below w2.heap.size w2 w') := fun j hj w2 hb2 => by
      have h := rd2_of (implJoinAll_any A n c w1.heap.size zs (j : Int) A' m c' w1.heap.size qs w2 (hr.below hb2 (Nat.le_refl _)) hb2.size (by omega) (hrq.below hb2 (Nat.le_refl _)) hb2.size (by omega))
      obtain ⟨⟨g1, g2, g3⟩, _⟩ := ja_rule (o := (j : Int)) hv (by omega)
      rw [g1, g3, ← hn] at h
      exact h.mono fun _ _ ⟨A3, c3, e, hr3, hb3⟩ => ⟨A3, c3, _, e, hr3, by rw [hx]; exact g2, hb3⟩
    have JZ : Hid (∀ (j : Nat), j < 3 → ∀ w2 A5 c5, Below w1.heap.size w1 w2 → RdQ w2 w2.heap.size A5 m bs → Calls Try.prog 25 #[.slice A n c, .int .i64 (j : Int), .slice A5 m c5] w2 fun e w' => ∃ A3 c3 y, e = .returned (.tuple #[.slice A3 n c3, .bool true]) ∧ Rd w' w'.heap.size A3 n y ∧ sameN x y = true ∧ Below w2.heap.size w2 w') := fun j hj w2 A5 c5 hb2 h5 => by
      have h := rd2_of (implJoinAll_any A n c w1.heap.size zs (j : Int) A5 m c5 w2.heap.size bs w2 (hr.below hb2 (Nat.le_refl _)) hb2.size (by omega) h5 (Nat.le_refl _) (by omega))
      obtain ⟨_, ⟨g1, g2, g3⟩⟩ := ja_rule (o := (j : Int)) hv (by omega)
      rw [← hbs] at g1 g2 g3
      rw [g1, g3, ← hn] at h
      exact h.mono fun _ _ ⟨A3, c3, e, hr3, hb3⟩ => ⟨A3, c3, _, e, hr3, by rw [hx]; exact g2, hb3⟩
    have HT : Hid (∀ k, k < m → togB x (qs[k]?.getD (0, 0)).1 (qs[k]?.getD (0, 0)).2 = true) := fun k hk => by rw [hx]; exact ja_tog hv (by omega)
    have HXV := Lib.hid hxv
    have RI := Lib.hid RI
    have RS := Lib.hid RS
    have HQ := Lib.hid hrq
    have hn16 : n ≤ 1048576 := by omega
    clear hv hfv hrr hk hin hxv hxl hx hbs hn hm hr hrq hl hlq
    go_wp2_with fail
    refine (RI.out _ (by repeat (first | assumption | exact Below.refl _ _ | refine Below.on ?_ (by assumption)))).mono ?_
    rintro e w2 ⟨A2, c2, rfl, hr2, hb2⟩
    go_wp2_with fail
    refine (RS.out _ (by repeat (first | assumption | exact Below.refl _ _ | refine Below.on ?_ (by assumption)))).mono ?_
    rintro e w3 ⟨A3, c3, rfl, hr3, hb3⟩
    have hr2 := hr2.to hb3
    clear RI RS
    go_wp2_with fail
    refine (lrSame_any _ _ _ _ _ _ _ x _ hr2 hr3 hn16).mono ?_
    rintro e w4' ⟨rfl, k4, rfl⟩
    obtain ⟨w4, hw4⟩ : ∃ w4, w4 = w3.drewN k4 := ⟨_, rfl⟩
    have hb4 : Below w3.heap.size w3 w4 := by rw [hw4]; exact below_drewN (Below.refl _ _) _
    rw [← hw4]
    have HR2 := Lib.hid (hr2.to hb4)
    have HE : Hid (∃ A5 c5, (Value.slice (some ⟨w4.heap.size, 0, none⟩) 0 0) = .slice A5 (m - m) c5 ∧ OwnQ 42 (w4.alloc (.cells #[] 42)) w4.heap.size (.slice (some ⟨w4.heap.size, 0, none⟩) 0 0) (bs.take (m - m))) := ⟨_, _, by rw [Nat.sub_self], by rw [Nat.sub_self]; exact OwnQ.empty _ w4 _ (Nat.le_refl _)⟩
    have hb5 : Below w4.heap.size w4 (w4.alloc (.cells #[] 42)) := (Below.refl _ _).alloc (Nat.le_refl _) _
    clear hr2 hr3 hw4
    go_wp2_with fail
    go_loopw [10, 11] (fun bv i wr => ∃ j : Nat, j ≤ m ∧ i = .int .i64 ((j : Int) - 1) ∧ Hid (∃ A5 c5, bv = .slice A5 (m - j) c5 ∧ OwnQ 42 wr w4.heap.size bv (bs.take (m - j))) ∧ Below w4.heap.size w4 wr) (fun _ i _ => (intOf i + 1).toNat)
    case atStart => exact ⟨m, Nat.le_refl _, rfl, HE, hb5⟩
    case round =>
      obtain ⟨j, hj, rfl, HB, hbe⟩ := hrel
      clear HE hb5
      obtain ⟨A5, c5, rfl, hob⟩ := HB.out
      clear HB
      rcases (show j = 0 ∨ ∃ i, j = i + 1 from by cases j with | zero => exact .inl rfl | succ i => exact .inr ⟨i, rfl⟩) with rfl | ⟨i, rfl⟩
      · have e0 : (((0 : Nat) : Int) - 1) = -1 := by omega
        rw [e0]
        have hob2 : OwnQ 42 wr w4.heap.size (.slice A5 m c5) bs := by
          rw [Nat.sub_zero, List.take_of_length_le (by have := HBL.out; omega)] at hob
          exact hob
        rw [Nat.sub_zero]
        obtain ⟨wA, rfl⟩ : ∃ wA, wA = wr := ⟨_, rfl⟩
        have HQB := Lib.hid hob2.rd
        clear hob hob2 e0
        obtain ⟨W, hW⟩ : ∃ W, W = wA.alloc (.cells #[.int .i64 0, .int .i64 1, .int .i64 2] 24) := ⟨_, rfl⟩
        have hb6 : Below wA.heap.size wA W := by rw [hW]; exact (Below.refl _ _).alloc (Nat.le_refl _) _
        have HC : Hid (∀ j, j < 3 → W.cell? ⟨wA.heap.size, j, none⟩ = some (.int .i64 (j : Int))) := fun j hj => by rw [hW]; exact rule_cells wA _ hj
        have hlW : wA.heap.size < W.heap.size := by rw [hW]; simp
        have HW := Lib.hid hW
        clear hW
        go_wp2_with fail
        rw [← HW.out]
        go_loopw [93] (fun i wq => ∃ j : Nat, j ≤ 3 ∧ i = .int .i64 (j : Int) ∧ Below W.heap.size W wq) (fun i _ => 3 - (intOf i).toNat)
        case atStart => exact ⟨0, by omega, rfl, Below.refl _ _⟩
        case round =>
          obtain ⟨j, hj3, rfl, hbq⟩ := hrel
          obtain ⟨wq, rfl⟩ : ∃ wq, wq = wr := ⟨_, rfl⟩
          by_cases hlt : j < 3
          · have g1 := (hbq.cell (p := ⟨wA.heap.size, j, none⟩) hlW).trans (HC.out j hlt)
            have hjj : (j : Int) < 3 := by omega
            go_wp2_with fail
            refine (JY.out j hlt _ (by repeat (first | assumption | exact Below.refl _ _ | refine Below.on ?_ (by assumption)))).mono ?_
            rintro e w6 ⟨A6, c6, y, rfl, hr6, hs6, hb7⟩
            clear g1
            have SY := Lib.hid (fun (w7 : World) (hb7 : Below w6.heap.size w6 w7) (hb2 : Below w4.heap.size w4 w7) => implSame_any A2 n c2 w4.heap.size x A6 n c6 w6.heap.size y w7 (HR2.out.below hb2 (Nat.le_refl _)) hb2.size hn16 (hr6.below hb7 (Nat.le_refl _)) hb7.size hn16)
            rw [hs6] at SY
            clear hr6 hs6
            go_wp2_with fail
            refine (JZ.out j hlt _ A5 c5 (by repeat (first | assumption | exact Below.refl _ _ | refine Below.on ?_ (by assumption))) ((HQB.out.to (Below.on hb6 (Below.on hbq hb7))))).mono ?_
            rintro e w7 ⟨A7, c7, y7, rfl, hr7, hs7, hb8⟩
            have SZ := Lib.hid (fun (w8 : World) (hb8 : Below w7.heap.size w7 w8) (hb2 : Below w4.heap.size w4 w8) => implSame_any A2 n c2 w4.heap.size x A7 n c7 w7.heap.size y7 w8 (HR2.out.below hb2 (Nat.le_refl _)) hb2.size hn16 (hr7.below hb8 (Nat.le_refl _)) hb8.size hn16)
            rw [hs7] at SZ
            clear hr7 hs7
            go_wp2_with fail
            refine (SY.out _ (by repeat (first | assumption | exact Below.refl _ _ | refine Below.on ?_ (by assumption))) (by repeat (first | assumption | exact Below.refl _ _ | refine Below.on ?_ (by assumption)))).mono ?_
            rintro e w8 ⟨rfl, hb9⟩
            go_wp2_with fail
            refine (SZ.out _ (by repeat (first | assumption | exact Below.refl _ _ | refine Below.on ?_ (by assumption))) (by repeat (first | assumption | exact Below.refl _ _ | refine Below.on ?_ (by assumption)))).mono ?_
            rintro e w9 ⟨rfl, hb10⟩
            clear SY SZ
            go_wp2_with fail
            go_roundw
            case rel => exact ⟨j + 1, by omega, by go_num, (by repeat (first | assumption | exact Below.refl _ _ | refine Below.on ?_ (by assumption)))⟩
            case measure => simp [intOf]; omega
          · have hjj : ¬ (j : Int) < 3 := by omega
            clear JY JZ HC hlW
            go_wp2_with fail
            go_loopw [132] (fun i wz => ∃ k : Nat, k ≤ m ∧ i = .int .i64 (k : Int) ∧ Below wq.heap.size wq wz) (fun i _ => m - (intOf i).toNat)
            case atStart => exact ⟨0, by omega, rfl, Below.refl _ _⟩
            case round =>
              obtain ⟨k, hkm, rfl, hbz⟩ := hrel
              obtain ⟨wz, rfl⟩ : ∃ wz, wz = wr := ⟨_, rfl⟩
              by_cases hlt2 : k < m
              · have hb1z : Below w1.heap.size w1 wz := (by repeat (first | assumption | exact Below.refl _ _ | refine Below.on ?_ (by assumption)))
                obtain ⟨b0, off, rfl, _, hc1⟩ := (HQ.out.below hb1z (Nat.le_refl _)).2 (by omega)
                obtain ⟨g1, g2⟩ := hc1 k hlt2
                have hkk : (k : Int) < (m : Int) := by omega
                have ht := HT.out k hlt2
                obtain ⟨a, ha⟩ : ∃ a, a = (qs[k]?.getD (0, 0)).1 := ⟨_, rfl⟩
                obtain ⟨b, hb⟩ : ∃ b, b = (qs[k]?.getD (0, 0)).2 := ⟨_, rfl⟩
                rw [← ha] at g1 ht
                rw [← hb] at g2 ht
                have TG := Lib.hid (fun (w7 : World) (hb2 : Below w4.heap.size w4 w7) => implTog_any A2 n c2 w4.heap.size x a b w7 (HR2.out.below hb2 (Nat.le_refl _)) hb2.size hn16)
                rw [ht] at TG
                have hba : Below wz.heap.size wz (wz.alloc (.cells #[.int .i64 a, .int .i64 b] 42)) := (Below.refl _ _).alloc (Nat.le_refl _) _
                clear hc1 ha hb ht hb1z
                go_wp2_with fail
                refine (TG.out _ (by repeat (first | assumption | exact Below.refl _ _ | refine Below.on ?_ (by assumption)))).mono ?_
                rintro e w8 ⟨rfl, hb9⟩
                have hbn : Below wq.heap.size wq w8 := Below.on hbz (Below.on hba hb9)
                clear TG hba hb9 g1 g2
                go_wp2_with fail
                go_roundw
                case rel => exact ⟨k + 1, by omega, by go_num, hbn⟩
                case measure => simp [intOf]; omega
              · obtain rfl : k = m := by omega
                have VL := Lib.hid (fun (w7 : World) (hb2 : Below w4.heap.size w4 w7) => implValid_any A2 n c2 w4.heap.size x w7 (HR2.out.below hb2 (Nat.le_refl _)) hb2.size hn16)
                rw [HXV.out] at VL
                go_wp2_with fail
                refine (VL.out _ (by repeat (first | assumption | exact Below.refl _ _ | refine Below.on ?_ (by assumption)))).mono ?_
                rintro e w8 ⟨rfl, hb9⟩
                go_wp2_with fail
                go_ret
                exact ⟨rfl, (by repeat (first | assumption | exact Below.refl _ _ | refine Below.on ?_ (by assumption)))⟩
      · have e0 : (((i + 1 : Nat) : Int) - 1) = (i : Int) := by omega
        rw [e0]
        have hb1r : Below w1.heap.size w1 wr := (by repeat (first | assumption | exact Below.refl _ _ | refine Below.on ?_ (by assumption)))
        obtain ⟨b0, off, rfl, hlb, hc1⟩ := (HQ.out.below hb1r (Nat.le_refl _)).2 (by omega)
        have hs14 : w1.heap.size ≤ w4.heap.size := by have h : Below w1.heap.size w1 w4 := (by repeat (first | assumption | exact Below.refl _ _ | refine Below.on ?_ (by assumption))); exact h.size
        obtain ⟨g1, g2⟩ := hc1 i (by omega)
        have hkk : (i : Int) < (m : Int) := by omega
        have hi0 : 0 ≤ (i : Int) := by omega
        obtain ⟨a, ha⟩ : ∃ a, a = (qs[i]?.getD (0, 0)).1 := ⟨_, rfl⟩
        obtain ⟨b, hb⟩ : ∃ b, b = (qs[i]?.getD (0, 0)).2 := ⟨_, rfl⟩
        rw [← ha] at g1
        rw [← hb] at g2
        have hlen : (bs.take (m - (i + 1))).length ≤ 1048576 := by rw [List.length_take]; omega
        have HTK : Hid (bs.take (m - i) = bs.take (m - (i + 1)) ++ [(b, a)]) := by
          show _ = _
          have := take_snoc (ps := bs) (k := m - (i + 1)) (by have := HBL.out; omega) (0, 0)
          rw [HBA.out i (by omega), ← ha, ← hb, show m - (i + 1) + 1 = m - i by omega] at this
          exact this
        have hs4 : w4.heap.size ≤ wr.heap.size := hbe.size
        have hblk := hob.blockOf
        clear hc1 ha hb hb1r e0
        have hne : ∀ q, (Value.slice A5 (m - (i + 1)) c5).ownBlock = some q → b0 ≠ q := fun q hq e => by have := (hblk q hq).1; omega
        go_wp2_with fail
        go_region_held3 (fun w' => w'.cell? ⟨b0, off + i * 2, none⟩ = some (.int .i64 a) ∧ w'.cell? ⟨b0, off + i * 2 + 1, none⟩ = some (.int .i64 b))
          (first | assumption | exact ⟨by assumption, by assumption⟩ | exact cells2_drew ⟨by assumption, by assumption⟩ | exact cells2_alloc (by assumption) | exact cells2_alloc (cells2_drew ⟨by assumption, by assumption⟩))
          ((refine step_pushQ (by rfl) (.tmp 77) (.tmp 89) (by rfl) wr.drew _ w4.heap.size (.slice A5 (m - (i + 1)) c5) (bs.take (m - (i + 1))) b a (by rfl) (by rfl) (by rfl) hob hlen hs4 ?_; intro v' w6 ho6 hg6 _; obtain ⟨A6, c6, rfl, _⟩ := ho6.form; have hS6 := And.intro (cell_grown hg6 g1 hne) (cell_grown hg6 g2 hne)))
        clear g1 g2
        have hb6 : Below w4.heap.size w4 w6 := (below_drew1 hbe).grown hg6 hs4 (fun r e => (hblk r e).1)
        have hl6 : min (m - (i + 1)) bs.length + 1 = m - i := by have := HBL.out; omega
        rw [List.length_append, List.length_singleton, List.length_take, hl6, ← HTK.out] at ho6
        rw [hl6]
        have HN : Hid (∃ A5 c5, (Value.slice A6 (m - i) c6) = .slice A5 (m - i) c5 ∧ OwnQ 42 w6 w4.heap.size (.slice A6 (m - i) c6) (bs.take (m - i))) := ⟨_, _, rfl, ho6⟩
        clear ho6 hg6 hblk hob hl6 HTK hbe
        go_wp2
        go_roundw
        case rel => exact ⟨i, by omega, rfl, HN, hb6⟩
        case measure => simp [intOf]
end Go.Proofs.Ytebgnaiibomjkaa
