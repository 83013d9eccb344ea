/- nodesOf and nodeOf: the nodes of a valid forest in a new block, or nothing. Condition: a length up to 1048576. -/
import Derived.Test.YtfdkkcigmjonfaaUp
namespace Go.Proofs.Ytfdkkcigmjonfaa
open Go.RowKit

theorem hasItem_any (A : Option Addr) (n c : Nat) (k : Int) (w : World) (_hn : n ≤ 1048576) :
    Calls Try.prog 149 #[.slice A n c, .int .i64 k] w fun e w' => e = .returned (.bool (decide (0 ≤ k ∧ k < (n : Int)))) ∧ w = w' := by
  by_cases h1 : 0 ≤ k <;> by_cases h2 : k < (n : Int)
  all_goals
    have H := Lib.hid (show decide (0 ≤ k ∧ k < (n : Int)) = decide (0 ≤ k ∧ k < (n : Int)) from rfl)
    go_enter Try.func149, Try.ntmps149
    go_wp2
    go_ret
    exact ⟨ret_bool (by simp [h1, h2]), rfl⟩

/-- Block B holds the nodes of zs, filled in up to k; the others are empty. -/
def Fill (W : World) (B : Nat) (zs : List Int) (k : Nat) : Prop :=
  ∃ cur : Array Value, W.heap[B]? = some (.cells cur 123 (0, 0)) ∧ ∀ x, x < zs.length →
    cur[x * 2]? = some (.int .i64 (if x < k then (x : Int) else 0)) ∧ cur[x * 2 + 1]? = some (.pointer (if x < k then (step zs x).map (nadr B) else none))

theorem Fill.cells {W : World} {B k : Nat} {zs : List Int} (h : Fill W B zs k) {x : Nat} (hx : x < zs.length) :
    W.cell? ⟨B, x * 2, none⟩ = some (.int .i64 (if x < k then (x : Int) else 0)) ∧ W.cell? ⟨B, x * 2 + 1, none⟩ = some (.pointer (if x < k then (step zs x).map (nadr B) else none)) ∧
      W.frozen? ⟨B, x * 2, none⟩ = false ∧ W.frozen? ⟨B, x * 2 + 1, none⟩ = false := by
  obtain ⟨cur, hb, hc⟩ := h
  refine ⟨?_, ?_, ?_, ?_⟩
  · simp [World.cell?, hb, (hc x hx).1]
  · simp [World.cell?, hb, (hc x hx).2]
  · simp [World.frozen?, hb]
  · simp [World.frozen?, hb]
theorem Fill.lt {W : World} {B k : Nat} {zs : List Int} (h : Fill W B zs k) : B < W.heap.size := by
  obtain ⟨cur, hb, _⟩ := h
  exact (Array.getElem?_eq_some_iff.1 hb).1
theorem Fill.nodes {W : World} {B k : Nat} {zs : List Int} (h : Fill W B zs k) (hk : zs.length ≤ k) : Nodes W B zs := fun x hx => by
  have hc := h.cells hx
  rw [if_pos (by omega), if_pos (by omega)] at hc
  exact ⟨hc.1, hc.2.1⟩
theorem Fill.eq {W W' : World} {B k : Nat} {zs : List Int} (h : Fill W B zs k) (e : W'.heap[B]? = W.heap[B]?) : Fill W' B zs k := by
  obtain ⟨cur, hb, hc⟩ := h
  exact ⟨cur, e.trans hb, hc⟩
theorem Fill.below {W W' : World} {B C k : Nat} {zs : List Int} (h : Fill W B zs k) (hb : Below C W W') (hB : B < C) : Fill W' B zs k := h.eq (hb.block B hB)
theorem heap_set (W : World) (B i : Nat) (v : Value) {cur : Array Value} {t : TypeId} (h : W.heap[B]? = some (.cells cur t (0, 0))) : (W.setCell ⟨B, i, none⟩ v).heap[B]? = some (.cells (cur.setIfInBounds i v) t (0, 0)) :=
  heap_setCell_same W B i cur t v h
theorem Fill.number {W : World} {B k : Nat} {zs : List Int} (h : Fill W B zs k) (hk : k < zs.length) (hs : step zs k = none) : Fill (W.setCell ⟨B, k * 2, none⟩ (.int .i64 (k : Int))) B zs (k + 1) := by
  obtain ⟨cur, hb, hc⟩ := h
  refine ⟨_, heap_set W B _ _ hb, fun x hx => ?_⟩
  have h1 := hc x hx
  have hlt : k * 2 < cur.size := (Array.getElem?_eq_some_iff.1 (hc k hk).1).1
  have a2 : (cur.setIfInBounds (k * 2) (.int .i64 (k : Int)))[x * 2 + 1]? = cur[x * 2 + 1]? := by rw [Array.getElem?_setIfInBounds, if_neg (by omega)]
  rw [a2, h1.2]
  by_cases e : x = k
  · subst e
    have a1 : (cur.setIfInBounds (x * 2) (.int .i64 (x : Int)))[x * 2]? = some (.int .i64 (x : Int)) := by rw [Array.getElem?_setIfInBounds, if_pos rfl, if_pos hlt]
    rw [a1, if_pos (show x < x + 1 by omega), if_neg (show ¬ x < x by omega), if_pos (show x < x + 1 by omega), hs]
    exact ⟨rfl, rfl⟩
  · have a1 : (cur.setIfInBounds (k * 2) (.int .i64 (k : Int)))[x * 2]? = cur[x * 2]? := by rw [Array.getElem?_setIfInBounds, if_neg (by omega)]
    rw [a1, h1.1]
    simp only [show x < k + 1 ↔ x < k by omega, and_self]
theorem Fill.both {W : World} {B k : Nat} {zs : List Int} (h : Fill W B zs k) (hk : k < zs.length) {y : Nat} (hs : step zs k = some y) :
    Fill ((W.setCell ⟨B, k * 2, none⟩ (.int .i64 (k : Int))).setCell ⟨B, k * 2 + 1, none⟩ (.pointer (some (nadr B y)))) B zs (k + 1) := by
  obtain ⟨cur, hb, hc⟩ := h
  refine ⟨_, heap_set _ B _ _ (heap_set W B _ _ hb), fun x hx => ?_⟩
  have h1 := hc x hx
  have hlt : k * 2 < cur.size := (Array.getElem?_eq_some_iff.1 (hc k hk).1).1
  have hlt2 : k * 2 + 1 < cur.size := (Array.getElem?_eq_some_iff.1 (hc k hk).2).1
  by_cases e : x = k
  · subst e
    have a1 : ((cur.setIfInBounds (x * 2) (.int .i64 (x : Int))).setIfInBounds (x * 2 + 1) (.pointer (some (nadr B y))))[x * 2]? = some (.int .i64 (x : Int)) := by
      rw [Array.getElem?_setIfInBounds, if_neg (by omega), Array.getElem?_setIfInBounds, if_pos rfl, if_pos hlt]
    have a2 : ((cur.setIfInBounds (x * 2) (.int .i64 (x : Int))).setIfInBounds (x * 2 + 1) (.pointer (some (nadr B y))))[x * 2 + 1]? = some (.pointer (some (nadr B y))) := by
      rw [Array.getElem?_setIfInBounds, if_pos rfl, if_pos (by rw [Array.size_setIfInBounds]; exact hlt2)]
    rw [a1, a2, if_pos (show x < x + 1 by omega), if_pos (show x < x + 1 by omega), hs]
    exact ⟨rfl, rfl⟩
  · have a1 : ((cur.setIfInBounds (k * 2) (.int .i64 (k : Int))).setIfInBounds (k * 2 + 1) (.pointer (some (nadr B y))))[x * 2]? = cur[x * 2]? := by
      rw [Array.getElem?_setIfInBounds, if_neg (by omega), Array.getElem?_setIfInBounds, if_neg (by omega)]
    have a2 : ((cur.setIfInBounds (k * 2) (.int .i64 (k : Int))).setIfInBounds (k * 2 + 1) (.pointer (some (nadr B y))))[x * 2 + 1]? = cur[x * 2 + 1]? := by
      rw [Array.getElem?_setIfInBounds, if_neg (by omega), Array.getElem?_setIfInBounds, if_neg (by omega)]
    rw [a1, a2, h1.1, h1.2]
    simp only [show x < k + 1 ↔ x < k by omega, and_self]
theorem Fill.new {W : World} {base g n c : Nat} {zs : List Int} (hn : zs.length = n) (h : W.ownsRow base 123 2 (.slice (some ⟨g, 0, none⟩) n c) n (madeCells #[.int .i64 0, .pointer none] (n * 2)).toList) : Fill W g zs 0 := by
  rcases h.2 with ⟨hv, _⟩ | ⟨g', cap, cur, hv, hbase, hh, hnc, hm, hsz, hcells⟩
  · simp at hv
  · simp only [Value.slice.injEq, Option.some.injEq, Addr.mk.injEq, and_true, true_and] at hv
    obtain ⟨rfl, rfl⟩ := hv
    refine ⟨cur, hh, fun x hx => ?_⟩
    have hget : ∀ j, j < n * 2 → cur[j]? = (madeCells #[.int .i64 0, .pointer none] (n * 2))[j]? := fun j hj => by
      rw [← Array.getElem?_toList, ← Array.getElem?_toList, ← hcells, List.getElem?_take_of_lt hj]
    rw [hget _ (by omega), hget _ (by omega), if_neg (by omega), if_neg (by omega)]
    constructor
    · simp [madeCells, show x * 2 < n * 2 by omega]
    · simp [madeCells, show x * 2 + 1 < n * 2 by omega]

theorem Try.info_node : (Try.prog.info? 123).map (fun i => (i.zero, i.size, i.bytes)) = some (some (.agg #[.int .i64 0, .pointer none]), 2, 16) := by kernel_rfl

set_option maxRecDepth 100000 in
set_option maxHeartbeats 2000000 in
theorem nodesOfF_any (A : Option Addr) (n c B0 : Nat) (zs : List Int) (w : World) (h : Rd w B0 A n zs) (hB0 : B0 ≤ w.heap.size) (hb : n ≤ 1048576) :
    Calls Try.prog 109 #[.slice A n c] w fun e w' => Below w.heap.size w w' ∧
      ((fvB zs = false ∧ e = .returned (.slice none 0 0)) ∨ (fvB zs = true ∧ e = .returned (.slice (some ⟨w.heap.size, 0, none⟩) n n) ∧ Fill w' w.heap.size zs n ∧ w.heap.size < w'.heap.size)) := by
  have l1 := h.1
  have L1 : zs.length ≤ n := by omega
  have L3 : n ≤ zs.length := by omega
  clear l1
  obtain ⟨i0, hi, hz0, hz1, hz2⟩ := info_parts Try.info_node
  by_cases hn : 1 ≤ n ∧ n ≤ 16
  · obtain ⟨hn1, hn2⟩ := hn
    go_enter Try.func109, Try.ntmps109
    go_wp2_with (at_make; go_must (refine wpList_make_full _ rfl _ _ 118 rfl w.heap.size 123 i0 (.agg #[.int .i64 0, .pointer none]) 2 Try.underlying118 hi hz0 hz1 .i64 .i64 _ _ n rfl rfl rfl rfl (by rw [hz2]; omega) (by unfold maxLen; omega) (Nat.le_refl _) ?_); intro w1 hown hgrow)
    have hf0 : Fill w1 w.heap.size zs 0 := Fill.new (n := n) (by omega) hown
    have hb1 : Below w.heap.size w w1 := (Below.refl _ w).grown hgrow (Nat.le_refl _) (fun k e => by cases e)
    clear hown hgrow hi hz0 hz1 hz2
    go_loopw [20] (fun i wr => ∃ k : Nat, k ≤ n ∧ i = .int .i64 k ∧ Fill wr w.heap.size zs k ∧ Below w.heap.size w wr ∧ ∀ x, x < k → 0 ≤ zs[x]?.getD 0 ∧ zs[x]?.getD 0 < (n : Int)) (fun i _ => n - (intOf i).toNat)
    case atStart => exact ⟨0, Nat.zero_le _, rfl, hf0, hb1, fun x hx => absurd hx (by omega)⟩
    case round =>
      obtain ⟨k, hk, rfl, hF, hbe, hin⟩ := hrel
      clear hf0
      by_cases hlt : k < n
      · obtain ⟨b, off, rfl, _, hc1⟩ := (h.below hbe hB0).2 (by omega)
        have g1 := hc1 k hlt
        have hcells := hF.cells (x := k) (by omega)
        clear hc1
        obtain ⟨z, hz⟩ : ∃ z, z = zs[k]?.getD 0 := ⟨_, rfl⟩
        rw [← hz] at g1
        have hst : step zs k = if z = (k : Int) then none else some z.toNat := by unfold step nx; rw [hz]
        have hnx : 0 ≤ z ∧ z < (n : Int) → ∀ x, x < k + 1 → 0 ≤ zs[x]?.getD 0 ∧ zs[x]?.getD 0 < (n : Int) := fun hh x hx => by
          by_cases e : x = k
          · subst e; rw [← hz]; exact hh
          · exact hin x (by omega)
        have hbad : ¬ (0 ≤ z ∧ z < (n : Int)) → fvB zs = false := fun hh => by
          cases hv : fvB zs with
          | false => rfl
          | true => exact absurd (by
              have := fv_in hv k (by omega)
              rw [← hz] at this
              omega) hh
        have HX := Lib.hid hnx
        have HB := Lib.hid hbad
        have HS := Lib.hid hst
        clear hin hz hnx hbad hst
        by_cases hzb : 0 ≤ z ∧ z < (n : Int)
        · obtain ⟨y, rfl⟩ := Int.eq_ofNat_of_zero_le hzb.1
          have hd : decide (0 ≤ (y : Int) ∧ (y : Int) < (n : Int)) = true := by simpa using hzb
          have HX2 := Lib.hid (HX.out hzb)
          clear HX HB
          have hyn : y < n := by omega
          clear hzb
          by_cases e : y = k
          · subst e
            have hst := HS.out
            rw [if_pos rfl] at hst
            have hF2 := hF.number (by omega) hst
            have HF := Lib.hid hF2
            have hne : ((y : Int) != (y : Int)) = false := by simp
            have hbe2 := hbe.setCell (p := ⟨w.heap.size, y * 2, none⟩) (Nat.le_refl _) (.int .i64 (y : Int))
            obtain ⟨q1, q2, q3, q4⟩ := hcells
            clear hF hF2 hst HS q2 q4
            go_wp2_with (go_at_call 149; refine (hasItem_any _ _ _ _ _ hb).mono ?_; rintro e w' ⟨rfl, rfl⟩)
            go_roundw
            case rel => exact ⟨y + 1, by omega, by go_num, HF.out, hbe2, HX2.out⟩
            case measure => simp [intOf]; omega
          · have hst := HS.out
            rw [if_neg (by omega)] at hst
            have hF2 := hF.both (by omega) hst
            have HF := Lib.hid hF2
            have hne : ((y : Int) != (k : Int)) = true := by simp; omega
            have hbe2 := (hbe.setCell (p := ⟨w.heap.size, k * 2, none⟩) (Nat.le_refl _) (.int .i64 (k : Int))).setCell (p := ⟨w.heap.size, k * 2 + 1, none⟩) (Nat.le_refl _) (.pointer (some (nadr w.heap.size y)))
            have HB2 := Lib.hid hbe2
            obtain ⟨q1, q2, q3, q4⟩ := hcells
            clear hF hF2 hst HS hbe2 e
            go_wp2_with (go_at_call 149; refine (hasItem_any _ _ _ _ _ hb).mono ?_; rintro e w' ⟨rfl, rfl⟩)
            go_roundw
            case rel => exact ⟨k + 1, by omega, by go_num, HF.out, HB2.out, HX2.out⟩
            case measure => simp [intOf]; omega
        · have hd : decide (0 ≤ z ∧ z < (n : Int)) = false := by simpa using hzb
          have hfv := HB.out hzb
          have HV := Lib.hid hfv
          clear hfv HB HX HS hzb
          go_wp2_with (go_at_call 149; refine (hasItem_any _ _ _ _ _ hb).mono ?_; rintro e w' ⟨rfl, rfl⟩)
          go_ret
          exact ⟨hbe, .inl ⟨HV.out, rfl⟩⟩
      · obtain rfl : k = n := by omega
        have hnodes := hF
        have hB := hF.lt
        have hInB : InB zs := fun x hx => by have := hin x (by omega); omega
        clear hin hF
        obtain ⟨wo, rfl⟩ : ∃ wo : World, wo = wr := ⟨_, rfl⟩
        go_wp2
        go_loopw [47] (fun i wr => ∃ j : Nat, j ≤ k ∧ i = .int .i64 j ∧ Fill wr w.heap.size zs k ∧ (Below w.heap.size w wr ∧ w.heap.size < wr.heap.size) ∧ ∀ x, x < j → (way zs k x).length ≤ k) (fun i _ => k - (intOf i).toNat)
        case atStart => exact ⟨0, Nat.zero_le _, rfl, hnodes, ⟨hbe, hB⟩, fun x hx => absurd hx (by omega)⟩
        case round =>
          obtain ⟨j, hj, rfl, hNr, ⟨hber, hBr⟩, hw⟩ := hrel
          clear hnodes hbe hB
          by_cases hlt : j < k
          · have R := reaches_any w.heap.size j k zs wr (hNr.nodes (by omega)) hBr hInB (by omega) (by omega)
            unfold nadr at R
            have R := Lib.hid R
            have HW := Lib.hid hw
            clear hw
            by_cases hr : (way zs k j).length ≤ k
            · have hd : decide ((way zs k j).length ≤ k) = true := by simpa using hr
              have HR := Lib.hid hr
              clear hr
              go_wp2_with (go_at_call 170; refine (R.out).mono ?_; rintro e w' ⟨rfl, hb5⟩)
              have hsz5 := hb5.size
              go_roundw
              case rel => exact ⟨j + 1, by omega, by go_num, hNr.below hb5 hBr, ⟨hber.trans (hb5.mono (by omega)), by omega⟩, fun x hx => by
                by_cases e : x = j
                · subst e; exact HR.out
                · exact HW.out x (by omega)⟩
              case measure => simp [intOf]; omega
            · have hd : decide ((way zs k j).length ≤ k) = false := by simpa using hr
              have hfv : fvB zs = false := by
                cases hv : fvB zs with
                | false => rfl
                | true => exact absurd (by
                    have := (fv_parts hv).2.2.2 j (by omega)
                    rwa [show zs.length = k by omega] at this) hr
              have HV := Lib.hid hfv
              clear hfv hr
              go_wp2_with (go_at_call 170; refine (R.out).mono ?_; rintro e w' ⟨rfl, hb5⟩)
              go_ret
              exact ⟨hber.trans (hb5.mono (by omega)), .inl ⟨HV.out, rfl⟩⟩
          · have hfv : fvB zs = true := by
              refine fv_of (by omega) (by omega) hInB fun x hx => ?_
              rw [show zs.length = k by omega]
              exact hw x (by omega)
            have HV := Lib.hid hfv
            clear hfv hw
            go_wp2
            go_ret
            exact ⟨hber, .inr ⟨HV.out, rfl, hNr, hBr⟩⟩
  · have hfv : fvB zs = false := by
      cases hv : fvB zs with
      | false => rfl
      | true =>
        obtain ⟨p1, p2, _⟩ := fv_parts hv
        exact absurd ⟨by omega, by omega⟩ hn
    have HV := Lib.hid hfv
    clear hfv hi hz0 hz1 hz2
    rcases (show n < 1 ∨ 16 < n by omega) with hn' | hn'
    · obtain rfl : n = 0 := by omega
      clear hn
      go_enter Try.func109, Try.ntmps109
      go_wp2
      go_ret
      exact ⟨Below.refl _ _, .inl ⟨HV.out, rfl⟩⟩
    · clear hn
      go_enter Try.func109, Try.ntmps109
      go_wp2
      go_ret
      exact ⟨Below.refl _ _, .inl ⟨HV.out, rfl⟩⟩
theorem nodesOf_any (A : Option Addr) (n c B0 : Nat) (zs : List Int) (w : World) (h : Rd w B0 A n zs) (hB0 : B0 ≤ w.heap.size) (hb : n ≤ 1048576) :
    Calls Try.prog 109 #[.slice A n c] w fun e w' => Below w.heap.size w w' ∧
      ((fvB zs = false ∧ e = .returned (.slice none 0 0)) ∨ (fvB zs = true ∧ e = .returned (.slice (some ⟨w.heap.size, 0, none⟩) n n) ∧ Nodes w' w.heap.size zs ∧ w.heap.size < w'.heap.size)) :=
  (nodesOfF_any A n c B0 zs w h hB0 hb).mono fun _ _ ⟨h1, h2⟩ => ⟨h1, h2.imp id fun ⟨a, b, f, g⟩ => ⟨a, b, f.nodes (by have := h.1; omega), g⟩⟩

end Go.Proofs.Ytfdkkcigmjonfaa
