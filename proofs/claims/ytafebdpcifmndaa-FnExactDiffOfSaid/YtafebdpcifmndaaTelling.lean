/- What facts are told to: offsets with their joining (tellingOf), OffsetsValid of the program. Condition: lengths up to 1048576. -/
import Derived.Test.YtafebdpcifmndaaOffs
import Derived.Test.YtafebdpcifmndaaJoin
import Derived.BigRegion
import Derived.Deep.AppendLies
namespace Go.Proofs.Ytafebdpcifmndaa
open Go.RowKit Go.Shelf

/-- Block T holds the items of offsets, those below k with their members (block M) and differences. -/
def ItK (W : World) (T M n k : Nat) (bs : List Int) : Prop :=
  ∃ cur : Array Value, W.heap[T]? = some (.cells cur 214 (0, 0)) ∧ ∀ x, x < n →
    cur[x * 2]? = some (.pointer (if x < k then some ⟨M, x * 3, none⟩ else none)) ∧ cur[x * 2 + 1]? = some (.int .i64 (if x < k then bs[x]?.getD 0 else 0))
theorem ItK.lt {W : World} {T M n k : Nat} {bs : List Int} (h : ItK W T M n k bs) : T < W.heap.size := by
  obtain ⟨cur, hb, _⟩ := h
  exact (Array.getElem?_eq_some_iff.1 hb).1
theorem ItK.cells {W : World} {T M n k : Nat} {bs : List Int} (h : ItK W T M n k bs) {x : Nat} (hx : x < n) :
    (W.cell? ⟨T, x * 2, none⟩ = some (.pointer (if x < k then some ⟨M, x * 3, none⟩ else none)) ∧ W.cell? ⟨T, x * 2 + 1, none⟩ = some (.int .i64 (if x < k then bs[x]?.getD 0 else 0))) ∧ W.frozen? ⟨T, x * 2, none⟩ = false ∧ W.frozen? ⟨T, x * 2 + 1, none⟩ = false := by
  obtain ⟨cur, hb, hc⟩ := h
  refine ⟨⟨?_, ?_⟩, ?_, ?_⟩
  · simp [World.cell?, hb, (hc x hx).1]
  · simp [World.cell?, hb, (hc x hx).2]
  all_goals simp [World.frozen?, hb]
theorem ItK.eq {W W' : World} {T M n k : Nat} {bs : List Int} (h : ItK W T M n k bs) (e : W'.heap[T]? = W.heap[T]?) : ItK W' T M n k bs := by
  obtain ⟨cur, hb, hc⟩ := h
  exact ⟨cur, e.trans hb, hc⟩
theorem ItK.next {W : World} {T M n k : Nat} {bs : List Int} (h : ItK W T M n k bs) (hk : k < n) {b : Int} (hb : b = bs[k]?.getD 0) : ItK ((W.setCell ⟨T, k * 2, none⟩ (.pointer (some ⟨M, k * 3, none⟩))).setCell ⟨T, k * 2 + 1, none⟩ (.int .i64 b)) T M n (k + 1) bs := by
  obtain ⟨cur, hh, hc⟩ := h
  refine ⟨_, heap_set _ T _ _ (heap_set W T _ _ hh), fun x hx => ?_⟩
  obtain ⟨h1, h2⟩ := hc x hx
  have l1 : k * 2 < cur.size := (Array.getElem?_eq_some_iff.1 (hc k hk).1).1
  have l2 : k * 2 + 1 < (cur.setIfInBounds (k * 2) (.pointer (some ⟨M, k * 3, none⟩))).size := by rw [Array.size_setIfInBounds]; exact (Array.getElem?_eq_some_iff.1 (hc k hk).2).1
  refine ⟨?_, ?_⟩
  · rw [at_set l2, if_neg (by omega), at_set l1]
    by_cases e : x = k
    · subst e; rw [if_pos rfl, if_pos (Nat.lt_succ_self x)]
    · rw [if_neg (by omega), h1]
      by_cases hx2 : x < k
      · rw [if_pos hx2, if_pos (by omega)]
      · rw [if_neg hx2, if_neg (by omega)]
  · rw [at_set l2]
    by_cases e : x = k
    · subst e; rw [if_pos rfl, if_pos (Nat.lt_succ_self x), hb]
    · rw [if_neg (by omega), at_set l1, if_neg (by omega), h2]
      by_cases hx2 : x < k
      · rw [if_pos hx2, if_pos (by omega)]
      · rw [if_neg hx2, if_neg (by omega)]
theorem ItK.new {W : World} {base g n c M : Nat} {bs : List Int} (h : W.ownsRow base 214 2 (.slice (some ⟨g, 0, none⟩) n c) n (madeCells #[.pointer none, .int .i64 0] (n * 2)).toList) : ItK W g M n 0 bs := by
  rcases h.2 with ⟨hv, _⟩ | ⟨g', cap, cur, hv, hbase, hh, hnc, hm, hsz, hcells⟩
  · simp at hv
  · simp only [Value.slice.injEq, Option.some.injEq, Addr.mk.injEq, and_true, true_and] at hv
    obtain ⟨rfl, rfl⟩ := hv
    refine ⟨cur, hh, fun x hx => ?_⟩
    have hget : ∀ j, j < n * 2 → cur[j]? = (madeCells #[.pointer none, .int .i64 0] (n * 2))[j]? := fun j hj => by
      rw [← Array.getElem?_toList, ← Array.getElem?_toList, ← hcells, List.getElem?_take_of_lt hj]
    rw [hget _ (by omega), hget _ (by omega), if_neg (by omega), if_neg (by omega)]
    refine ⟨?_, ?_⟩
    · simp [madeCells, show x * 2 < n * 2 by omega]
    · simp [madeCells, show x * 2 + 1 < n * 2 by omega, show (x * 2 + 1) % 2 = 1 by omega]
theorem Try.info_item : (Try.prog.info? 214).map (fun i => (i.zero, i.size, i.bytes)) = some (some (.agg #[.pointer none, .int .i64 0]), 2, 16) := by kernel_rfl

/-- What facts are told to: its state. -/
structure TellSt (w : World) (Q T J M N n : Nat) (sz ht : Nat → Nat) (u bs : List Int) : Prop where
  at_ : w.heap[Q]? = some (.cells #[.pointer (some ⟨J, 0, none⟩), .slice (some ⟨T, 0, none⟩) n n] 178 (0, 0))
  items : ItK w T M n n bs
  mem : MemK w M N n n sz ht
  box : Boxed w J 187 (.slice (some ⟨M, 0, none⟩) n n)
  nd : Nd w N u
  o1 : N < M
  o2 : M < J
  o3 : J < T
  o4 : T < Q
  fv : fvB u = true
  len : u.length = n
  len2 : bs.length = n
  tell : RootsTell u sz ht
theorem TellSt.lt {w : World} {Q T J M N n : Nat} {sz ht : Nat → Nat} {u bs : List Int} (h : TellSt w Q T J M N n sz ht u bs) : Q < w.heap.size := (Array.getElem?_eq_some_iff.1 h.at_).1
theorem TellSt.below {w w' : World} {C Q T J M N n : Nat} {sz ht : Nat → Nat} {u bs : List Int} (h : TellSt w Q T J M N n sz ht u bs) (hb : Below C w w') (hC : Q < C) : TellSt w' Q T J M N n sz ht u bs := by
  have h1 := h.o1
  have h2 := h.o2
  have h3 := h.o3
  have h4 := h.o4
  exact ⟨(hb.block Q hC).trans h.at_, h.items.eq (hb.block T (by omega)), h.mem.below hb (by omega), (hb.block J (by omega)).trans h.box, h.nd.eq (hb.block N (by omega)), h1, h2, h3, h4, h.fv, h.len, h.len2, h.tell⟩

/-- What byValid answers. -/
def byB (o : Option Addr) (b : Int) : Bool := match o with | none => decide (b = 0) | some _ => decide (-16000 ≤ b ∧ b ≤ 16000)
theorem okBy_byB (N : Nat) {us bs : List Int} {k : Nat} : okBy us bs k = byB ((step us k).map (nadr N)) (bs[k]?.getD 0) := by
  unfold okBy byB step
  by_cases h : us[k]?.getD 0 = (k : Int)
  · rw [if_pos h, decide_eq_true h]
    by_cases h2 : bs[k]?.getD 0 = 0
    · simp [h2]
    · simp [h2]
  · rw [if_neg h, decide_eq_false h]
    simp
set_option maxHeartbeats 1000000 in
theorem byValid_any (M N x : Nat) (o : Option Addr) (b : Int) (w : World) (hm : w.cell? ⟨M, x * 3, none⟩ = some (.pointer (some ⟨N, x * 2, none⟩))) (hn : w.cell? ⟨N, x * 2 + 1, none⟩ = some (.pointer o)) :
    Calls Try.prog 182 #[.agg #[.pointer (some ⟨M, x * 3, none⟩), .int .i64 b]] w fun e w' => e = .returned (.bool (byB o b)) ∧ Below w.heap.size w w' := by
  have c1 := fun (ob : Obj) => cell_past ob hm
  have c2 := fun (ob : Obj) => cell_past ob hn
  have HB := Lib.hid ((Below.refl w.heap.size w).alloc (Nat.le_refl _) (.cells #[.pointer (some ⟨M, x * 3, none⟩), .int .i64 b] 214))
  clear hm hn
  cases o with
  | none =>
    go_enter Try.func182, Try.ntmps182
    go_wp2
    refine bodyPost_ret (v := .bool (b == 0)) (by simp [results, Try.results182, go_sem]) rfl ?_
    refine ⟨ret_bool ?_, HB.out⟩
    unfold byB
    by_cases h : b = 0 <;> simp [h]
  | some a =>
    by_cases h1 : -16000 ≤ b <;> by_cases h2 : b ≤ 16000
    all_goals try omega
    all_goals
      go_enter Try.func182, Try.ntmps182
      go_wp2
      go_ret
      refine ⟨ret_bool ?_, HB.out⟩
      unfold byB
      simp [h1, h2]
set_option maxRecDepth 100000 in
set_option maxHeartbeats 8000000 in
theorem tellingOf_any (A1 A2 : Option Addr) (n1 c1 n2 c2 B0 : Nat) (us bs : List Int) (w : World) (h1 : Rd w B0 A1 n1 us) (h2 : Rd w B0 A2 n2 bs) (hB0 : B0 ≤ w.heap.size) (hb1 : n1 ≤ 1048576) (hb2 : n2 ≤ 1048576) :
    Calls Try.prog 151 #[.agg #[.slice A1 n1 c1, .slice A2 n2 c2]] w fun e w' => Below w.heap.size w w' ∧ ((offB us bs = false ∧ e = .returned (.pointer none)) ∨
      (offB us bs = true ∧ ∃ Q T J M N, e = .returned (.pointer (some ⟨Q, 0, none⟩)) ∧ TellSt w' Q T J M N n1 (szN us) (htN us) us bs ∧ w.heap.size ≤ N)) := by
  obtain ⟨W, hW⟩ : ∃ W, W = w.alloc (.cells #[.slice A1 n1 c1, .slice A2 n2 c2] 92) := ⟨_, rfl⟩
  have hbW : Below w.heap.size w W := by rw [hW]; exact (Below.refl _ _).alloc (Nat.le_refl _) _
  have hsW : w.heap.size < W.heap.size := by rw [hW]; simp
  have hA : W.heap[w.heap.size]? = some (.cells #[.slice A1 n1 c1, .slice A2 n2 c2] 92 (0, 0)) := by rw [hW]; exact World.alloc_heap_new w _
  have JO := joiningOf_any A1 n1 c1 B0 us W (h1.below hbW hB0) (Nat.le_trans hB0 hbW.size) hb1
  have hl1 := h1.1
  have hl2 := h2.1
  obtain ⟨P, hP⟩ : ∃ P, P = w.heap.size := ⟨_, rfl⟩
  rw [← hP] at hA hsW
  have HW := Lib.hid (And.intro hbW (And.intro hsW (And.intro hA (And.intro (h2.below hbW hB0) hB0))))
  have HE := Lib.hid hW
  have HP := Lib.hid hP
  obtain ⟨i0, hi0, hz0, hz1, hz2⟩ := info_parts Try.info_item
  cases hf : fvB us with
  | false =>
    have HF := Lib.hid (offB_v (bs := bs) hf)
    have JO := Lib.hid JO
    have HFV := Lib.hid hf
    clear h1 h2 hl1 hl2 hW hbW hsW hA hP hf hi0 hz0 hz1 hz2
    go_enter Try.func151, Try.ntmps151
    go_wp2_with fail
    rw [← HE.out, ← HP.out]
    refine JO.out.mono ?_
    rintro e w1 ⟨hb, ⟨_, rfl⟩ | ⟨hv, _⟩⟩
    · have HB := Lib.hid (Below.on HW.out.1 hb)
      clear hb
      go_wp2_with fail
      go_ret
      exact ⟨HB.out, .inl ⟨HF.out, rfl⟩⟩
    · rw [HFV.out] at hv
      cases hv
  | true =>
    have h01 := (fv_parts hf).1
    have h16 := (fv_parts hf).2.1
    have JO := Lib.hid JO
    have HFV := Lib.hid hf
    have HLEN := Lib.hid (And.intro hl1 hl2)
    have hn16 : n1 ≤ 16 := by omega
    have hn01 : 1 ≤ n1 := by omega
    clear h1 h2 hl1 hl2 hW hbW hsW hA hP hf h01 h16
    go_enter Try.func151, Try.ntmps151
    go_wp2_with fail
    rw [← HE.out, ← HP.out]
    refine JO.out.mono ?_
    rintro e w1 ⟨hb, ⟨hv, _⟩ | ⟨_, J, M, N, rfl, ⟨hF, hNl⟩, hM, hJ, q1, q2, q3⟩⟩
    · rw [HFV.out] at hv
      cases hv
    · obtain ⟨⟨a1, a2⟩, _⟩ := boxTwo_cells ((hb.block P HW.out.2.1).trans HW.out.2.2.1)
      have HB := Lib.hid (Below.on HW.out.1 hb)
      have HR := Lib.hid (HW.out.2.2.2.1.below hb (Nat.le_trans HW.out.2.2.2.2 HW.out.1.size))
      have HF := Lib.hid hF
      have HM := Lib.hid hM
      have HJ := Lib.hid hJ
      have HQ := Lib.hid (And.intro q1 (And.intro q2 (And.intro q3 hJ.lt)))
      clear hb hF hNl hM hJ q1 q2 q3 JO
      by_cases hn : n2 = n1
      · have t1 : ((n2 : Int) != (n1 : Int)) = false := by simp [hn]
        have HN := Lib.hid hn
        have hn216 : n2 ≤ 16 := by omega
        have a2a := fun (ob : Obj) => cell_past ob a2
        clear hn
        go_wp2_with (at_make; go_must (refine wpList_make_full _ rfl _ _ 176 rfl w1.heap.size 214 i0 (.agg #[.pointer none, .int .i64 0]) 2 Try.underlying176 hi0 hz0 hz1 .i64 .i64 _ _ n2 rfl rfl rfl rfl (by rw [hz2]; omega) (by unfold maxLen; omega) (Nat.le_refl _) ?_; intro w2 hown hgrow; have a3 : w2.cell? ⟨P, 1, none⟩ = some (.slice A2 n2 c2) := (hgrow.cell_far ⟨P, 1, none⟩ (World.block_lt_of_cell? _ _ a2) (fun e => by cases e)).trans a2; have a3a := fun (ob : Obj) => cell_past ob a3))
        have hb2 : Below w1.heap.size w1 w2 := (Below.refl _ w1).grown hgrow (Nat.le_refl _) (fun k e => by cases e)
        have hit : ItK w2 w1.heap.size M n2 0 bs := ItK.new hown
        obtain ⟨V, hV⟩ : ∃ V, V = w2.alloc (.cells #[.pointer (some ⟨J, 0, none⟩), .slice (some ⟨w1.heap.size, 0, none⟩) n2 n2] 178) := ⟨_, rfl⟩
        have hbV : Below w1.heap.size w1 V := Below.on hb2 (by rw [hV]; exact (Below.refl _ _).alloc (Nat.le_refl _) _)
        have hQV : V.heap[w2.heap.size]? = some (.cells #[.pointer (some ⟨J, 0, none⟩), .slice (some ⟨w1.heap.size, 0, none⟩) n2 n2] 178 (0, 0)) := by rw [hV]; exact World.alloc_heap_new w2 _
        have hTl := hit.lt
        have hIV : ItK V w1.heap.size M n2 0 bs := hit.eq (by rw [hV]; exact Below.heap_alloc _ _ _ hTl)
        have hsV : V.heap.size = w2.heap.size + 1 := by rw [hV]; simp
        rw [← hV]
        obtain ⟨T, hT⟩ : ∃ T, T = w1.heap.size := ⟨_, rfl⟩
        obtain ⟨Q, hQ⟩ : ∃ Q, Q = w2.heap.size := ⟨_, rfl⟩
        rw [← hT] at hIV hQV hTl
        rw [← hQ] at hQV hTl hsV
        rw [← hT, ← hQ]
        have HV := Lib.hid (And.intro hbV (And.intro hQV (And.intro hTl (And.intro hsV hT))))
        have HI : Hid (ItK V T M n2 0 bs ∧ (∀ j, j < 0 → okBy us bs j = true) ∧ Chg (fun i => i = T) V V) := ⟨hIV, fun j hj => absurd hj (by omega), Chg.refl _ _⟩
        clear hb2 hit hV hbV hQV hTl hIV hsV hT hQ hown hgrow a3 a3a a1 a2 a2a hi0 hz0 hz1 hz2
        go_wp2_with fail
        go_loopw [31] (fun i wr => ∃ k : Nat, k ≤ n2 ∧ i = .int .i64 k ∧ Hid (ItK wr T M n2 k bs ∧ (∀ j, j < k → okBy us bs j = true) ∧ Chg (fun i => i = T) V wr)) (fun i _ => n2 - (intOf i).toNat)
        case atStart => exact ⟨0, Nat.zero_le _, rfl, HI⟩
        case round =>
          obtain ⟨k, hk, rfl, HK⟩ := hrel
          clear HI
          have hN := HN.out
          have hTQ := HV.out.2.2.1
          have hsV := HV.out.2.2.2.1
          have hT1 := HV.out.2.2.2.2
          obtain ⟨q1, q2, q3, q4⟩ := HQ.out
          have hbVr : Below T V wr := HK.out.2.2.below (by omega) (fun i hi => by omega)
          have hbr : Below T w1 wr := by rw [hT1] at hbVr ⊢; exact HV.out.1.trans hbVr
          by_cases hlt : k < n2
          · have hkk : (k : Int) < (n2 : Int) := by omega
            have hkk1 : (k : Int) < (n1 : Int) := by omega
            obtain ⟨hit, hall, hc⟩ := HK.out
            have hQr := (hc.block Q (by omega) (by omega)).trans HV.out.2.1
            obtain ⟨⟨c1, c2⟩, _⟩ := boxTwo_cells hQr
            have hJr : Boxed wr J 187 (.slice (some ⟨M, 0, none⟩) n1 n1) := (hbr.block J (by omega)).trans HJ.out
            have cJ := hJr.cell
            obtain ⟨⟨d1, d2⟩, d3, d4⟩ := hit.cells hlt
            obtain ⟨b2, o2, rfl, hb2, qb⟩ := (HR.out.below hbr (by have := HW.out.2.2.2.2; have := HB.out.size; omega)).2 (by omega)
            have g2 := qb k hlt
            obtain ⟨b, hb⟩ : ∃ b, b = bs[k]?.getD 0 := ⟨_, rfl⟩
            rw [← hb] at g2
            obtain ⟨wm, hwm⟩ : ∃ wm, wm = ((wr.setCell ⟨T, k * 2, none⟩ (.pointer (some ⟨M, k * 3, none⟩))).setCell ⟨T, k * 2 + 1, none⟩ (.int .i64 b)).drew := ⟨_, rfl⟩
            have hitm : ItK wm T M n2 (k + 1) bs := by rw [hwm]; exact ItK.next hit hlt hb
            have hcm : Chg (fun i => i = T) V wm := by rw [hwm]; exact ((hc.set (B := T) (.inl rfl) _ _).set (B := T) (.inl rfl) _ _).drew
            have hbm : Below T w1 wm := by
              have h1 : Below T V wm := hcm.below (by omega) (fun i hi => by omega)
              rw [hT1] at h1 ⊢
              exact HV.out.1.trans h1
            have hQm := (hcm.block Q (by omega) (by omega)).trans HV.out.2.1
            obtain ⟨⟨e1, e2⟩, _⟩ := boxTwo_cells hQm
            obtain ⟨⟨i1, i2⟩, _⟩ := hitm.cells hlt
            rw [if_pos (Nat.lt_succ_self k)] at i1 i2
            rw [← hb] at i2
            have hMm := (hbm.block M (by omega))
            obtain ⟨⟨m1, _⟩, _⟩ := (HM.out.eq hMm).cells (x := k) (by omega)
            rw [if_pos (by omega)] at m1
            have hlu := HLEN.out.1
            have hNm := (HF.out.eq (hbm.block N (by omega))).nodes (by omega) k (by omega)
            have BV := Lib.hid (byValid_any M N k _ b wm m1 hNm.2)
            rw [show byB ((step us k).map (nadr N)) b = okBy us bs k by rw [okBy_byB N, ← hb]] at BV
            have HBD : Hid (okBy us bs k = false → offB us bs = false) := fun e => offB_bad (by have := HLEN.out.2; omega) e
            have HZ := Lib.hid (And.intro hitm (And.intro hall (And.intro hcm hbm)))
            have HWM := Lib.hid hwm
            clear hit hall hc hQr hJr hb2 qb hb hitm hcm hbm hQm hMm hNm m1 hwm hlu HK hbVr hbr q1 q2 q3 q4 hTQ hsV hT1 hN
            go_wp2_with fail
            go_region
            rw [← HWM.out]
            clear c1 c2 cJ d1 d2 d3 d4 g2
            go_wp2_with fail
            refine BV.out.mono ?_
            rintro e w5 ⟨rfl, hb5⟩
            cases hok : okBy us bs k with
            | false =>
              have HF2 := Lib.hid (HBD.out hok)
              have HB5 := Lib.hid hb5
              clear hok hb5
              go_wp2_with fail
              go_ret
              refine ⟨?_, .inl ⟨HF2.out, rfl⟩⟩
              have h1 := HZ.out.2.2.2
              have h2 := HB5.out
              have hT1 := HV.out.2.2.2.2
              rw [hT1] at h1
              exact Below.on HB.out (Below.on h1 h2)
            | true =>
              have HI2 : Hid (ItK w5 T M n2 (k + 1) bs ∧ (∀ j, j < k + 1 → okBy us bs j = true) ∧ Chg (fun i => i = T) V w5) := by
                obtain ⟨z1, z2, z3, z4⟩ := HZ.out
                refine ⟨z1.eq (hb5.block T z1.lt), fun j hj => ?_, z3.trans (Chg.of_below hb5)⟩
                by_cases e : j = k
                · subst e; exact hok
                · exact z2 j (by omega)
              clear hok hb5
              go_wp2_with fail
              go_roundw
              case rel => exact ⟨k + 1, by omega, by go_num, HI2⟩
              case measure => simp [intOf]; omega
          · obtain rfl : k = n2 := by omega
            obtain ⟨hit, hall, hc⟩ := HK.out
            have hQr := (hc.block Q (by omega) (by omega)).trans HV.out.2.1
            have hJr : Boxed wr J 187 (.slice (some ⟨M, 0, none⟩) n1 n1) := (hbr.block J (by omega)).trans HJ.out
            have hMr := HM.out.eq (hbr.block M (by omega))
            have hNr := HF.out.eq (hbr.block N (by omega))
            have hl := HLEN.out
            have HG := Lib.hid (And.intro hit (And.intro hall (And.intro hQr (And.intro hJr (And.intro hMr (And.intro hNr hbr))))))
            clear hit hall hc hQr hJr hMr hNr HK hbVr
            go_wp2
            go_ret
            obtain ⟨hit, hall, hQr, hJr, hMr, hNr, hbr⟩ := HG.out
            obtain rfl : k = n1 := hN
            refine ⟨?_, .inr ⟨offB_of HFV.out (by omega) (fun j hj => hall j (by omega)), Q, T, J, M, N, rfl, ⟨hQr, hit, hMr, hJr, ?_, q2, q3, by omega, hTQ, HFV.out, hl.1, hl.2, RootsTell.all us⟩, ?_⟩⟩
            · rw [hT1] at hbr
              exact Below.on HB.out hbr
            · show Fill wr N us us.length
              rw [hl.1]
              exact hNr
            · have := HW.out.1.size
              omega
      · have t1 : ((n2 : Int) != (n1 : Int)) = true := by simp; omega
        have HF2 := Lib.hid (offB_l (us := us) (bs := bs) (by have := HLEN.out; omega))
        clear hn hi0 hz0 hz1 hz2
        go_wp2_with fail
        go_ret
        exact ⟨HB.out, .inl ⟨HF2.out, rfl⟩⟩
end Go.Proofs.Ytafebdpcifmndaa
