/- The model's LookAll and TotalUp. Condition: lengths up to 1048576. -/
import Derived.Test.YtemkbheplmimoaaSpecLook2
namespace Go.Proofs.Ytemkbheplmimoaa
open Go.RowKit

theorem stepsT_le16 {T : List Int → List Nat → Nat → List Int} (K : Kind T) {up : List Int} (h : fvB up = true) {i : Nat} (hi : i < up.length) : stepsT T up i ≤ 16 := by
  have h1 := visits_len K h hi
  have h2 := (fv_parts h).2.1
  unfold stepsT
  omega
theorem manyS_le' {T : List Int → List Nat → Nat → List Int} (K : Kind T) : ∀ {its : List Nat} {up : List Int}, fvB up = true → (∀ i ∈ its, i < up.length) → manyS T up its ≤ 16 * its.length
  | [], _, _, _ => Nat.le_refl _
  | i :: its, up, h, hi => by
    have h1 := lookT_shr K h (hi i (by simp))
    have h2 := manyS_le' K (its := its) h1.fv (fun j hj => by rw [h1.len]; exact hi j (by simp [hj]))
    have h3 := stepsT_le16 K h (hi i (by simp))
    unfold manyS
    rw [List.length_cons]
    omega
theorem nats_take' {is : List Int} {k : Nat} (hk : k < is.length) : nats (is.take (k + 1)) = nats (is.take k) ++ [(is[k]?.getD 0).toNat] := by
  unfold nats
  rw [List.take_succ_eq_append_getElem hk, List.map_append, List.getElem?_eq_getElem hk]
  rfl
set_option maxRecDepth 100000 in
set_option maxHeartbeats 2000000 in
theorem l3All_any (A : Option Addr) (n c B0 : Nat) (zs : List Int) (l : Int) (A1 : Option Addr) (m c1 B1 : Nat) (is : List Int) (w : World) (h : Rd w B0 A n zs) (hB0 : B0 ≤ w.heap.size) (hv : fvB zs = true) (h1 : Rd w B1 A1 m is) (hB1 : B1 ≤ w.heap.size) (hm : m ≤ 24) (hin : ∀ i ∈ is, 0 ≤ i ∧ i < (zs.length : Int)) (hl : 0 ≤ l ∧ l ≤ 3) :
    Calls Try.prog 125 #[.slice A n c, .int .i64 l, .slice A1 m c1] w fun e w' => ∃ v, e = .returned (.tuple #[v, .int .i64 ((manyS (lookAt l) zs (nats is) : Nat) : Int)]) ∧ Own w' w.heap.size v (manyL (lookAt l) zs (nats is)) ∧ Below w.heap.size w w' := by
  have h16 := (fv_parts hv)
  have hln := h.1
  have hn16 : n ≤ 16 := by omega
  have hn1 : 1 ≤ n := by omega
  have HV := Lib.hid hv
  have HN := Lib.hid hln
  have HM := Lib.hid h1.1
  have H := Lib.hid h
  have H1 := Lib.hid h1
  have HIN := Lib.hid hin
  have HLk := Lib.hid hl
  have hits : ∀ q, ∀ i ∈ nats (is.take q), i < zs.length := fun q i hi => by
    unfold nats at hi
    obtain ⟨z, hz, rfl⟩ := List.mem_map.1 hi
    have := hin z (List.mem_of_mem_take hz)
    omega
  have HT := Lib.hid hits
  clear h hv hln h16 h1 hin hits hl
  go_enter Try.func125, Try.ntmps125
  go_wp2_with (at_builtin; go_must (refine wpList_copy rfl (.tmp 14) (.tmp 15) rfl w A n c B0 zs rfl rfl H.out hB0 hn1 (by omega) ?_); intro g1 k1 w1 ho1 hb1)
  have HO1 : Hid (Own w1 w.heap.size (.slice (some ⟨g1, 0, none⟩) n k1) (manyL (lookAt l) zs (nats (is.take 0)))) := ho1
  have HB1 := Lib.hid hb1
  clear ho1 hb1
  go_loopw [8, 9, 19] (fun v s t wr => ∃ k : Nat, k ≤ m ∧ t = .int .i64 k ∧ s = .int .i64 ((manyS (lookAt l) zs (nats (is.take k)) : Nat) : Int) ∧ (∃ g k1, v = .slice (some ⟨g, 0, none⟩) n k1) ∧ Hid (Own wr w.heap.size v (manyL (lookAt l) zs (nats (is.take k))) ∧ Below w.heap.size w wr)) (fun _ _ t _ => m - (intOf t).toNat)
  case atStart => exact ⟨0, Nat.zero_le _, rfl, rfl, ⟨_, _, rfl⟩, HO1.out, HB1.out⟩
  case round =>
    obtain ⟨k, hk, rfl, rfl, ⟨g, kk, rfl⟩, HR⟩ := hrel
    clear HO1 HB1
    by_cases hlt : k < m
    · obtain ⟨ho, hbe⟩ := HR.out
      obtain ⟨b, off, rfl, _, hc1⟩ := (H1.out.below hbe hB1).2 (by omega)
      have g1 := hc1 k hlt
      have hki : k < is.length := by have := HM.out; omega
      have hz := HIN.out (is[k]?.getD 0) (by rw [List.getElem?_eq_getElem hki, Option.getD_some]; exact List.getElem_mem hki)
      have hnt := nats_take' hki
      obtain ⟨j, hj⟩ := Int.eq_ofNat_of_zero_le hz.1
      rw [hj] at g1 hz hnt
      rw [Int.toNat_natCast] at hnt
      have S := many_shr (look_kind l) HV.out (HT.out k)
      have hjn : j < n := by have := HN.out; omega
      have hle := manyS_le' (look_kind l) HV.out (HT.out k)
      have hlen : (nats (is.take k)).length ≤ 24 := by simp [nats]; omega
      have hs16 := stepsT_le16 (look_kind l) S.fv (i := j) (by rw [S.len]; omega)
      have hlU : (manyL (lookAt l) zs (nats (is.take k))).length = n := by rw [S.len, HN.out]
      have U := Lib.hid (l3Up_any (some ⟨g, 0, none⟩) n kk wr.heap.size j (manyL (lookAt l) zs (nats (is.take k))) l wr (by have := ho.rd; exact this) (Nat.le_refl _) S.fv hjn HLk.out)
      have HL2 := Lib.hid ((lookT_shr (look_kind l) S.fv (i := j) (by rw [S.len]; omega)).len.trans hlU)
      have HNT := Lib.hid hnt
      have HBE := Lib.hid hbe
      obtain ⟨F0, hF0⟩ : ∃ F0, F0 = manyS (lookAt l) zs (nats (is.take k)) := ⟨_, rfl⟩
      obtain ⟨S0, hS0⟩ : ∃ S0, S0 = stepsT (lookAt l) (manyL (lookAt l) zs (nats (is.take k))) j := ⟨_, rfl⟩
      rw [← hS0] at U hs16
      rw [← hF0] at hle ⊢
      have HF0 := Lib.hid (And.intro hF0 hS0)
      have hF1 : F0 ≤ 400 := by omega
      clear hc1 hj hz hnt hle hlen S ho hbe HR hlU hF0 hS0
      go_wp2_with fail
      refine U.out.mono ?_
      rintro e w3 ⟨v3, rfl, ho3, hb3⟩
      obtain ⟨A3, c3, rfl, _⟩ := ho3.form
      have hl3 := HL2.out
      have ho4 := ho3
      rw [hl3] at ho4 ⊢
      obtain ⟨g3, rfl⟩ := own_head ho4 hn1
      have HR3 : Hid (Own w3 w.heap.size (.slice (some ⟨g3, 0, none⟩) n c3) (manyL (lookAt l) zs (nats (is.take (k + 1)))) ∧ Below w.heap.size w w3) := by
        show _ ∧ _
        rw [HNT.out, manyL_snoc]
        exact ⟨ho4.less HBE.out.size, HBE.out.trans (hb3.mono HBE.out.size)⟩
      have HS3 : Hid (((F0 : Int) + (S0 : Int)) = ((manyS (lookAt l) zs (nats (is.take (k + 1))) : Nat) : Int)) := by
        show _ = _
        rw [HNT.out, manyS_snoc, ← HF0.out.1, ← HF0.out.2]
        omega
      clear ho3 ho4 hb3 hl3
      go_wp2
      go_roundw
      case rel => exact ⟨k + 1, by omega, by go_num, by rw [← HS3.out], ⟨_, _, rfl⟩, HR3.out⟩
      case measure => simp [intOf]; omega
    · obtain rfl : k = m := by omega
      have htk : is.take k = is := by rw [← HM.out, List.take_length]
      obtain ⟨ho, hbe⟩ := HR.out
      rw [htk] at ho
      rw [htk]
      have HO := Lib.hid ho
      clear ho htk HR
      go_wp2
      go_ret2
      exact ⟨_, rfl, HO.out, hbe⟩
theorem lookB_items (up : List Int) (l : Int) (is : List Int) : lookB up l is = (itemsB up is && inLook l) := rfl

set_option maxRecDepth 100000 in
set_option maxHeartbeats 1000000 in
theorem specLookAll_any (A : Option Addr) (n c B0 : Nat) (zs : List Int) (l : Int) (A1 : Option Addr) (m c1 B1 : Nat) (is : List Int) (w : World) (h : Rd w B0 A n zs) (hB0 : B0 ≤ w.heap.size) (hb : n ≤ 1048576) (h1 : Rd w B1 A1 m is) (hB1 : B1 ≤ w.heap.size) (hm : m ≤ 1048576) :
    Calls Try.prog 62 #[.slice A n c, .int .i64 l, .slice A1 m c1] w fun e w' => ∃ v, e = .returned (.tuple #[v, .bool (lookB zs l is)]) ∧ Own w' w.heap.size v (lookedN zs l is) ∧ Below w.heap.size w w' := by
  have R := l3Items_any A n c B0 zs A1 m c1 B1 is w h hB0 hb h1 hm
  have L := l3Look_any l
  have hb1 := lookB_items zs l is
  cases hv : itemsB zs is with
  | false =>
    rw [hv] at R
    have hno : lookB zs l is = false := by rw [hb1, hv]; rfl
    rw [hno]
    have HN := Lib.hid (lookedN_no hno)
    have R := Lib.hid R
    clear hv hb1 hno L h h1
    go_enter Try.func62, Try.ntmps62
    go_wp2_with fail
    refine R.out.mono ?_
    rintro e w1 ⟨rfl, hb1⟩
    go_wp2_with fail
    go_ret2
    exact ⟨_, rfl, by rw [HN.out]; exact Own.lit w1 _ [] hb1.size (by simp), hb1.alloc hb1.size _⟩
  | true =>
    rw [hv] at R
    cases hl : inLook l with
    | false =>
      rw [hl] at L
      have hno : lookB zs l is = false := by rw [hb1, hl]; simp
      rw [hno]
      have HN := Lib.hid (lookedN_no hno)
      have R := Lib.hid R
      have L := Lib.hid L
      clear hv hb1 hno hl h h1
      go_enter Try.func62, Try.ntmps62
      go_wp2_with fail
      refine R.out.mono ?_
      rintro e w1 ⟨rfl, hb1⟩
      go_wp2_with fail
      refine (L.out _).mono ?_
      rintro e w2 ⟨rfl, rfl⟩
      go_wp2_with fail
      go_ret2
      exact ⟨_, rfl, by rw [HN.out]; exact Own.lit w1 _ [] hb1.size (by simp), hb1.alloc hb1.size _⟩
    | true =>
      rw [hl] at L
      have hyes : lookB zs l is = true := by rw [hb1, hv, hl]; rfl
      rw [hyes]
      have P := lookB_parts hyes
      have HN := Lib.hid (lookedN_yes hyes)
      have R := Lib.hid R
      have L := Lib.hid L
      have hlm := h1.1
      have U := Lib.hid (fun (w1 : World) (hb1 : Below w.heap.size w w1) => l3All_any A n c B0 zs l A1 m c1 B1 is w1 (h.below hb1 hB0) (Nat.le_trans hB0 hb1.size) P.1 (h1.below hb1 hB1) (Nat.le_trans hB1 hb1.size) (by omega) P.2.2.1 P.2.2.2)
      clear hv hb1 hyes hl h h1 P hlm
      go_enter Try.func62, Try.ntmps62
      go_wp2_with fail
      refine R.out.mono ?_
      rintro e w1 ⟨rfl, hb1⟩
      go_wp2_with fail
      refine (L.out _).mono ?_
      rintro e w2 ⟨rfl, rfl⟩
      go_wp2_with fail
      refine (U.out w1 hb1).mono ?_
      rintro e w3 ⟨v, rfl, ho, hb3⟩
      have HO := Lib.hid (ho.less hb1.size)
      have HB := Lib.hid (hb1.trans (hb3.mono hb1.size))
      clear ho hb3
      go_wp2_with fail
      go_ret2
      exact ⟨_, rfl, by rw [HN.out]; exact HO.out, HB.out⟩
set_option maxRecDepth 100000 in
set_option maxHeartbeats 1000000 in
theorem specTotalUp_any (A : Option Addr) (n c B0 : Nat) (zs : List Int) (l : Int) (A1 : Option Addr) (m c1 B1 : Nat) (is : List Int) (w : World) (h : Rd w B0 A n zs) (hB0 : B0 ≤ w.heap.size) (hb : n ≤ 1048576) (h1 : Rd w B1 A1 m is) (hB1 : B1 ≤ w.heap.size) (hm : m ≤ 1048576) :
    Calls Try.prog 65 #[.slice A n c, .int .i64 l, .slice A1 m c1] w fun e w' => e = .returned (.int .i64 (followedN zs l is)) ∧ Below w.heap.size w w' := by
  have R := l3Items_any A n c B0 zs A1 m c1 B1 is w h hB0 hb h1 hm
  have L := l3Look_any l
  have hb1 := lookB_items zs l is
  cases hv : itemsB zs is with
  | false =>
    rw [hv] at R
    have hno : lookB zs l is = false := by rw [hb1, hv]; rfl
    rw [followedN_no hno]
    have R := Lib.hid R
    clear hv hb1 hno L h h1
    go_enter Try.func65, Try.ntmps65
    go_wp2_with fail
    refine R.out.mono ?_
    rintro e w1 ⟨rfl, hb1⟩
    go_wp2_with fail
    go_ret
    exact ⟨rfl, hb1⟩
  | true =>
    rw [hv] at R
    cases hl : inLook l with
    | false =>
      rw [hl] at L
      have hno : lookB zs l is = false := by rw [hb1, hl]; simp
      rw [followedN_no hno]
      have R := Lib.hid R
      have L := Lib.hid L
      clear hv hb1 hno hl h h1
      go_enter Try.func65, Try.ntmps65
      go_wp2_with fail
      refine R.out.mono ?_
      rintro e w1 ⟨rfl, hb1⟩
      go_wp2_with fail
      refine (L.out _).mono ?_
      rintro e w2 ⟨rfl, rfl⟩
      go_wp2_with fail
      go_ret
      exact ⟨rfl, hb1⟩
    | true =>
      rw [hl] at L
      have hyes : lookB zs l is = true := by rw [hb1, hv, hl]; rfl
      rw [followedN_yes hyes]
      have P := lookB_parts hyes
      have R := Lib.hid R
      have L := Lib.hid L
      have hlm := h1.1
      have U := Lib.hid (fun (w1 : World) (hb1 : Below w.heap.size w w1) => l3All_any A n c B0 zs l A1 m c1 B1 is w1 (h.below hb1 hB0) (Nat.le_trans hB0 hb1.size) P.1 (h1.below hb1 hB1) (Nat.le_trans hB1 hb1.size) (by omega) P.2.2.1 P.2.2.2)
      clear hv hb1 hyes hl h h1 P hlm
      go_enter Try.func65, Try.ntmps65
      go_wp2_with fail
      refine R.out.mono ?_
      rintro e w1 ⟨rfl, hb1⟩
      go_wp2_with fail
      refine (L.out _).mono ?_
      rintro e w2 ⟨rfl, rfl⟩
      go_wp2_with fail
      refine (U.out w1 hb1).mono ?_
      rintro e w3 ⟨v, rfl, _, hb3⟩
      have HB := Lib.hid (hb1.trans (hb3.mono hb1.size))
      clear hb3
      go_wp2_with fail
      go_ret
      exact ⟨rfl, HB.out⟩
end Go.Proofs.Ytemkbheplmimoaa
