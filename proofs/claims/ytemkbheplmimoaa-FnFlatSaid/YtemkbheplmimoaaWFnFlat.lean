/- The walk of the law on flat forests: for every row of bytes the law returns true and nothing that was there has turned. -/
import Derived.Test.YtemkbheplmimoaaImplFlat
import Derived.Test.YtemkbheplmimoaaSpecFlat
import Derived.Test.YtemkbheplmimoaaLookFrom
import Derived.Test.YtemkbheplmimoaaLookP
import Derived.Test.YtemkbheplmimoaaDraw7
import Derived.Test.YtemkbheplmimoaaKit
import Derived.Test.YtemkbheplmimoaaSkip
import Derived.Test.YtemkbheplmimoaaHeld
namespace Go.Proofs.Ytemkbheplmimoaa
open Go.RowKit

theorem flat_deep {up : List Int} (h : fvB up = true) : deepN (flat up) ≤ 1 := by
  have S := flat_shr h
  unfold deepN
  rw [if_pos S.fv]
  have : deepTo (flat up) (flat up).length ≤ 1 := deepTo_le fun j hj => by
    have := flat_dist h (i := j) (by rw [flat_len] at hj; exact hj)
    exact this
  omega
theorem nats_ints : ∀ (xs : List Nat), nats (ints xs) = xs
  | [] => rfl
  | x :: xs => by
    have := nats_ints xs
    unfold nats ints at *
    simp only [List.map_cons, Int.toNat_natCast, this]
theorem flat_asked {up : List Int} (h : fvB up = true) : lookB up 1 (ints (List.range up.length)) = true ∧ lookedN up 1 (ints (List.range up.length)) = flat up := by
  have h16 := (fv_parts h).2.1
  have hb : lookB up 1 (ints (List.range up.length)) = true := lookB_of h (by rw [ints_len, List.length_range]; omega) (fun i hi => by
    obtain ⟨k, hk, rfl⟩ := List.mem_map.1 hi
    have := List.mem_range.1 hk
    omega) (by omega) (by omega)
  refine ⟨hb, ?_⟩
  rw [lookedN_yes hb, nats_ints, lookAt_1, flat_all h]
set_option maxRecDepth 100000 in
set_option maxHeartbeats 8000000 in
theorem fnFlat (A0 : Option Addr) (n0 c0 : Nat) (z0 : List Int) (w : World) (h0 : Row .u8 w A0 n0 c0 z0) :
    Calls Try.prog 14 #[.slice A0 n0 c0] w fun e w' => e = .returned (.bool true) ∧ Below w.heap.size w w' := by
  by_cases hl0 : 1048576 < n0
  · clear h0
    go_enter Try.func14, Try.ntmps14
    go_wp2
    go_ret
    exact ⟨rfl, Below.refl _ _⟩
  obtain ⟨b0, hc0⟩ := h0.bt
  have D0 := Lib.hid (drawFlat_any A0 n0 c0 w.heap.size z0 w b0 (Nat.le_refl _) hc0)
  clear h0 b0 hc0
  go_enter Try.func14, Try.ntmps14
  go_wp2_with fail
  refine D0.out.mono ?_
  rintro e w1 ⟨v, zs, rfl, ho, hl, hb1⟩
  obtain ⟨A, c, rfl, hr⟩ := ho.form
  obtain ⟨n, hn⟩ : ∃ n, n = zs.length := ⟨_, rfl⟩
  rw [← hn] at hr hl
  rw [← hn]
  clear ho D0
  have IF := fun (w2 : World) (hb2 : Below w1.heap.size w1 w2) => rd2_of (implFlat_any A n c w1.heap.size zs w2 (hr.below hb2 (Nat.le_refl _)) hb2.size (by omega))
  have SF := fun (w2 : World) (hb2 : Below w1.heap.size w1 w2) => rd2_of (specFlat_any A n c w1.heap.size zs w2 (hr.below hb2 (Nat.le_refl _)) hb2.size (by omega))
  cases hv : fvB zs with
  | false =>
    rw [hv, flatN_no hv] at IF SF
    have IF := Lib.hid IF
    have SF := Lib.hid SF
    clear hv hn hr
    go_wp2_with fail
    refine (IF.out _ (by repeat (first | assumption | exact Below.refl _ _ | refine Below.on ?_ (by assumption)))).mono ?_
    rintro e w2 ⟨A2, c2, rfl, hr2, hb2⟩
    go_wp2_with fail
    refine (SF.out _ (by repeat (first | assumption | exact Below.refl _ _ | refine Below.on ?_ (by assumption)))).mono ?_
    rintro e w3 ⟨A3, c3, rfl, hr3, hb3⟩
    have hr2 := hr2.to hb3
    go_wp2_with fail
    refine (q_of (lrSame_any A2 A3 _ c2 c3 _ _ [] _ hr2 hr3 (by simp))).mono ?_
    rintro e w4 ⟨rfl, hb4⟩
    have hr2 := hr2.to hb4
    have hr3 := hr3.to hb4
    go_wp2_with fail
    refine (q_of (lrSame_any A2 A3 _ c2 c3 _ _ [] _ hr2 hr3 (by simp))).mono ?_
    rintro e w5 ⟨rfl, hb5⟩
    go_wp2_with fail
    go_ret
    exact ⟨rfl, (by repeat (first | assumption | exact Below.refl _ _ | refine Below.on ?_ (by assumption)))⟩
  | true =>
    have hl2 : (flat zs).length = n := by rw [flat_len]; exact hn.symm
    have S := flat_shr hv
    have hfl : flatN (flat zs) = flat zs := by rw [flatN_yes S.fv, flat_again hv]
    obtain ⟨hk1, hk2⟩ := flat_asked hv
    rw [← hn] at hk1 hk2
    have hd1 := flat_deep hv
    have hsame := shr_same S
    rw [hv, flatN_yes hv, hl2] at IF SF
    have IG := fun (A' : Option Addr) (c' B' : Nat) (w2 : World) (h : Rd w2 B' A' n (flat zs)) (hB : B' ≤ w2.heap.size) => rd2_of (implFlat_any A' n c' B' (flat zs) w2 h hB (by omega))
    rw [hfl, S.fv, hl2] at IG
    have IL := fun (A' : Option Addr) (c' B' : Nat) (w2 : World) (hb2 : Below w1.heap.size w1 w2) (h : Rd w2 B' A' n (ints (List.range n))) (hB : B' ≤ w2.heap.size) => rd2_of (implLookAll_any A n c w1.heap.size zs 1 A' n c' B' (ints (List.range n)) w2 (hr.below hb2 (Nat.le_refl _)) hb2.size (by omega) h hB (by omega))
    rw [hk1, hk2, hl2] at IL
    have DP := fun (A' : Option Addr) (c' B' : Nat) (w2 : World) (h : Rd w2 B' A' n (flat zs)) (hB : B' ≤ w2.heap.size) => implDeep_any A' n c' B' (flat zs) w2 h hB (by omega)
    have SM := fun (A' : Option Addr) (c' B' : Nat) (w2 : World) (hb2 : Below w1.heap.size w1 w2) (h : Rd w2 B' A' n (flat zs)) (hB : B' ≤ w2.heap.size) => implSame_any A' n c' B' (flat zs) A n c w1.heap.size zs w2 h hB (by omega) (hr.below hb2 (Nat.le_refl _)) hb2.size (by omega)
    rw [hsame] at SM
    have RT := fun (k : Nat) (w2 : World) (hb2 : Below w1.heap.size w1 w2) => implRoot_any A n c w1.heap.size zs (k : Int) w2 (hr.below hb2 (Nat.le_refl _)) hb2.size (by omega)
    have HX : Hid (∀ k, k < n → (flat zs)[k]?.getD 0 = rootN zs (k : Int)) := fun k hk => by
      rw [flat_get (by omega), rootN_yes (item_of hv (by omega) (by omega))]
      rfl
    obtain ⟨dd, hdd⟩ : ∃ dd, dd = deepN (flat zs) := ⟨_, rfl⟩
    rw [← hdd] at DP hd1
    obtain ⟨fs, hfs⟩ : ∃ fs, fs = flat zs := ⟨_, rfl⟩
    rw [← hfs] at IF SF IG IL DP SM HX
    have IF := Lib.hid IF
    have SF := Lib.hid SF
    have IG := Lib.hid IG
    have IL := Lib.hid IL
    have DP := Lib.hid DP
    have SM := Lib.hid SM
    have RT := Lib.hid RT
    have h16 : n ≤ 16 := by have := (fv_parts hv).2.1; omega
    clear hl2 S hfl hk1 hk2 hsame hdd hfs hv hn hr
    go_wp2_with fail
    refine (IF.out _ (by repeat (first | assumption | exact Below.refl _ _ | refine Below.on ?_ (by assumption)))).mono ?_
    rintro e w2 ⟨A2, c2, rfl, hr2, hb2⟩
    go_wp2_with fail
    refine (SF.out _ (by repeat (first | assumption | exact Below.refl _ _ | refine Below.on ?_ (by assumption)))).mono ?_
    rintro e w3 ⟨A3, c3, rfl, hr3, hb3⟩
    have hr2 := hr2.to hb3
    go_wp2_with fail
    refine (q_of (lrSame_any A2 A3 _ c2 c3 _ _ fs _ hr2 hr3 (by omega))).mono ?_
    rintro e w4 ⟨rfl, hb4⟩
    have hr2 := hr2.to hb4
    have hb14 : Below w1.heap.size w1 w4 := (by repeat (first | assumption | exact Below.refl _ _ | refine Below.on ?_ (by assumption)))
    clear hr3 hb2 hb3 hb4 IF SF
    have H0 : Hid (Own (w4.alloc (.cells #[] 3)) w4.heap.size (.slice (some ⟨w4.heap.size, 0, none⟩) 0 0) (ints (List.range 0))) := Own.lit w4 _ [] (Nat.le_refl _) (by simp)
    have hbs : Below w4.heap.size w4 (w4.alloc (.cells #[] 3)) := (Below.refl _ w4).alloc (Nat.le_refl _) _
    have HBS := Lib.hid hbs
    clear hbs
    go_wp2
    go_loopw [8, 58] (fun v t wr => ∃ k : Nat, k ≤ n ∧ t = .int .i64 (k : Int) ∧ (∃ A c, v = .slice A k c) ∧ Hid (Own wr w4.heap.size v (ints (List.range k)) ∧ Below w4.heap.size w4 wr)) (fun _ t _ => n - (intOf t).toNat)
    case atStart => exact ⟨0, Nat.zero_le _, rfl, ⟨_, _, rfl⟩, H0.out, HBS.out⟩
    case round =>
      obtain ⟨k, hk, rfl, ⟨A5, c5, rfl⟩, HR⟩ := hrel
      clear H0 HBS
      by_cases hlt : k < n
      · obtain ⟨ho, hbe⟩ := HR.out
        have hsz := hbe.size
        have hlk : (ints (List.range k)).length ≤ 1048576 := by rw [ints_len, List.length_range]; omega
        have HO := Lib.hid (And.intro ho hbe)
        clear HR
        go_wp2_with (at_builtin; go_must (refine wpList_push rfl (.tmp 61) (.tmp 63) rfl wr w4.heap.size _ (ints (List.range k)) (k : Int) rfl rfl ho hlk hsz ?_); intro v' w6 ho6 hg6 _; obtain ⟨A6, c6, rfl, _⟩ := ho6.form)
        have hb6 : Below w4.heap.size w4 w6 := HO.out.2.grown hg6 hsz (fun r e => (HO.out.1.blockOf r e).1)
        have hlen6 : (ints (List.range k) ++ [(k : Int)]).length = k + 1 := by simp [ints]
        rw [hlen6] at ho6
        have hlen7 : (ints (List.range k)).length + 1 = k + 1 := by simp [ints]
        rw [hlen7]
        rw [← ints_snoc, ← List.range_succ] at ho6
        have hb16 : Below w1.heap.size w1 w6 := hb14.trans (hb6.mono hb14.size)
        obtain ⟨b, off, rfl, hblt, hc⟩ := (hr2.below hb6 (Nat.le_refl _)).2 (by omega)
        have g1 := hc k hlt
        rw [HX.out k hlt] at g1
        have HO6 := Lib.hid ho6
        have hs6 : w4.heap.size ≤ w6.heap.size := hb6.size
        obtain ⟨x, hx⟩ : ∃ x, x = rootN zs (k : Int) := ⟨_, rfl⟩
        have RTk := RT.out k
        rw [← hx] at RTk g1
        have RTk := Lib.hid RTk
        have hne : (x != x) = false := by simp
        have hb66 : Below w6.heap.size w6 w6 := Below.refl _ _
        clear ho ho6 hg6 hc hx HO hbe
        go_wp2
        go_region_held3 (fun w' => Below w6.heap.size w6 w' ∧ w'.cell? ⟨b, off + k, none⟩ = some (.int .i64 x))
          (first | exact held1_drew ⟨by assumption, by assumption⟩ | exact held1_drew (by assumption) | exact held1_call (by assumption) (by assumption) (Below.size (And.left (by assumption))))
          (first | (go_at_call 36; refine (RTk.out _ (hb16.trans ((‹Below w6.heap.size w6 _ ∧ _›).1.mono hb16.size))).mono ?_; rintro e w8 ⟨rfl, hb8⟩))
        have hbz := (‹Below w6.heap.size w6 _ ∧ _›).1
        have HF : Hid (Own w8 w4.heap.size (.slice A6 (k + 1) c6) (ints (List.range (k + 1))) ∧ Below w4.heap.size w4 w8) := ⟨HO6.out.keep hbz (Nat.le_refl _), hb6.trans (hbz.mono hs6)⟩
        clear hbz HO6
        go_wp2
        go_roundw
        case rel => exact ⟨k + 1, by omega, by go_num, ⟨_, _, rfl⟩, HF⟩
        case measure => simp [intOf]; omega
      · obtain rfl : k = n := by omega
        obtain ⟨ho, hbe⟩ := HR.out
        have hlen5 : (ints (List.range k)).length = k := by simp [ints]
        have hrd : Rd wr wr.heap.size A5 k (ints (List.range k)) := ho.rd
        have hr2 := hr2.to hbe
        have hb1r : Below w1.heap.size w1 wr := hb14.trans (hbe.mono hb14.size)
        have hb0 : Below w.heap.size w wr := hb1.trans (hb1r.mono hb1.size)
        clear hb1 hb14 hbe ho HR hlen5
        go_wp2_with fail
        refine (IL.out A5 c5 _ _ hb1r hrd (Nat.le_refl _)).mono ?_
        rintro e w7 ⟨A7, c7, rfl, hr7, hb7⟩
        have hr2 := hr2.to hb7
        go_wp2_with fail
        refine (IG.out A2 c2 _ _ hr2 (Nat.le_refl _)).mono ?_
        rintro e w8 ⟨A8, c8, rfl, hr8, hb8⟩
        have hr2 := hr2.to hb8
        have hr7 := hr7.to hb8
        go_wp2_with fail
        refine (q_of (lrSame_any A7 A2 _ c7 c2 _ _ fs _ hr7 hr2 (by omega))).mono ?_
        rintro e w9 ⟨rfl, hb9⟩
        have hr2 := hr2.to hb9
        have hr8 := hr8.to hb9
        go_wp2_with fail
        refine (q_of (lrSame_any A8 A2 _ c8 c2 _ _ fs _ hr8 hr2 (by omega))).mono ?_
        rintro e w10 ⟨rfl, hb10⟩
        have hr2 := hr2.to hb10
        go_wp2_with fail
        refine (DP.out A2 c2 _ _ hr2 (Nat.le_refl _)).mono ?_
        rintro e w11 ⟨rfl, hb11⟩
        have hr2 := hr2.to hb11
        have hb1s : Below w1.heap.size w1 w11 := hb1r.trans (Below.mono (show Below wr.heap.size wr w11 from (by repeat (first | assumption | exact Below.refl _ _ | refine Below.on ?_ (by assumption)))) hb1r.size)
        go_wp2_with fail
        refine (SM.out A2 c2 _ _ hb1s hr2 (Nat.le_refl _)).mono ?_
        rintro e w12 ⟨rfl, hb12⟩
        clear hb1r hb1s
        go_wp2_with fail
        go_ret
        exact ⟨rfl, (by repeat (first | assumption | exact Below.refl _ _ | refine Below.on ?_ (by assumption)))⟩
end Go.Proofs.Ytemkbheplmimoaa
