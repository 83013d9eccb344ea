/- The model's RootOf, Together, DeepestOf. Condition: lengths up to 1048576. -/
import Derived.Test.YtebgnaiibomjkaaForest
import Derived.Test.YtebgnaiibomjkaaHelp
import Derived.Deep.LoopGhost
namespace Go.Proofs.Ytebgnaiibomjkaa
open Go.RowKit

set_option maxRecDepth 100000 in
set_option maxHeartbeats 1000000 in
theorem l1Way_any (A : Option Addr) (n c B0 i : Nat) (zs : List Int) (w : World) (h : Rd w B0 A n zs) (hB0 : B0 ≤ w.heap.size) (hb : n ≤ 1048576) (hIn : InB zs) (hi : i < n) :
    Calls Try.prog 111 #[.slice A n c, .int .i64 (i : Int)] w fun e w' => ∃ v, e = .returned v ∧ Own w' w.heap.size v (ints (way zs n i)) ∧ Below w.heap.size w w' := by
  have l1 := h.1
  have L1 : zs.length ≤ n := by omega
  have L3 : n ≤ zs.length := by omega
  clear l1
  have H0 : Own (w.alloc (.cells #[.int .i64 (i : Int)] 3)) w.heap.size (.slice (some ⟨w.heap.size, 0, none⟩) 1 1) (ints ([] ++ [i])) := Own.lit w _ [(i : Int)] (Nat.le_refl _) (by simp)
  have H0 := Lib.hid H0
  go_enter Try.func111, Try.ntmps111
  go_wp2_with fail
  go_loopw [1, 5] (fun q v wr => ∃ (pre : List Nat) (x L : Nat) (A' : Option Addr) (c' : Nat), q = .int .i64 (x : Int) ∧ v = .slice A' L c' ∧ L = pre.length + 1 ∧ L ≤ n + 1 ∧ Path zs (some i) pre (some x) ∧ Own wr w.heap.size (.slice A' L c') (ints (pre ++ [x])) ∧ Below w.heap.size w wr)
    (fun _ v _ => n + 1 - lenOf v)
  case atStart => exact ⟨[], i, 1, _, _, rfl, rfl, rfl, by omega, rfl, H0.out, (Below.refl _ _).alloc (Nat.le_refl _) _⟩
  case round =>
    obtain ⟨pre, x, L, A', c', rfl, rfl, hL, hLn, hp, ho, hbe⟩ := hrel
    clear H0
    have hx : x < n := by have := path_lt hIn (fun j hj => by cases hj; omega) hp; omega
    obtain ⟨b, off, rfl, _, hc1⟩ := (h.below hbe hB0).2 (by omega)
    have g1 := hc1 x hx
    clear hc1
    have hsn := path_snoc hp
    cases hst : step zs x with
    | none =>
      rw [step_none hst] at g1
      rw [hst] at hsn
      have hw : way zs n i = pre ++ [x] := way_done hsn (by simp; omega)
      rw [← hw] at ho
      have hne : ((x : Int) != (x : Int)) = false := by simp
      clear hw hsn hp hst hL
      go_wp2
      go_ret
      exact ⟨_, rfl, ho, hbe⟩
    | some y =>
      obtain ⟨hz, hyx, hy⟩ := step_some hIn (by omega) hst
      rw [hz] at g1
      rw [hst] at hsn
      have hne : ((y : Int) != (x : Int)) = true := by simp; omega
      clear hz
      by_cases hlen : L ≤ n
      · have hol : (ints (pre ++ [x])).length = L := by rw [ints_len]; simp; omega
        have hl' : (ints (pre ++ [x])).length ≤ 1048576 := by omega
        have hsz := hbe.size
        have HL := Lib.hid hL
        have HO := Lib.hid hol
        clear hL hol hp hst hyx
        go_wp2_with (at_builtin; go_must (refine wpList_push rfl (.tmp 25) (.tmp 27) rfl wr w.heap.size _ (ints (pre ++ [x])) y rfl rfl ho hl' hsz ?_); intro v' w' ho' hg' _; obtain ⟨A2, c2, rfl, _⟩ := ho'.form)
        have hbe' : Below w.heap.size w w' := hbe.grown hg' hsz (fun r e => (ho.blockOf r e).1)
        have hlL : (ints (pre ++ [x])).length + 1 = L + 1 := by rw [HO.out]
        have ho2 : Own w' w.heap.size (.slice A2 ((ints (pre ++ [x])).length + 1) c2) (ints (pre ++ [x] ++ [y])) := by
          rw [ints_snoc (pre ++ [x])]
          rwa [List.length_append] at ho'
        go_roundw
        case rel => exact ⟨pre ++ [x], y, _, _, _, rfl, rfl, by rw [ints_len], by rw [hlL]; omega, hsn, ho2, hbe'⟩
        case measure => rw [hlL]; simp [lenOf]; omega
      · have hw : way zs n i = pre ++ [x] := way_long hsn (by simp; omega)
        rw [← hw] at ho
        clear hw hsn hp hst hL hyx
        go_wp2
        go_ret
        exact ⟨_, rfl, ho, hbe⟩

theorem min16 (n : Nat) (h : n ≤ 16) : min (n : Int) 16 = (n : Int) := by omega

set_option maxRecDepth 100000 in
set_option maxHeartbeats 2000000 in
theorem specValid_any (A : Option Addr) (n c B0 : Nat) (zs : List Int) (w : World) (h : Rd w B0 A n zs) (hB0 : B0 ≤ w.heap.size) (hb : n ≤ 1048576) :
    Calls Try.prog 76 #[.slice A n c] w fun e w' => e = .returned (.bool (fvB zs)) ∧ Below w.heap.size w w' := by
  have l1 := h.1
  have L1 : zs.length ≤ n := by omega
  have L3 : n ≤ zs.length := by omega
  clear l1
  go_enter Try.func76, Try.ntmps76
  go_wp2
  go_loop [8] (fun i => ∃ k : Nat, k ≤ n ∧ i = .int .i64 k ∧ ∀ x, x < k → 0 ≤ zs[x]?.getD 0 ∧ zs[x]?.getD 0 < (n : Int)) (fun i => n - (intOf i).toNat)
  case atStart => exact ⟨0, Nat.zero_le _, rfl, fun x hx => absurd hx (by omega)⟩
  case round =>
    obtain ⟨k, hk, rfl, hin⟩ := hrel
    by_cases hlt : k < n
    · obtain ⟨b, off, rfl, _, hc1⟩ := h.2 (by omega)
      have g1 := hc1 k hlt
      clear hc1
      obtain ⟨z, hz⟩ : ∃ z, z = zs[k]?.getD 0 := ⟨_, rfl⟩
      rw [← hz] at g1
      have HI := Lib.hid hin
      have HZ := Lib.hid hz
      clear hin hz
      by_cases hzb : 0 ≤ z ∧ z ≤ (n : Int) - 1
      · have hd : decide (0 ≤ z ∧ z ≤ (n : Int) - 1) = true := by simpa using hzb
        go_wp2_with (go_at_call 104; refine (l1In_any _ _ _ _).mono ?_; rintro e w' ⟨rfl, rfl⟩)
        go_round
        case rel => exact ⟨k + 1, by omega, by go_num, fun x hx => by
          by_cases e : x = k
          · subst e; rw [← HZ.out]; omega
          · exact HI.out x (by omega)⟩
        case measure => simp [intOf]; omega
      · have hd : decide (0 ≤ z ∧ z ≤ (n : Int) - 1) = false := by simpa using hzb
        have hfv : fvB zs = false := by
          cases hv : fvB zs with
          | false => rfl
          | true => exact absurd (by
              have := fv_in hv k (by omega)
              rw [← HZ.out] at this
              omega) hzb
        have HV := Lib.hid hfv
        clear hfv hzb
        go_wp2_with (go_at_call 104; refine (l1In_any _ _ _ _).mono ?_; rintro e w' ⟨rfl, rfl⟩)
        go_ret
        exact ⟨ret_bool HV.out.symm, Below.refl _ _⟩
    · obtain rfl : n = k := by omega
      have hInB : InB zs := fun x hx => by have := hin x (by omega); omega
      clear hin
      by_cases h16 : 16 < n
      · have hfv : fvB zs = false := by
          cases hv : fvB zs with
          | false => rfl
          | true => have := (fv_parts hv).2.1; omega
        have hd : decide (1 ≤ (n : Int) ∧ (n : Int) ≤ 16) = false := by simp; omega
        have HV := Lib.hid hfv
        clear hfv
        go_wp2
        go_loopw [22] (fun i wr => ∃ k : Nat, k ≤ 16 ∧ i = .int .i64 k ∧ Below w.heap.size w wr) (fun i _ => 16 - (intOf i).toNat)
        case atStart => exact ⟨0, Nat.zero_le _, rfl, Below.refl _ _⟩
        case round =>
          obtain ⟨k, hk, rfl, hbe⟩ := hrel
          by_cases hlt : k < 16
          · have R := Lib.hid (l1Way_any A n c B0 k zs wr (h.below hbe hB0) (Nat.le_trans hB0 hbe.size) hb hInB (by omega))
            have hsz := hbe.size
            go_wp2_with fail
            refine R.out.mono ?_
            rintro e w2 ⟨v, rfl, ho, hb2⟩
            obtain ⟨A2, c2, rfl, _⟩ := ho.form
            have hll : (ints (way zs n k)).length ≤ 1048577 := by rw [ints_len]; have := (way_len zs n k).2; omega
            have hbe2 := hbe.trans (hb2.mono hsz)
            clear ho
            by_cases hlen : (n : Int) < ((ints (way zs n k)).length : Int)
            · go_wp2
              go_ret
              exact ⟨ret_bool HV.out.symm, hbe2⟩
            · go_wp2
              go_roundw
              case rel => exact ⟨k + 1, by omega, by go_num, hbe2⟩
              case measure => simp [intOf]; omega
          · go_wp2_with (go_at_call 104; refine (l1In_any _ _ _ _).mono ?_; rintro e w' ⟨rfl, rfl⟩)
            go_ret
            exact ⟨ret_bool HV.out.symm, hbe⟩
      · go_wp2
        go_loopw [22] (fun i wr => ∃ k : Nat, k ≤ n ∧ i = .int .i64 k ∧ Below w.heap.size w wr ∧ ∀ x, x < k → (way zs n x).length ≤ n) (fun i _ => n - (intOf i).toNat)
        case atStart => exact ⟨0, Nat.zero_le _, rfl, Below.refl _ _, fun x hx => absurd hx (by omega)⟩
        case round =>
          obtain ⟨k, hk, rfl, hbe, hw⟩ := hrel
          by_cases hlt : k < n
          · have R := Lib.hid (l1Way_any A n c B0 k zs wr (h.below hbe hB0) (Nat.le_trans hB0 hbe.size) hb hInB (by omega))
            have hsz := hbe.size
            have HW := Lib.hid hw
            clear hw
            go_wp2_with fail
            refine R.out.mono ?_
            rintro e w2 ⟨v, rfl, ho, hb2⟩
            obtain ⟨A2, c2, rfl, _⟩ := ho.form
            have hll : (ints (way zs n k)).length ≤ 1048577 := by rw [ints_len]; have := (way_len zs n k).2; omega
            have hbe2 := hbe.trans (hb2.mono hsz)
            clear ho
            by_cases hlen : (n : Int) < ((ints (way zs n k)).length : Int)
            · have hfv : fvB zs = false := by
                cases hv : fvB zs with
                | false => rfl
                | true => exact absurd (by
                    have := (fv_parts hv).2.2.2 k (by omega)
                    rw [show zs.length = n by omega] at this
                    rw [ints_len] at hlen
                    omega) (Nat.lt_irrefl 0)
              have HV := Lib.hid hfv
              clear hfv
              go_wp2
              go_ret
              exact ⟨ret_bool HV.out.symm, hbe2⟩
            · have hk1 : (way zs n k).length ≤ n := by rw [ints_len] at hlen; omega
              have HK := Lib.hid hk1
              clear hk1
              go_wp2
              go_roundw
              case rel => exact ⟨k + 1, by omega, by go_num, hbe2, fun x hx => by
                by_cases e : x = k
                · subst e; exact HK.out
                · exact HW.out x (by omega)⟩
              case measure => simp [intOf]; omega
          · obtain rfl : n = k := by omega
            have HV : Hid (fvB zs = decide (1 ≤ (n : Int) ∧ (n : Int) ≤ 16)) := by
              by_cases h0 : 1 ≤ n
              · have : fvB zs = true := fv_of (by omega) (by omega) hInB fun x hx => by rw [show zs.length = n by omega]; exact hw x (by omega)
                show _ = _
                rw [this]
                simp
                omega
              · have : fvB zs = false := by
                  cases hv : fvB zs with
                  | false => rfl
                  | true => have := (fv_parts hv).1; omega
                show _ = _
                rw [this]
                simp
                omega
            clear hw
            go_wp2_with (go_at_call 104; refine (l1In_any _ _ _ _).mono ?_; rintro e w' ⟨rfl, rfl⟩)
            go_ret
            exact ⟨ret_bool (by rw [HV.out]; simp), hbe⟩
end Go.Proofs.Ytebgnaiibomjkaa

namespace Go.Proofs.Ytebgnaiibomjkaa
open Go.RowKit

set_option maxRecDepth 100000 in
set_option maxHeartbeats 1000000 in
theorem l1Item_any (A : Option Addr) (n c B0 : Nat) (zs : List Int) (i : Int) (w : World) (h : Rd w B0 A n zs) (hB0 : B0 ≤ w.heap.size) (hb : n ≤ 1048576) :
    Calls Try.prog 60 #[.slice A n c, .int .i64 i] w fun e w' => e = .returned (.bool (itemB zs i)) ∧ Below w.heap.size w w' := by
  have l1 := h.1
  have hit : itemB zs i = (fvB zs && decide (0 ≤ i ∧ i ≤ (n : Int) - 1)) := by
    unfold itemB
    rw [l1]
    congr 1
    simp only [decide_eq_decide]
    omega
  have HI := Lib.hid hit
  have R := specValid_any A n c B0 zs w h hB0 hb
  clear hit l1
  cases hv : fvB zs with
  | false =>
    rw [hv] at R
    have R := Lib.hid R
    have HV := Lib.hid hv
    clear hv
    go_enter Try.func60, Try.ntmps60
    go_wp2_with fail
    refine R.out.mono ?_
    rintro e w1 ⟨rfl, hb1⟩
    go_wp2_with fail
    go_ret
    exact ⟨ret_bool (by rw [HI.out, HV.out]; rfl), hb1⟩
  | true =>
    rw [hv] at R
    have R := Lib.hid R
    have HV := Lib.hid hv
    clear hv
    go_enter Try.func60, Try.ntmps60
    go_wp2_with fail
    refine R.out.mono ?_
    rintro e w1 ⟨rfl, hb1⟩
    go_wp2_with fail
    refine (l1In_any _ _ _ _).mono ?_
    rintro e w2 ⟨rfl, rfl⟩
    go_wp2_with fail
    go_ret
    exact ⟨ret_bool (by rw [HI.out, HV.out]; simp), hb1⟩

set_option maxRecDepth 100000 in
set_option maxHeartbeats 1000000 in
theorem l1Root_any (A : Option Addr) (n c B0 i : Nat) (zs : List Int) (w : World) (h : Rd w B0 A n zs) (hv : fvB zs = true) (hi : i < n) :
    Calls Try.prog 62 #[.slice A n c, .int .i64 (i : Int)] w fun e w' => e = .returned (.int .i64 (rootI zs i : Int)) ∧ w = w' := by
  have l1 := h.1
  have L1 : zs.length ≤ n := by omega
  have L3 : n ≤ zs.length := by omega
  have hP := fv_path hv (i := i) (by omega)
  have hIn := fv_in hv
  have hroot : rootI zs i = lastOf i (way zs zs.length i) := rfl
  obtain ⟨W, hW⟩ : ∃ W, W = way zs zs.length i := ⟨_, rfl⟩
  rw [← hW] at hP hroot
  have HR := Lib.hid hroot
  clear hroot hW hv l1
  go_enter Try.func62, Try.ntmps62
  go_wp2
  go_loopg [1] (W.length) (fun m q wr => ∃ (pre : List Nat) (x : Nat), q = .int .i64 (x : Int) ∧ Path zs (some i) pre (some x) ∧ m + pre.length = W.length ∧ wr = w)
  case atStart => exact ⟨[], i, rfl, rfl, by simp, rfl⟩
  case round =>
    obtain ⟨pre, x, rfl, hp, hm, rfl⟩ := hrel
    have hx : x < n := by have := path_lt hIn (fun j hj => by cases hj; omega) hp; omega
    obtain ⟨b, off, rfl, _, hc1⟩ := h.2 (by omega)
    have g1 := hc1 x hx
    clear hc1
    have hsn := path_snoc hp
    cases hst : step zs x with
    | none =>
      rw [step_none hst] at g1
      rw [hst] at hsn
      have hw : lastOf i W = x := by rw [path_uniq hP hsn]; exact lastOf_snoc _ _ _
      have HW := Lib.hid hw
      have hne : ((x : Int) != (x : Int)) = false := by simp
      clear hw hsn hp hst hm
      go_wp2
      go_ret
      exact ⟨ret_int (by rw [HR.out, HW.out]), rfl⟩
    | some y =>
      obtain ⟨hz, hyx, hy⟩ := step_some hIn (by omega) hst
      rw [hz] at g1
      rw [hst] at hsn
      have hne : ((y : Int) != (x : Int)) = true := by simp; omega
      have hle := path_end hP hsn
      rw [List.length_append] at hle
      have hm1 : 1 ≤ gk := by simp at hle; omega
      have HM := Lib.hid hm
      clear hz hp hst hyx hle hm
      go_wp2
      go_roundg (gk - 1)
      case measure => omega
      case rel => exact ⟨pre ++ [x], y, rfl, hsn, by rw [List.length_append]; have := HM.out; simp; omega, rfl⟩

theorem togB_items {up : List Int} {a b : Nat} (ha : itemB up (a : Int) = true) (hb : itemB up (b : Int) = true) : togB up (a : Int) (b : Int) = ((rootI up a : Int) == (rootI up b : Int)) := by
  rw [togB_yes ha, rootN_yes ha, rootN_yes hb]
theorem togB_no2 {up : List Int} {a b : Int} (h : itemB up b = false) : togB up a b = false := by unfold togB; rw [h]; simp

end Go.Proofs.Ytebgnaiibomjkaa
namespace Go.Proofs.Ytebgnaiibomjkaa
open Go.RowKit
end Go.Proofs.Ytebgnaiibomjkaa