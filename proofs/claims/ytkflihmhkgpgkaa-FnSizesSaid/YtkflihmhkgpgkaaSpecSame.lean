/- The model's SameClasses. Condition: lengths up to 1048576. -/
import Derived.Test.YtkflihmhkgpgkaaSpec2
import Derived.Test.YtkflihmhkgpgkaaRoots
namespace Go.Proofs.Ytkflihmhkgpgkaa
open Go.RowKit

/-- Are the items i and k of both forests together alike? -/
def likeB (xs ys : List Int) (i k : Nat) : Bool := ((rootI xs i : Int) == (rootI xs k : Int)) == ((rootI ys i : Int) == (rootI ys k : Int))
/-- What SameClasses answers: both valid, as long, all pairs together alike. -/
def sameN (xs ys : List Int) : Bool := fvB xs && fvB ys && decide (xs.length = ys.length) && (List.range xs.length).all fun i => (List.range i).all fun k => likeB xs ys i k
theorem sameN_no1 {xs ys : List Int} (h : fvB xs = false) : sameN xs ys = false := by unfold sameN; rw [h]; rfl
theorem sameN_no2 {xs ys : List Int} (h : fvB ys = false) : sameN xs ys = false := by unfold sameN; rw [h]; simp
theorem sameN_no3 {xs ys : List Int} (h : xs.length ≠ ys.length) : sameN xs ys = false := by unfold sameN; simp [h]
theorem sameN_no {xs ys : List Int} {i k : Nat} (hi : i < xs.length) (hk : k < i) (h : likeB xs ys i k = false) : sameN xs ys = false := by
  unfold sameN
  rw [Bool.and_eq_false_iff]
  right
  rw [List.all_eq_false]
  refine ⟨i, by simpa using hi, ?_⟩
  rw [Bool.not_eq_true, List.all_eq_false]
  exact ⟨k, by simpa using hk, by simp [h]⟩
theorem sameN_yes {xs ys : List Int} (h1 : fvB xs = true) (h2 : fvB ys = true) (h3 : xs.length = ys.length) (h : ∀ i k, i < xs.length → k < i → likeB xs ys i k = true) : sameN xs ys = true := by
  unfold sameN
  rw [h1, h2]
  simp only [h3, decide_true, Bool.and_self, Bool.true_and, List.all_eq_true, List.mem_range]
  intro i hi k hk
  exact h i k (by omega) hk

set_option maxRecDepth 100000 in
set_option maxHeartbeats 2000000 in
theorem specSame_any (A : Option Addr) (n c B0 : Nat) (xs : List Int) (A' : Option Addr) (n' c' B0' : Nat) (ys : List Int) (w : World) (h : Rd w B0 A n xs) (hB0 : B0 ≤ w.heap.size) (hb : n ≤ 1048576) (h' : Rd w B0' A' n' ys) (hB0' : B0' ≤ w.heap.size) (hb' : n' ≤ 1048576) :
    Calls Try.prog 37 #[.slice A n c, .slice A' n' c'] w fun e w' => e = .returned (.bool (sameN xs ys)) ∧ Below w.heap.size w w' := by
  have V := specValid_any A n c B0 xs w h hB0 hb
  have V' := Lib.hid (fun (w1 : World) (hb1 : Below w.heap.size w w1) => specValid_any A' n' c' B0' ys w1 (h'.below hb1 hB0') (Nat.le_trans hB0' hb1.size) hb')
  have l1 := h.1
  have l2 := h'.1
  cases hv : fvB xs with
  | false =>
    rw [hv] at V
    have HV := Lib.hid (sameN_no1 (ys := ys) hv)
    have V := Lib.hid V
    clear hv l1 l2 V'
    go_enter Try.func37, Try.ntmps37
    go_wp2_with fail
    refine V.out.mono ?_
    rintro e w1 ⟨rfl, hb1⟩
    go_wp2_with fail
    go_ret
    exact ⟨ret_bool HV.out.symm, hb1⟩
  | true =>
  rw [hv] at V
  have V := Lib.hid V
  cases hv' : fvB ys with
  | false =>
    simp only [hv'] at V'
    have HV := Lib.hid (sameN_no2 (xs := xs) hv')
    clear hv hv' l1 l2
    go_enter Try.func37, Try.ntmps37
    go_wp2_with fail
    refine V.out.mono ?_
    rintro e w1 ⟨rfl, hb1⟩
    go_wp2_with fail
    refine (V'.out w1 hb1).mono ?_
    rintro e w2 ⟨rfl, hb2⟩
    go_wp2_with fail
    go_ret
    exact ⟨ret_bool HV.out.symm, hb1.trans (hb2.mono hb1.size)⟩
  | true =>
  simp only [hv'] at V'
  by_cases hne : n = n'
  · subst hne
    have R := Lib.hid (fun (i : Nat) (hi : i < n) (w1 : World) (hb1 : Below w.heap.size w w1) => l1Root_any A n c B0 i xs w1 (h.below hb1 hB0) hv hi)
    have R' := Lib.hid (fun (i : Nat) (hi : i < n) (w1 : World) (hb1 : Below w.heap.size w w1) => l1Root_any A' n c' B0' i ys w1 (h'.below hb1 hB0') hv' hi)
    have HY := Lib.hid (fun (hl : ∀ i k, i < n → k < i → likeB xs ys i k = true) => sameN_yes hv hv' (by omega) (fun i k hi hk => hl i k (by omega) hk))
    have HN := Lib.hid (fun (i k : Nat) (hi : i < n) (hk : k < i) (hl : likeB xs ys i k = false) => sameN_no (xs := xs) (ys := ys) (by omega) hk hl)
    have hd : ((n : Int) != (n : Int)) = false := by simp
    clear hv hv' l1 l2
    go_enter Try.func37, Try.ntmps37
    go_wp2_with fail
    refine V.out.mono ?_
    rintro e w1 ⟨rfl, hb1⟩
    go_wp2_with fail
    refine (V'.out w1 hb1).mono ?_
    rintro e w2 ⟨rfl, hb2⟩
    have hb2 := hb1.trans (hb2.mono hb1.size)
    clear hb1 V V'
    go_wp2_with fail
    go_loopw [24] (fun q wr => ∃ i : Nat, i ≤ n ∧ q = .int .i64 (i : Int) ∧ Hid (∀ j k, j < i → k < j → likeB xs ys j k = true) ∧ Below w.heap.size w wr) (fun q _ => n - (intOf q).toNat)
    case atStart => exact ⟨0, Nat.zero_le _, rfl, fun j k hj => absurd hj (by omega), hb2⟩
    case round =>
      obtain ⟨i, hi, rfl, HL, hbe⟩ := hrel
      clear hb2
      by_cases hlt : i < n
      · go_wp2_with fail
        go_loopw [28] (fun q wr => ∃ k : Nat, k ≤ i ∧ q = .int .i64 (k : Int) ∧ Hid (∀ j, j < k → likeB xs ys i j = true) ∧ Below w.heap.size w wr) (fun q _ => i - (intOf q).toNat)
        case atStart => exact ⟨0, Nat.zero_le _, rfl, fun j hj => absurd hj (by omega), hbe⟩
        case round =>
          obtain ⟨k, hk, rfl, HK, hbe2⟩ := hrel
          by_cases hlk : k < i
          · have RI := R.out i hlt _ hbe2
            have RK := R.out k (by omega) _ hbe2
            have RI' := R'.out i hlt _ hbe2
            have RK' := R'.out k (by omega) _ hbe2
            have hlike : likeB xs ys i k = (((rootI xs i : Int) == (rootI xs k : Int)) == ((rootI ys i : Int) == (rootI ys k : Int))) := rfl
            generalize (rootI xs i : Int) = a1 at RI hlike
            generalize (rootI xs k : Int) = a2 at RK hlike
            generalize (rootI ys i : Int) = a3 at RI' hlike
            generalize (rootI ys k : Int) = a4 at RK' hlike
            have RI := Lib.hid RI
            have RK := Lib.hid RK
            have RI' := Lib.hid RI'
            have RK' := Lib.hid RK'
            cases hlk2 : likeB xs ys i k with
            | true =>
              have hq : ((a1 == a2) != (a3 == a4)) = false := by rw [hlk2] at hlike; simp [bne, ← hlike]
              have hq2 : (!((a1 == a2) == (a3 == a4))) = false := hq
              have HK2 : Hid (∀ j, j < k + 1 → likeB xs ys i j = true) := fun j hj => by
                by_cases e : j = k
                · subst e; exact hlk2
                · exact HK.out j (by omega)
              clear hlike hlk2 HK
              go_wp2_with fail
              refine RI.out.mono ?_
              rintro e w5 ⟨rfl, rfl⟩
              go_wp2_with fail
              refine RK.out.mono ?_
              rintro e w5 ⟨rfl, rfl⟩
              go_wp2_with fail
              refine RI'.out.mono ?_
              rintro e w5 ⟨rfl, rfl⟩
              go_wp2_with fail
              refine RK'.out.mono ?_
              rintro e w5 ⟨rfl, rfl⟩
              go_wp2_with fail
              go_roundw
              case rel => exact ⟨k + 1, by omega, by go_num, HK2, hbe2⟩
              case measure => simp [intOf]; omega
            | false =>
              have hq : ((a1 == a2) != (a3 == a4)) = true := by rw [hlk2] at hlike; simp [bne, ← hlike]
              have hq2 : (!((a1 == a2) == (a3 == a4))) = true := hq
              have HF := Lib.hid (HN.out i k hlt hlk hlk2)
              clear hlike hlk2 HK
              go_wp2_with fail
              refine RI.out.mono ?_
              rintro e w5 ⟨rfl, rfl⟩
              go_wp2_with fail
              refine RK.out.mono ?_
              rintro e w5 ⟨rfl, rfl⟩
              go_wp2_with fail
              refine RI'.out.mono ?_
              rintro e w5 ⟨rfl, rfl⟩
              go_wp2_with fail
              refine RK'.out.mono ?_
              rintro e w5 ⟨rfl, rfl⟩
              go_wp2_with fail
              go_ret
              exact ⟨ret_bool HF.out.symm, hbe2⟩
          · obtain rfl : k = i := by omega
            have HL2 : Hid (∀ j q, j < k + 1 → q < j → likeB xs ys j q = true) := fun j q hj hq => by
              by_cases e : j = k
              · subst e; exact HK.out q hq
              · exact HL.out j q (by omega) hq
            clear HK HL
            go_wp2_with fail
            go_roundw
            case rel => exact ⟨k + 1, by omega, by go_num, HL2, hbe2⟩
            case measure => simp [intOf]; omega
      · obtain rfl : i = n := by omega
        have HE := Lib.hid (HY.out HL.out)
        go_wp2_with fail
        go_ret
        exact ⟨ret_bool HE.out.symm, hbe⟩
  · have HV := Lib.hid (sameN_no3 (xs := xs) (ys := ys) (by omega))
    have hd : ((n : Int) != (n' : Int)) = true := by simp; omega
    clear hv hv' l1 l2
    go_enter Try.func37, Try.ntmps37
    go_wp2_with fail
    refine V.out.mono ?_
    rintro e w1 ⟨rfl, hb1⟩
    go_wp2_with fail
    refine (V'.out w1 hb1).mono ?_
    rintro e w2 ⟨rfl, hb2⟩
    go_wp2_with fail
    go_ret
    exact ⟨ret_bool HV.out.symm, hb1.trans (hb2.mono hb1.size)⟩
end Go.Proofs.Ytkflihmhkgpgkaa
