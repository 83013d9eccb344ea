/- The model's FlatForest. Condition: lengths up to 1048576. -/
import Derived.Test.YtemkbheplmimoaaSpec2
import Derived.Test.YtemkbheplmimoaaLook
namespace Go.Proofs.Ytemkbheplmimoaa
open Go.RowKit

def flatTo (up : List Int) (k : Nat) : List Int := (List.range k).map fun i => (rootI up i : Int)
theorem flatTo_succ (up : List Int) (k : Nat) : flatTo up (k + 1) = flatTo up k ++ [(rootI up k : Int)] := by simp [flatTo, List.range_succ]
theorem flatTo_len (up : List Int) (k : Nat) : (flatTo up k).length = k := by simp [flatTo]
set_option maxRecDepth 100000 in
set_option maxHeartbeats 1000000 in
theorem specFlat_any (A : Option Addr) (n c B0 : Nat) (zs : List Int) (w : World) (h : Rd w B0 A n zs) (hB0 : B0 ≤ w.heap.size) (hb : n ≤ 1048576) :
    Calls Try.prog 68 #[.slice A n c] w fun e w' => ∃ v, e = .returned (.tuple #[v, .bool (fvB zs)]) ∧ Own w' w.heap.size v (flatN zs) ∧ Below w.heap.size w w' := by
  have hba := (Below.refl w.heap.size w).alloc (Nat.le_refl _) (.cells #[] 3)
  have R := Lib.hid (specValid_any A n c B0 zs _ (h.below hba hB0) (Nat.le_trans hB0 hba.size) hb)
  have HN := Lib.hid h.1
  have H0 : Own (w.alloc (.cells #[] 3)) w.heap.size (.slice (some ⟨w.heap.size, 0, none⟩) 0 0) [] := Own.lit w _ [] (Nat.le_refl _) (by simp)
  have HO0 := Lib.hid H0
  have HBA := Lib.hid hba
  obtain ⟨ok, hok⟩ : ∃ ok, ok = fvB zs := ⟨_, rfl⟩
  obtain ⟨fs, hfs⟩ : ∃ fs, fs = flatN zs := ⟨_, rfl⟩
  rw [← hok] at R
  rw [← hok, ← hfs]
  cases ok with
  | false =>
    have HF := Lib.hid (hfs.trans (flatN_no hok.symm))
    clear hok hfs h H0 hba
    go_enter Try.func68, Try.ntmps68
    go_wp2_with fail
    refine R.out.mono ?_
    rintro e w1 ⟨rfl, hb1⟩
    have HO1 := Lib.hid (HO0.out.keep hb1 (Nat.le_refl _))
    have HB1 := Lib.hid (HBA.out.trans (hb1.mono HBA.out.size))
    clear hb1
    go_wp2
    go_ret2
    exact ⟨_, rfl, by rw [HF.out]; exact HO1.out, HB1.out⟩
  | true =>
    have HF : Hid (fs = flatTo zs n) := by
      show _ = _
      rw [hfs, flatN_yes hok.symm, ← HN.out]
      rfl
    have h16 := (fv_parts hok.symm).2.1
    have hn16 : n ≤ 16 := by have := HN.out; omega
    have R2 := Lib.hid (fun (w1 : World) (hb1 : Below w.heap.size w w1) (k : Nat) (hk : k < n) => l1Root_any A n c w1.heap.size k zs w1 ((h.below hb1 hB0).more (Nat.le_trans hB0 hb1.size)) hok.symm hk)
    clear hok hfs h H0 hba h16
    go_enter Try.func68, Try.ntmps68
    go_wp2_with fail
    refine R.out.mono ?_
    rintro e w1 ⟨rfl, hb1⟩
    have HO1 : Hid (Own w1 w.heap.size (.slice (some ⟨w.heap.size, 0, none⟩) 0 0) (flatTo zs 0)) := HO0.out.keep hb1 (Nat.le_refl _)
    have hb2 := HBA.out.trans (hb1.mono HBA.out.size)
    clear hb1 HO0 HBA
    go_wp2
    go_loopw [4, 13] (fun v t wr => ∃ k : Nat, k ≤ n ∧ t = .int .i64 k ∧ Hid (Own wr w.heap.size v (flatTo zs k)) ∧ Below w.heap.size w wr) (fun _ t _ => n - (intOf t).toNat)
    case atStart => exact ⟨0, Nat.zero_le _, rfl, HO1, hb2⟩
    case round =>
      obtain ⟨k, hk, rfl, HO, hbe⟩ := hrel
      clear HO1 hb2
      by_cases hlt : k < n
      · have RR := Lib.hid (R2.out wr hbe k hlt)
        have hsz := hbe.size
        go_wp2_with fail
        refine RR.out.mono ?_
        rintro e w2 ⟨rfl, rfl⟩
        have ho := HO.out
        have hl' : (flatTo zs k).length ≤ 1048576 := by rw [flatTo_len]; omega
        have HO2 := Lib.hid ho
        clear HO
        go_wp2_with (at_builtin; go_must (refine wpList_push rfl (.tmp 16) (.tmp 20) rfl wr w.heap.size _ (flatTo zs k) (rootI zs k : Int) rfl rfl ho hl' hsz ?_); intro v' w' ho' hg' _)
        have hbe' := Lib.hid (hbe.grown hg' hsz (fun r e => (HO2.out.blockOf r e).1))
        rw [← flatTo_succ] at ho'
        have HO3 := Lib.hid ho'
        clear hg' ho ho' HO2 hbe
        go_wp2
        go_roundw
        case rel => exact ⟨k + 1, by omega, by go_num, HO3, hbe'.out⟩
        case measure => simp [intOf]; omega
      · obtain rfl : k = n := by omega
        go_wp2
        go_ret2
        exact ⟨_, rfl, by rw [HF.out]; exact HO.out, hbe⟩
end Go.Proofs.Ytemkbheplmimoaa
