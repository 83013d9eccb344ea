/- The model's DiffOf. Condition: lengths up to 1048576. -/
import Derived.Test.YtafebdpcifmndaaDiffer
import Derived.Test.YtafebdpcifmndaaArgs
import Derived.Deep.RegionHeld3
namespace Go.Proofs.Ytafebdpcifmndaa
open Go.RowKit

def diffB (us bs : List Int) (a b : Int) : Bool := offB us bs && togB us a b
def diffN (us bs : List Int) (a b : Int) : Int := if diffB us bs a b = true then overI us bs b.toNat - overI us bs a.toNat else 0
theorem diff_no {us bs : List Int} {a b : Int} (h : diffB us bs a b = false) : diffN us bs a b = 0 := by unfold diffN; rw [h]; rfl
theorem tog_in {us : List Int} {a b : Int} (h : togB us a b = true) : (0 ≤ a ∧ a < (us.length : Int)) ∧ 0 ≤ b ∧ b < (us.length : Int) := by
  unfold togB at h
  simp only [Bool.and_eq_true] at h
  have h1 := h.1.1
  have h2 := h.1.2
  unfold itemB at h1 h2
  simp only [Bool.and_eq_true, decide_eq_true_eq] at h1 h2
  exact ⟨h1.2, h2.2⟩
set_option maxRecDepth 100000 in
set_option maxHeartbeats 4000000 in
theorem specDiff_any (A1 A2 : Option Addr) (n1 c1 n2 c2 B0 : Nat) (a b : Int) (us bs : List Int) (w : World) (h1 : Rd w B0 A1 n1 us) (h2 : Rd w B0 A2 n2 bs) (hB0 : B0 ≤ w.heap.size) (hb1 : n1 ≤ 1048576) (hb2 : n2 ≤ 1048576) :
    Calls Try.prog 84 #[.agg #[.slice A1 n1 c1, .slice A2 n2 c2], .int .i64 a, .int .i64 b] w fun e w' => e = .returned (.tuple #[.int .i64 (diffN us bs a b), .bool (diffB us bs a b)]) ∧ Below w.heap.size w w' := by
  obtain ⟨W, hW⟩ : ∃ W, W = w.alloc (.cells #[.slice A1 n1 c1, .slice A2 n2 c2] 92) := ⟨_, rfl⟩
  have hbW : Below w.heap.size w W := by rw [hW]; exact (Below.refl _ _).alloc (Nat.le_refl _) _
  have hA : W.heap[w.heap.size]? = some (.cells #[.slice A1 n1 c1, .slice A2 n2 c2] 92 (0, 0)) := by rw [hW]; exact World.alloc_heap_new w _
  have h1W := h1.below hbW hB0
  have h2W := h2.below hbW hB0
  have hBW : B0 ≤ W.heap.size := Nat.le_trans hB0 hbW.size
  have OV := specOffs_any A1 A2 n1 c1 n2 c2 B0 us bs W h1W h2W hBW hb1 hb2
  have TG := fun (w8 : World) (h8 : Below W.heap.size W w8) => specTog_any A1 n1 c1 B0 us a b w8 (h1W.below h8 hBW) (Nat.le_trans hBW h8.size) hb1
  obtain ⟨P, hP⟩ : ∃ P, P = w.heap.size := ⟨_, rfl⟩
  rw [← hP] at hA
  have HW := Lib.hid (And.intro hbW (And.intro hA (Array.getElem?_eq_some_iff.1 hA).1))
  have HE := Lib.hid (And.intro hW hP)
  cases hv : offB us bs with
  | false =>
    have hno : diffB us bs a b = false := by unfold diffB; rw [hv]; rfl
    rw [hv] at OV
    rw [diff_no hno, hno]
    have OV := Lib.hid OV
    clear h1 h2 hB0 hb1 hb2 hW hbW hA h1W h2W hBW hP hv hno TG
    go_enter Try.func84, Try.ntmps84
    go_wp2_with fail
    rw [← HE.out.1, ← HE.out.2]
    refine OV.out.mono ?_
    rintro e w1 ⟨rfl, hb⟩
    have HB := Lib.hid (Below.on HW.out.1 hb)
    clear hb
    go_wp2_with fail
    go_ret2
    exact ⟨rfl, HB.out⟩
  | true =>
    rw [hv] at OV
    have OV := Lib.hid OV
    cases ht : togB us a b with
    | false =>
      have hno : diffB us bs a b = false := by unfold diffB; rw [ht]; simp
      rw [diff_no hno, hno]
      have TG : Hid (∀ w8, Below W.heap.size W w8 → Calls Try.prog 152 #[.slice A1 n1 c1, .int .i64 a, .int .i64 b] w8 fun e w' => e = .returned (.bool false) ∧ Below w8.heap.size w8 w') := fun w8 h8 => by have := TG w8 h8; rw [ht] at this; exact this
      clear h1 h2 hB0 hb1 hb2 hW hbW hA h1W h2W hBW hP hv hno ht
      go_enter Try.func84, Try.ntmps84
      go_wp2_with fail
      rw [← HE.out.1, ← HE.out.2]
      refine OV.out.mono ?_
      rintro e w1 ⟨rfl, hb⟩
      obtain ⟨⟨k1, k2⟩, _⟩ := boxTwo_cells ((hb.block P HW.out.2.2).trans HW.out.2.1)
      have TZ := Lib.hid (TG.out w1 hb)
      have HB := Lib.hid hb
      clear hb TG
      go_wp2_with fail
      refine TZ.out.mono ?_
      rintro e w2 ⟨rfl, hb2⟩
      have HB2 := Lib.hid (Below.on HW.out.1 (Below.on HB.out hb2))
      clear hb2 k1 k2
      go_wp2_with fail
      go_ret2
      exact ⟨rfl, HB2.out⟩
    | true =>
      have hyes : diffB us bs a b = true := by unfold diffB; rw [hv, ht]; rfl
      have hd : diffN us bs a b = overI us bs b.toNat - overI us bs a.toNat := by unfold diffN; rw [if_pos hyes]
      rw [hd, hyes]
      obtain ⟨⟨ha0, ha1⟩, hb0, hb1'⟩ := tog_in ht
      obtain ⟨_, hlen, _⟩ := offB_parts hv
      obtain ⟨a, rfl⟩ : ∃ x : Nat, a = x := ⟨a.toNat, by omega⟩
      obtain ⟨b, rfl⟩ : ∃ x : Nat, b = x := ⟨b.toNat, by omega⟩
      rw [Int.toNat_natCast, Int.toNat_natCast]
      have TG : Hid (∀ w8, Below W.heap.size W w8 → Calls Try.prog 152 #[.slice A1 n1 c1, .int .i64 (a : Int), .int .i64 (b : Int)] w8 fun e w' => e = .returned (.bool true) ∧ Below w8.heap.size w8 w') := fun w8 h8 => by have := TG w8 h8; rw [ht] at this; exact this
      have hl1 := h1.1
      have hl2 := h2.1
      have hn : n2 = n1 := by omega
      subst hn
      have OA := overI_le hv (show a < us.length by omega)
      have OB := overI_le hv (show b < us.length by omega)
      obtain ⟨ov, hov⟩ : ∃ ov, ov = overI us bs := ⟨_, rfl⟩
      have LO : Hid (∀ (z : Nat), Hid (z < n2) → ∀ w8, Below W.heap.size W w8 → Calls Try.prog 153 #[.agg #[.slice A1 n2 c1, .slice A2 n2 c2], .int .i64 (z : Int)] w8 fun e w' => e = .returned (.int .i64 (ov z)) ∧ Below w8.heap.size w8 w') := fun z hz w8 h8 => by
        rw [hov]
        exact l5Over_any A1 A2 n2 c1 c2 B0 z us bs w8 (h1W.below h8 hBW) (h2W.below h8 hBW) (Nat.le_trans hBW h8.size) hv hz.out
      rw [← hov] at OA OB ⊢
      have HAI := Lib.hid (show a < n2 by omega)
      have HBI := Lib.hid (show b < n2 by omega)
      obtain ⟨oa1, oa2⟩ := OA
      obtain ⟨ob1, ob2⟩ := OB
      clear h1 h2 hB0 hb1 hb2 hW hbW hA h1W h2W hBW hP hv ht hyes hd ha0 ha1 hb0 hb1' hlen hl1 hl2 hov
      go_enter Try.func84, Try.ntmps84
      go_wp2_with fail
      rw [← HE.out.1, ← HE.out.2]
      refine OV.out.mono ?_
      rintro e w1 ⟨rfl, hb⟩
      obtain ⟨⟨k1, k2⟩, _⟩ := boxTwo_cells ((hb.block P HW.out.2.2).trans HW.out.2.1)
      have TZ := Lib.hid (TG.out w1 hb)
      have HB := Lib.hid hb
      clear hb TG
      go_wp2_with fail
      refine TZ.out.mono ?_
      rintro e w2 ⟨rfl, hb2⟩
      have hb2' := Below.on HB.out hb2
      obtain ⟨⟨k1, k2⟩, _⟩ := boxTwo_cells ((hb2'.block P HW.out.2.2).trans HW.out.2.1)
      have HB2 := Lib.hid hb2'
      have hbb : Below w2.heap.size w2 w2 := Below.refl _ _
      clear hb2 hb2'
      go_wp2_with fail
      go_region_held3 (fun w' => Below w2.heap.size w2 w' ∧ w'.cell? ⟨P, 0, none⟩ = some (.slice A1 n2 c1) ∧ w'.cell? ⟨P, 1, none⟩ = some (.slice A2 n2 c2))
        (first | assumption | exact held2_drew ⟨by assumption, by assumption, by assumption⟩ | exact held2_drew (by assumption) | exact held2_call (by assumption) (by assumption) (Below.size (And.left (by assumption))))
        (first | (go_at_call 153; refine (LO.out _ (by first | exact HAI | exact HBI) _ (Below.on HB2.out (‹Below w2.heap.size w2 _ ∧ _›).1)).mono ?_; rintro e w8 ⟨rfl, hb8⟩))
      have hbz := (‹Below w2.heap.size w2 _ ∧ _›).1
      have HBZ := Lib.hid (Below.on HW.out.1 (Below.on HB2.out hbz))
      clear hbz
      go_wp2_with fail
      go_ret2
      have hwr : IntKind.i64.wrap (ov b - ov a) = ov b - ov a := IntWalk.i64_in _ (by omega)
      refine ⟨?_, HBZ.out⟩
      show Ending.returned (.tuple #[.int .i64 (IntKind.i64.wrap (ov b - ov a)), .bool true]) = _
      rw [hwr]
end Go.Proofs.Ytafebdpcifmndaa
