/- Numbers as words: the model's l13Dec, and strconv.Itoa below 100. Condition: numbers up to 1000000. -/
import Derived.Test.YtfmhdngblpmcfaaDoorJoinS
import Derived.Shelf.Strconv.Itoa3
import Derived.WalkLawsBesides
namespace Go.Proofs.YtfmhdngblpmcfaaDoor
open Go.RowKit Go.Shelf

def decT (k : Nat) : ByteArray := ⟨(Lib.decDigits k).toArray⟩
def itoaT (n : Int) : ByteArray := ⟨(Lib.itoa n).toArray⟩
theorem itoaT_nat (k : Nat) : itoaT (k : Int) = decT k := by
  unfold itoaT decT Lib.itoa
  rw [if_neg (by omega), Int.toNat_natCast]
theorem decT_size {k : Nat} : ∀ m, k < 10 ^ (m + 1) → (decT k).size ≤ m + 1
  | 0, h => by
    have hk : k < 10 := by simpa using h
    show (Lib.decDigits k).toArray.size ≤ 1
    rw [Lib.decDigits_one hk]
    simp
  | m + 1, h => by
    show (Lib.decDigits k).toArray.size ≤ m + 1 + 1
    rw [Lib.decDigits]
    split
    · simp
    · have := decT_size (k := k / 10) m (by rw [Nat.pow_succ] at h; omega)
      have e : (Lib.decDigits (k / 10)).length ≤ m + 1 := by simpa [decT, ByteArray.size] using this
      simp
      omega
theorem convert_one (n : Nat) (hn : n < 256) (W : World) : (convert 119 9 (.slice (some ⟨W.heap.size, 0, none⟩) 1 1)).run Tryd.prog (W.alloc (.cells #[.int .u8 (n : Int)] 5)) = .ok (.string ⟨[UInt8.ofNat n].toArray⟩) (W.alloc (.cells #[.int .u8 (n : Int)] 5)) :=
  run_convert_bytes_back _ 119 9 5 ⟨W.heap.size, 0, none⟩ 1 [UInt8.ofNat n] Tryd.underlying119 Tryd.underlying5 Tryd.underlying9 (fun i hi => by
    have hi0 : i = 0 := by simp at hi; omega
    subst hi0
    have e : ((UInt8.ofNat n).toNat : Int) = (n : Int) := by
      rw [UInt8.toNat_ofNat']
      omega
    simp only [List.getElem_cons_zero, e]
    rw [add_zero_at]
    simp [World.cell?_alloc_at])

set_option maxRecDepth 100000 in
set_option maxHeartbeats 1000000 in
theorem decPos_any (k : Nat) (w : World) (hk : k ≤ 1000000) :
    Calls Tryd.prog 39 #[.int .i64 k] w fun e w' => e = .returned (.string (decT k)) ∧ Below w.heap.size w w' := by
  have h1 : ¬ (k : Int) < -9223372036854775807 := by omega
  have h2 : ¬ (k : Int) < 0 := by omega
  go_enter Tryd.func39, Tryd.ntmps39
  go_wp2
  go_loopw [0, 3] (fun q v wr => ∃ (j : Nat) (s : ByteArray), q = .int .i64 j ∧ v = .string s ∧ j ≤ k ∧ Lib.decDigits j ++ s.data.toList = Lib.decDigits k ∧ (s.size ≤ 8 ∧ j < 10 ^ (9 - s.size)) ∧ Below w.heap.size w wr) (fun q _ _ => (intOf q).toNat)
  case atStart => exact ⟨k, _, rfl, rfl, Nat.le_refl _, by simp, ⟨by decide, by show k < 10 ^ 9; omega⟩, Below.refl _ _⟩
  case round =>
    obtain ⟨j, s, rfl, rfl, hj, hd, ⟨hs8, hj8⟩, hbe⟩ := hrel
    by_cases hlt : j ≤ 9
    · have hd2 := hd
      rw [Lib.decDigits_one (show j < 10 by omega)] at hd2
      have hcv := convert_one (48 + j) (by omega)
      rw [show ((48 + j : Nat) : Int) = 48 + (j : Int) by omega] at hcv
      obtain ⟨x, hx⟩ : ∃ x, x = UInt8.ofNat (48 + j) := ⟨_, rfl⟩
      rw [← hx] at hcv hd2
      have hres : (ByteArray.mk [x].toArray ++ s) = decT k := by
        refine ByteArray.ext ?_
        rw [ByteArray.data_append]
        show [x].toArray ++ s.data = (Lib.decDigits k).toArray
        rw [← hd2]
        simp
      have HR := Lib.hid hres
      have hb2 : Below w.heap.size w (wr.alloc (.cells #[.int .u8 (48 + (j : Int))] 5)) := hbe.alloc hbe.size _
      have hj9 : ¬ 9 < (j : Int) := by omega
      have hm : (48 + (j : Int)) % 256 = 48 + (j : Int) := by omega
      clear hd hd2 hj8 hres hx
      go_wp2
      go_ret
      exact ⟨congrArg (fun x => Ending.returned (.string x)) HR.out, hb2⟩
    · have hd2 := hd
      rw [Lib.decDigits, dif_neg (by omega), List.append_assoc] at hd2
      have hcv := convert_one (48 + j % 10) (by omega)
      rw [show ((48 + j % 10 : Nat) : Int) = 48 + (j : Int) % 10 by omega] at hcv
      obtain ⟨x, hx⟩ : ∃ x, x = UInt8.ofNat (48 + j % 10) := ⟨_, rfl⟩
      rw [← hx] at hcv hd2
      obtain ⟨d, hdd⟩ : ∃ d, 9 - s.size = d + 1 := ⟨9 - s.size - 1, by omega⟩
      have hd1 : d ≠ 0 := fun e => by rw [hdd, e] at hj8; simp at hj8; omega
      have hj9 : j / 10 < 10 ^ (9 - (s.size + 1)) := by
        rw [hdd, Nat.pow_succ] at hj8
        rw [show 9 - (s.size + 1) = d by omega]
        omega
      have hst : (ByteArray.mk [x].toArray ++ s).data.toList = x :: s.data.toList := by rw [ByteArray.data_append]; simp
      have hsz : (ByteArray.mk [x].toArray ++ s).size = s.size + 1 := by rw [ByteArray.size_append]; show 1 + s.size = _; omega
      have hb2 : Below w.heap.size w (wr.alloc (.cells #[.int .u8 (48 + (j : Int) % 10)] 5)) := hbe.alloc hbe.size _
      have HS := Lib.hid (And.intro hst hsz)
      have HJ := Lib.hid hj9
      have HD := Lib.hid hd2
      have hs7 : s.size ≤ 7 := by omega
      have hg9 : 9 < (j : Int) := by omega
      clear hst hsz hdd hj8 hx hj9 hd hd2 hd1 d
      go_wp2
      go_roundw
      case rel => exact ⟨j / 10, _, by go_num, rfl, by omega, by rw [HS.out.1]; exact HD.out, ⟨by rw [HS.out.2]; omega, by rw [HS.out.2]; exact HJ.out⟩, hb2⟩
      case measure => simp [intOf]; omega

set_option maxRecDepth 100000 in
set_option maxHeartbeats 1000000 in
/-- strconv.Itoa below 100. -/
theorem itoa_any (k : Nat) (w : World) (hk : k < 100) :
    Calls Tryd.prog 54 #[.int .i64 k] w fun e w' => e = .returned (.string (decT k)) ∧ w' = w :=
  Any.strconv_Itoa_small Tryd.layItoa k hk w

theorem heldP_drew {B : Nat} {a w : World} {p q : Addr} {v u : Value} (h : Below B a w ∧ w.cell? p = some v ∧ w.cell? q = some u) : Below B a w.drew ∧ w.drew.cell? p = some v ∧ w.drew.cell? q = some u :=
  ⟨⟨h.1.os, h.1.tape, h.1.output, h.1.size, h.1.block⟩, h.2⟩
theorem heldP_call {B : Nat} {a w w' : World} {p q : Addr} {v u : Value} (h : Below B a w ∧ w.cell? p = some v ∧ w.cell? q = some u) (hb : Below w.heap.size w w') (hB : B ≤ w.heap.size) : Below B a w' ∧ w'.cell? p = some v ∧ w'.cell? q = some u :=
  ⟨h.1.trans (hb.mono hB), (hb.cell (World.block_lt_of_cell? w _ h.2.1)).trans h.2.1, (hb.cell (World.block_lt_of_cell? w _ h.2.2)).trans h.2.2⟩

set_option maxHeartbeats 800000 in
theorem linkWord_any (k i : Nat) (w : World) (hk : k < 100) :
    Calls Tryd.prog 41 #[.int .i64 k, .int .i64 i] w fun e w' => e = .returned (.string (if (k : Int) = (i : Int) then ⟨#[46]⟩ else decT k)) ∧ w' = w := by
  by_cases h : (k : Int) = (i : Int)
  · rw [if_pos h]
    obtain rfl : k = i := by omega
    go_enter Tryd.func41, Tryd.ntmps41
    go_wp2
    go_ret
    exact ⟨rfl, rfl⟩
  · rw [if_neg h]
    have IT := Lib.hid (itoa_any k w hk)
    generalize decT k = s at IT
    go_enter Tryd.func41, Tryd.ntmps41
    go_wp2_with fail
    refine IT.out.mono ?_
    rintro e w1 ⟨rfl, rfl⟩
    go_wp2_with fail
    go_ret
    exact ⟨rfl, rfl⟩

end Go.Proofs.YtfmhdngblpmcfaaDoor
