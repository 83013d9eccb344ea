/- Marks in slices of strings: the laws' markText, markStringS, heldStringS. Condition: marks up to 4194304, lengths up to 1048576. -/
import Derived.Test.YtecleelcnjhimaaDoorTexts
import Derived.WalkLawsBesides
import Derived.Deep.RegionHeld3
namespace Go.Proofs.YtecleelcnjhimaaDoor
open Go.RowKit

/-- The decimal digits of k, ahead of acc. -/
def digs (k : Nat) (acc : List UInt8) : List UInt8 := if h : k = 0 then acc else digs (k / 10) (UInt8.ofNat (48 + k % 10) :: acc)
termination_by k
decreasing_by omega
theorem digs_zero (acc : List UInt8) : digs 0 acc = acc := by unfold digs; simp
theorem digs_step {k : Nat} (h : k ≠ 0) (acc : List UInt8) : digs k acc = digs (k / 10) (UInt8.ofNat (48 + k % 10) :: acc) := by rw [digs, dif_neg h]
/-- The text of a mark. -/
def markT (k : Int) : ByteArray := ⟨(109 :: digs k.toNat []).toArray⟩
def marksT (k : Int) (n : Nat) : List ByteArray := (List.range n).map fun i : Nat => markT (k + (i : Int))
theorem marksT_len (k : Int) (n : Nat) : (marksT k n).length = n := by simp [marksT]
theorem marksT_get (k : Int) {n i : Nat} (h : i < n) : (marksT k n)[i]?.getD ByteArray.empty = markT (k + i) := by simp [marksT, h]

set_option maxRecDepth 100000 in
set_option maxHeartbeats 800000 in
theorem markText_any (k : Nat) (w : World) (h1 : 1 ≤ k) (h2 : k ≤ 8388608) :
    Calls Tryd.prog 42 #[.int .i64 k] w fun e w' => e = .returned (.string (markT k)) ∧ Below w.heap.size w w' := by
  have hk0 : ¬ (k : Int) ≤ 0 := by omega
  go_enter Tryd.func42, Tryd.ntmps42
  go_wp2
  go_loopw [0, 3] (fun q v wr => ∃ (j : Nat) (s : ByteArray), q = .int .i64 j ∧ v = .string s ∧ j ≤ k ∧ digs j s.data.toList = digs k [] ∧ (s.size ≤ 8 ∧ j < 10 ^ (8 - s.size)) ∧ Below w.heap.size w wr) (fun q _ _ => (intOf q).toNat)
  case atStart => exact ⟨k, _, rfl, rfl, Nat.le_refl _, rfl, ⟨by decide, by show k < 10 ^ 8; omega⟩, Below.refl _ _⟩
  case round =>
    obtain ⟨j, s, rfl, rfl, hj, hd, ⟨hs8, hj8⟩, hbe⟩ := hrel
    by_cases hlt : j = 0
    · subst hlt
      rw [digs_zero] at hd
      have HD := Lib.hid hd
      clear hd
      go_wp2
      go_ret
      refine ⟨congrArg (fun x => Ending.returned (.string x)) (ByteArray.ext ?_), hbe⟩
      rw [ByteArray.data_append]
      unfold markT
      rw [Int.toNat_natCast, ← HD.out]
      simp
    · have hd2 := hd
      rw [digs_step hlt] at hd2
      have HD := Lib.hid hd2
      clear hd hd2
      have hj0 : 0 < (j : Int) := by omega
      have hcv : ∀ W : World, (convert 22 9 (.slice (some ⟨W.heap.size, 0, none⟩) 1 1)).run Tryd.prog (W.alloc (.cells #[.int .u8 (48 + (j : Int) % 10)] 5)) = .ok (.string ⟨[UInt8.ofNat (48 + j % 10)].toArray⟩) (W.alloc (.cells #[.int .u8 (48 + (j : Int) % 10)] 5)) := fun W =>
        run_convert_bytes_back _ 22 9 5 ⟨W.heap.size, 0, none⟩ 1 [UInt8.ofNat (48 + j % 10)] Tryd.underlying22 Tryd.underlying5 Tryd.underlying9 (fun i hi => by
          have hi0 : i = 0 := by simp at hi; omega
          subst hi0
          have e : ((UInt8.ofNat (48 + j % 10)).toNat : Int) = 48 + (j : Int) % 10 := by
            rw [UInt8.toNat_ofNat']
            omega
          simp only [List.getElem_cons_zero, e]
          rw [add_zero_at]
          simp [World.cell?_alloc_at])
      obtain ⟨x, hx⟩ : ∃ x, x = UInt8.ofNat (48 + j % 10) := ⟨_, rfl⟩
      rw [← hx] at hcv HD
      obtain ⟨d, hdd⟩ : ∃ d, 8 - s.size = d + 1 := ⟨8 - s.size - 1, by
        have : 8 - s.size ≠ 0 := fun e => by rw [e] at hj8; simp at hj8; omega
        omega⟩
      have hj9 : j / 10 < 10 ^ (8 - (s.size + 1)) := by
        rw [hdd, Nat.pow_succ] at hj8
        rw [show 8 - (s.size + 1) = d by omega]
        omega
      have hst : (ByteArray.mk [x].toArray ++ s).data.toList = x :: s.data.toList := by rw [ByteArray.data_append]; simp
      have hsz : (ByteArray.mk [x].toArray ++ s).size = s.size + 1 := by rw [ByteArray.size_append]; show 1 + s.size = _; omega
      have hb2 : Below w.heap.size w (wr.alloc (.cells #[.int .u8 (48 + (j : Int) % 10)] 5)) := hbe.alloc hbe.size _
      have HS := Lib.hid (And.intro hst hsz)
      have HJ := Lib.hid hj9
      have hs7 : s.size ≤ 7 := by omega
      clear hst hsz hdd hj8 hx hj9 d
      go_wp2
      go_roundw
      case rel => exact ⟨j / 10, _, by go_num, rfl, by omega, by rw [HS.out.1]; exact HD.out, ⟨by rw [HS.out.2]; omega, by rw [HS.out.2]; exact HJ.out⟩, hb2⟩
      case measure => simp [intOf]; omega

theorem held1_drew {B : Nat} {a w : World} {p : Addr} {v : Value} (h : Below B a w ∧ w.cell? p = some v) : Below B a w.drew ∧ w.drew.cell? p = some v :=
  ⟨⟨h.1.os, h.1.tape, h.1.output, h.1.size, h.1.block⟩, h.2⟩
theorem held1_call {B : Nat} {a w w' : World} {p : Addr} {v : Value} (h : Below B a w ∧ w.cell? p = some v) (hb : Below w.heap.size w w') (hB : B ≤ w.heap.size) : Below B a w' ∧ w'.cell? p = some v :=
  ⟨h.1.trans (hb.mono hB), (hb.cell (World.block_lt_of_cell? w _ h.2)).trans h.2⟩
theorem grown_below {a b c : World} {row : Option Nat} (h : a.grownBy b row) (k : Below b.heap.size b c) : a.grownBy c row :=
  ⟨k.os.trans h.os, k.tape.trans h.tape, k.output.trans h.output, Nat.le_trans h.size k.size, fun i hi hne => (k.block i (Nat.lt_of_lt_of_le hi h.size)).trans (h.block i hi hne)⟩
theorem grown_set {w wr : World} {g : Nat} (hg : w.grownBy wr (some g)) (j : Nat) (v : Value) : w.grownBy (wr.setCell ⟨g, j, none⟩ v) (some g) :=
  ⟨hg.os, hg.tape, hg.output, by simpa [World.setCell] using hg.size, fun i hi hne => (Below.heap_setCell wr ⟨g, j, none⟩ _ i (fun e => hne (by rw [e]))).trans (hg.block i hi hne)⟩

set_option maxRecDepth 100000 in
set_option maxHeartbeats 800000 in
theorem markStringS_any (v : Value) (k : Nat) (zs : List ByteArray) (base : Nat) (w : World) (h : OwnT w base v zs) (hb : zs.length ≤ 1048576) (hk0 : 1 ≤ k) (hk1 : k ≤ 4194304) :
    Calls Tryd.prog 25 #[v, .int .i64 k] w fun e w' => e = .returned (.int .i64 ((k : Int) + zs.length)) ∧ OwnT w' base v (marksT k zs.length) ∧ w.grownBy w' v.ownBlock := by
  rcases h.2 with ⟨hv, hx⟩ | ⟨g, cap, cur, hv, _⟩
  · have h0 : zs = [] := by simpa using hx
    subst h0 hv
    clear hx hb
    go_enter Tryd.func25, Tryd.ntmps25
    go_wp2
    refine wp_loop_rounds 1 ?_
    rw [rounds_succ]
    go_wp2
    go_ret
    exact ⟨ret_int (by simp), World.ownsRow_nil _ _ _ _, World.grownBy.refl _ _⟩
  · obtain ⟨n, hn⟩ : ∃ n, n = zs.length := ⟨_, rfl⟩
    rw [← hn] at hv
    subst hv
    rw [← hn]
    rw [← hn] at hb
    have L1 : zs.length ≤ n := by omega
    have L2 : n ≤ zs.length := by omega
    have ML : (marksT k n).length ≤ n := by rw [marksT_len]; omega
    have ML2 : n ≤ (marksT k n).length := by rw [marksT_len]; omega
    clear hn
    have hz : ∀ m : Nat, m = n → OwnT w base (.slice (some ⟨g, 0, none⟩) n cap) ((marksT k n).take 0 ++ zs.drop 0) := fun _ _ => h
    have hgw : g < w.heap.size := h.at_base.2
    go_enter Tryd.func25, Tryd.ntmps25
    go_wp2_with fail
    go_loopw [1, 5] (fun q i wr => ∃ j : Nat, j ≤ n ∧ i = .int .i64 j ∧ q = .int .i64 ((k : Int) + j) ∧ OwnT wr base (.slice (some ⟨g, 0, none⟩) n cap) ((marksT k n).take j ++ zs.drop j) ∧ w.grownBy wr (some g)) (fun _ i _ => n - (intOf i).toNat)
    case atStart => exact ⟨0, Nat.zero_le _, rfl, by simp, hz n rfl, World.grownBy.refl _ _⟩
    case round =>
      obtain ⟨j, hj, rfl, rfl, ho, hg⟩ := hrel
      by_cases hlt : j < n
      · have MT := markText_any (k + j) wr (by omega) (by omega)
        rw [show ((k + j : Nat) : Int) = (k : Int) + (j : Int) by omega] at MT
        have MT := Lib.hid MT
        have HO := Lib.hid (And.intro ho hg)
        clear ho hg hz
        go_wp2_with fail
        refine MT.out.mono ?_
        rintro e w2 ⟨rfl, hb2⟩
        have ho2 := HO.out.1.keep hb2 (Nat.le_refl _)
        have g2 := ho2.slot hlt
        have g3 := ho2.free j
        have hs := ho2.set_ j ((marksT k n)[j]?.getD ByteArray.empty)
        rw [set_stepT (n := n) (by omega) hlt (by omega), marksT_get k hlt] at hs
        have hg2 := grown_set (grown_below HO.out.2 hb2) j (.string (markT ((k : Int) + j)))
        clear ho2 hb2 HO MT
        go_wp2_with fail
        go_roundw
        case rel => exact ⟨j + 1, by omega, by go_num, by go_num, hs, hg2⟩
        case measure => simp [intOf]; omega
      · have e : (marksT k n).take j ++ zs.drop j = marksT k n := by rw [List.take_of_length_le (by omega), List.drop_eq_nil_of_le (by omega), List.append_nil]
        rw [e] at ho
        obtain rfl : j = n := by omega
        clear e hz
        go_wp2_with fail
        go_ret
        exact ⟨rfl, ho, hg⟩

set_option maxRecDepth 100000 in
set_option maxHeartbeats 800000 in
theorem heldStringS_any (A : Option Addr) (n c B : Nat) (k : Nat) (w : World) (h : RdT w B A n (marksT k n)) (hB : B ≤ w.heap.size) (hb : n ≤ 1048576) (hk0 : 1 ≤ k) (hk1 : k ≤ 4194304) :
    Calls Tryd.prog 26 #[.slice A n c, .int .i64 k] w fun e w' => e = .returned (.int .i64 ((k : Int) + n)) ∧ Below w.heap.size w w' := by
  go_enter Tryd.func26, Tryd.ntmps26
  go_wp2_with fail
  go_loopw [1, 5] (fun q i wr => ∃ j : Nat, j ≤ n ∧ i = .int .i64 j ∧ q = .int .i64 ((k : Int) + j) ∧ Below w.heap.size w wr) (fun _ i _ => n - (intOf i).toNat)
  case atStart => exact ⟨0, Nat.zero_le _, rfl, by simp, Below.refl _ _⟩
  case round =>
    obtain ⟨j, hj, rfl, rfl, hbe⟩ := hrel
    by_cases hlt : j < n
    · obtain ⟨b, off, rfl, hlb, hc1⟩ := (h.below hbe hB).2 (by omega)
      have g1 := hc1 j hlt
      rw [marksT_get k hlt] at g1
      have hbs : b < wr.heap.size := by have := hbe.size; omega
      have MT := fun (W : World) => markText_any (k + j) W (by omega) (by omega)
      rw [show ((k + j : Nat) : Int) = (k : Int) + (j : Int) by omega] at MT
      have MT := Lib.hid MT
      generalize markT ((k : Int) + j) = s at g1 MT
      have hne : (s.toList == s.toList) = true := by simp
      have HBE := Lib.hid hbe
      have hb0 : Below wr.heap.size wr wr := Below.refl _ _
      clear hc1 hbe
      go_wp2_with fail
      go_region_held3 (fun w' => Below wr.heap.size wr w' ∧ w'.cell? ⟨b, off + j, none⟩ = some (.string s))
        (first | exact held1_drew ⟨by assumption, by assumption⟩ | exact held1_drew (by assumption) | exact held1_call (by assumption) (by assumption) (Below.size (And.left (by assumption))))
        (first | (go_at_call 42; refine (MT.out _).mono ?_; rintro e w13 ⟨rfl, hb13⟩))
      have HW := Lib.hid (Below.on HBE.out (‹Below wr.heap.size wr w13 ∧ _›).1)
      go_wp2_with fail
      go_roundw
      case rel => exact ⟨j + 1, by omega, by go_num, by go_num, HW.out⟩
      case measure => simp [intOf]; omega
    · obtain rfl : j = n := by omega
      go_wp2_with fail
      go_ret
      exact ⟨rfl, hbe⟩

theorem markOne_any (v : Value) (zs : List ByteArray) (base : Nat) (w : World) (h : OwnT w base v zs) (hb : zs.length ≤ 1048576) :
    Calls Tryd.prog 25 #[v, .int .i64 1] w fun e w' => e = .returned (.int .i64 (1 + (zs.length : Int))) ∧ OwnT w' base v (marksT 1 zs.length) ∧ w.grownBy w' v.ownBlock :=
  markStringS_any v 1 zs base w h hb (by omega) (by omega)
theorem heldOne_any (A : Option Addr) (n c B : Nat) (w : World) (h : RdT w B A n (marksT 1 n)) (hB : B ≤ w.heap.size) (hb : n ≤ 1048576) :
    Calls Tryd.prog 26 #[.slice A n c, .int .i64 1] w fun e w' => e = .returned (.int .i64 (1 + (n : Int))) ∧ Below w.heap.size w w' :=
  heldStringS_any A n c B 1 w h hB hb (by omega) (by omega)
end Go.Proofs.YtecleelcnjhimaaDoor
