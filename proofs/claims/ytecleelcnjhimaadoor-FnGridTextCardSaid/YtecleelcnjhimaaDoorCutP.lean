/- ParseGrid, of the program and of the model. Condition: strings up to 1048576 bytes; the library's longest needle is some number. -/
import Derived.Test.YtecleelcnjhimaaDoorCutG
namespace Go.Proofs.YtecleelcnjhimaaDoor
open Go.RowKit Go.Shelf

theorem specGridValid_wide (A : Option Addr) (n c B : Nat) (xs : List ByteArray) (w : World) (h : RdT w B A n xs) (hb : n ≤ 1048577) (hx : ∀ x ∈ xs, x.size ≤ 1048576) :
    Calls Tryd.prog 19 #[.slice A n c] w fun e w' => e = .returned (.bool (gvB xs)) ∧ w' = w := by
  by_cases hl : n ≤ 1048576
  · exact specGridValid_any A n c B xs w h hl hx
  have L1 := Lib.hid (fun (a b c : Int) (w : World) => l1In_any a b c w)
  have hlen := h.1
  have G := Lib.hid (gv_len (xs := xs) (by omega))
  have hd : decide (1 ≤ (n : Int) ∧ (n : Int) ≤ 6) = false := by simp; omega
  clear h hx hlen
  go_enter Tryd.func19, Tryd.ntmps19
  go_wp2_with fail
  refine (L1.out _ _ _ _).mono ?_
  rintro e w1 ⟨rfl, rfl⟩
  go_wp2_with fail
  go_ret
  exact ⟨ret_bool G.out.symm, rfl⟩

set_option maxRecDepth 100000 in
set_option maxHeartbeats 2000000 in
theorem l13Cut_any (s : ByteArray) (w : World) (hs : s.size ≤ 1048576) :
    Calls Tryd.prog 41 #[.string s, .int .u8 47] w fun e w' => ∃ v, e = .returned v ∧ OwnT w' w.heap.size v (cutT s) ∧ Below w.heap.size w w' := by
  obtain ⟨wE, hE⟩ : ∃ wE, wE = w.alloc (.cells #[] 9) := ⟨_, rfl⟩
  have hbE : Below w.heap.size w wE := by rw [hE]; exact (Below.refl _ _).alloc (Nat.le_refl _) _
  have HOE : Hid (OwnT wE w.heap.size (.slice (some ⟨w.heap.size, 0, none⟩) 0 0) []) := by show OwnT _ _ _ _; rw [hE]; exact OwnT.lit w _ [] (Nat.le_refl _) (by simp)
  have HBE0 := Lib.hid hbE
  have HEE := Lib.hid hE
  have HC0 := Lib.hid (CutAt.start s)
  clear hE hbE
  go_enter Tryd.func41, Tryd.ntmps41
  go_wp2_with fail
  rw [← HEE.out]
  go_loopw [5, 6, 7] (fun v f i wr => ∃ (i' f' : Nat) (A : List ByteArray), f = .int .i64 f' ∧ i = .int .i64 i' ∧ i' ≤ s.size + 1 ∧ Hid (CutAt s i' f' A) ∧ Hid (OwnT wr w.heap.size v A) ∧ Hid (Below w.heap.size w wr)) (fun _ _ i _ => s.size + 1 - (intOf i).toNat)
  case atStart => exact ⟨0, 0, [], rfl, rfl, by omega, HC0, HOE, HBE0⟩
  case round =>
    obtain ⟨i', f', A, rfl, rfl, hi1, HC, HO, HBz⟩ := hrel
    clear HOE HBE0 HEE HC0
    by_cases hle : i' ≤ s.size
    · have hroom := HC.out.room hle
      have hl2 : A.length ≤ 1048576 := by omega
      have hsz := HBz.out.size
      have HO2 := HO.out
      by_cases hlt : i' < s.size
      · by_cases e47 : ((s[i'].toNat : Nat) : Int) = 47
        · have hb : s[i'] = 47 := UInt8.toNat_inj.1 (by show s[i'].toNat = 47; omega)
          obtain ⟨hf, hc2⟩ := HC.out.hit hlt hb
          have HC2 := Lib.hid hc2
          have hcut := fun W => cut_fi (s := s) (f := f') (i := i') hf (by omega) W
          have q1 : ((i' : Int) == (s.size : Int)) = false := by simp; omega
          have q2 : (((s[i'].toNat : Nat) : Int) == 47) = true := by simp [e47]
          have hii : (i' : Int) < (s.size : Int) := by omega
          clear hb hc2 HC
          revert hcut HC2
          generalize s.extract f' i' = z
          intro HC2 hcut
          go_wp2_with (at_builtin; go_must (refine wpList_pushT rfl (.tmp 26) (.tmp 31) rfl wr w.heap.size u5 A z rfl rfl HO2 hl2 hsz ?_); intro v' w' ho' hg' _)
          have HB2 := Lib.hid (HBz.out.grown hg' hsz (fun r e => (HO2.blockOf r e).1))
          have HO3 := Lib.hid ho'
          clear hg' ho' HO2 HO HBz
          go_wp2_with fail
          go_roundw
          case rel => exact ⟨i' + 1, i' + 1, A ++ [z], by go_num, by go_num, by omega, HC2, HO3, HB2⟩
          case measure => simp [intOf]; omega
        · have hb : s[i'] ≠ 47 := fun e => e47 (by rw [e]; rfl)
          have HC2 := Lib.hid (HC.out.miss hlt hb)
          have q1 : ((i' : Int) == (s.size : Int)) = false := by simp; omega
          have q2 : (((s[i'].toNat : Nat) : Int) == 47) = false := by simp [e47]
          have hii : (i' : Int) < (s.size : Int) := by omega
          clear hb HC HO2
          go_wp2_with fail
          go_roundw
          case rel => exact ⟨i' + 1, f', A, rfl, by go_num, by omega, HC2, HO, HBz⟩
          case measure => simp [intOf]; omega
      · obtain rfl : i' = s.size := by omega
        obtain ⟨hf, hc2⟩ := HC.out.last
        have HC2 := Lib.hid hc2
        have hcut := fun W => cut_fi (s := s) (f := f') (i := s.size) hf (by omega) W
        have q1 : ((s.size : Int) == (s.size : Int)) = true := by simp
        clear hc2 HC
        revert hcut HC2
        generalize s.extract f' s.size = z
        intro HC2 hcut
        go_wp2_with (at_builtin; go_must (refine wpList_pushT rfl (.tmp 26) (.tmp 31) rfl wr w.heap.size u5 A z rfl rfl HO2 hl2 hsz ?_); intro v' w' ho' hg' _)
        have HB2 := Lib.hid (HBz.out.grown hg' hsz (fun r e => (HO2.blockOf r e).1))
        have HO3 := Lib.hid ho'
        clear hg' ho' HO2 HO HBz
        go_wp2_with fail
        go_roundw
        case rel => exact ⟨s.size + 1, s.size + 1, A ++ [z], by go_num, by go_num, by omega, HC2, HO3, HB2⟩
        case measure => simp [intOf]
    · obtain rfl := HC.out.done hle
      clear HC
      go_wp2_with fail
      go_ret
      exact ⟨_, rfl, HO.out, HBz.out⟩

set_option maxRecDepth 100000 in
set_option maxHeartbeats 2000000 in
theorem specParse_any (s : ByteArray) (w : World) (hs : s.size ≤ 1048576) :
    Calls Tryd.prog 21 #[.string s] w fun e w' => ∃ v, e = .returned (.tuple #[v, .bool (gvB (cutT s))]) ∧ OwnT w' w.heap.size v (pgN s) ∧ Below w.heap.size w w' := by
  have C := Lib.hid (l13Cut_any s w hs)
  have hl := cutT_len s
  have G := Lib.hid (fun (A : Option Addr) (c : Nat) (w : World) (h : RdT w w.heap.size A (cutT s).length (cutT s)) => specGridValid_wide A (cutT s).length c _ (cutT s) w h (by omega) (fun x hx => by have := cutT_size hx; omega))
  have GY := Lib.hid (pgN_yes (s := s))
  have GN := Lib.hid (pgN_no (s := s))
  revert G GY GN C
  generalize pgN s = ys
  generalize cutT s = xs at hl ⊢
  cases hg : gvB xs with
  | false =>
    intro C G GY GN
    have GN2 := Lib.hid (GN.out rfl)
    clear hg GN GY hl
    go_enter Tryd.func21, Tryd.ntmps21
    go_wp2_with fail
    refine C.out.mono ?_
    rintro e w1 ⟨v, rfl, ho, hb⟩
    obtain ⟨A, c, rfl, hr⟩ := ho.form
    have HBz := Lib.hid hb
    clear ho hb
    go_wp2_with fail
    refine (G.out _ _ _ hr).mono ?_
    rintro e w2 ⟨rfl, rfl⟩
    have hO : OwnT (w2.alloc (.cells #[] 9)) w.heap.size (.slice (some ⟨w2.heap.size, 0, none⟩) 0 0) [] := OwnT.lit w2 _ [] HBz.out.size (by simp)
    have hbE : Below w.heap.size w (w2.alloc (.cells #[] 9)) := HBz.out.trans (((Below.refl _ _).alloc (Nat.le_refl _) _).mono HBz.out.size)
    have HO := Lib.hid (And.intro hO hbE)
    clear hO hbE hr
    go_wp2_with fail
    go_ret2
    exact ⟨_, rfl, by rw [GN2.out]; exact HO.out.1, HO.out.2⟩
  | true =>
    intro C G GY GN
    have GY2 := Lib.hid (GY.out rfl)
    clear hg GY GN hl
    go_enter Tryd.func21, Tryd.ntmps21
    go_wp2_with fail
    refine C.out.mono ?_
    rintro e w1 ⟨v, rfl, ho, hb⟩
    obtain ⟨A, c, rfl, hr⟩ := ho.form
    have HBz := Lib.hid (And.intro ho hb)
    clear ho hb
    go_wp2_with fail
    refine (G.out _ _ _ hr).mono ?_
    rintro e w2 ⟨rfl, rfl⟩
    clear hr
    go_wp2_with fail
    go_ret2
    exact ⟨_, rfl, by rw [GY2.out]; exact HBz.out.1, HBz.out.2⟩

/-- SplitN at a slash, at most 7 pieces. -/
theorem splitN_any (s : ByteArray) (m : Int) (w : World) (hs : s.size ≤ 1048576) (hm : w.cell? ⟨Tryd.laySplitN_ren.g 1, 0, none⟩ = some (.int .i64 m)) :
    Calls Tryd.prog 35 #[.string s, .string ⟨#[47]⟩, .int .i64 7] w fun e w' => ∃ v, e = .returned v ∧ OwnT w' w.heap.size v (limT s) ∧ Below w.heap.size w w' :=
  (Any.strings_SplitN { Tryd.laySplitN with } Tryd.laySplitN.i9 s ⟨#[47]⟩ 7 m w (by omega) hm (by decide) (by decide) (by decide)).mono fun e w' h => by
    obtain ⟨he, hw⟩ := h
    refine ⟨_, he, ?_, by rw [hw]; exact (Below.refl _ _).alloc (Nat.le_refl _) _⟩
    rw [hw]
    show World.ownsRow _ _ 9 1 _ (limT s).length ((limT s).map Value.string)
    exact ⟨by simp, .inr ⟨w.heap.size, min 7 (s.size + 1), Lib.cellsOf (limT s) (min 7 (s.size + 1)), rfl, Nat.le_refl _, heap_alloc_new w _, limT_cap s, by unfold maxLen; omega, by rw [Lib.cellsOf_size (limT_cap s), Nat.mul_one], by
      rw [Nat.mul_one]
      unfold Lib.cellsOf
      rw [show ((limT s).map Value.string ++ List.replicate (min 7 (s.size + 1) - (limT s).length) (Value.string ByteArray.empty)).toArray.toList = (limT s).map Value.string ++ List.replicate (min 7 (s.size + 1) - (limT s).length) (Value.string ByteArray.empty) from rfl, List.take_append_of_le_length (by simp), List.take_of_length_le (by simp)]⟩⟩

set_option maxRecDepth 100000 in
set_option maxHeartbeats 2000000 in
theorem implParse_any (s : ByteArray) (m : Int) (w : World) (hs : s.size ≤ 1048576) (hm : w.cell? ⟨Tryd.laySplitN_ren.g 1, 0, none⟩ = some (.int .i64 m)) :
    Calls Tryd.prog 11 #[.string s] w fun e w' => ∃ v, e = .returned (.tuple #[v, .bool (gvB (cutT s))]) ∧ OwnT w' w.heap.size v (pgN s) ∧ Below w.heap.size w w' := by
  have C := Lib.hid (splitN_any s m w hs hm)
  have hl := limT_len s
  have G := Lib.hid (fun (A : Option Addr) (c : Nat) (w : World) (h : RdT w w.heap.size A (limT s).length (limT s)) => implGridValid_any A (limT s).length c _ (limT s) w h (Nat.le_refl _) (by omega) (fun x hx => by have := limT_size hx; omega))
  have GY := Lib.hid (fun (h : gvB (limT s) = true) => (show pgN s = limT s by rw [(limT_gv s).1] at h; rw [pgN_yes h, (limT_gv s).2 h]))
  have GN := Lib.hid (fun (h : gvB (limT s) = false) => (show pgN s = [] by rw [(limT_gv s).1] at h; exact pgN_no h))
  rw [← (limT_gv s).1]
  revert G GY GN C
  generalize pgN s = ys
  generalize limT s = xs at hl ⊢
  cases hg : gvB xs with
  | false =>
    intro C G GY GN
    have GN2 := Lib.hid (GN.out rfl)
    clear hg GN GY hl hm
    go_enter Tryd.func11, Tryd.ntmps11
    go_wp2_with fail
    refine C.out.mono ?_
    rintro e w1 ⟨v, rfl, ho, hb⟩
    obtain ⟨A, c, rfl, hr⟩ := ho.form
    have HBz := Lib.hid hb
    clear ho hb
    go_wp2_with fail
    refine (G.out _ _ _ hr).mono ?_
    rintro e w2 ⟨rfl, hb2⟩
    have HB2 := Lib.hid (Below.on HBz.out hb2)
    clear hr hb2
    go_wp2_with fail
    go_ret2
    exact ⟨_, rfl, by rw [GN2.out]; exact World.ownsRow_nil _ _ _ _, HB2.out⟩
  | true =>
    intro C G GY GN
    have GY2 := Lib.hid (GY.out rfl)
    clear hg GY GN hl hm
    go_enter Tryd.func11, Tryd.ntmps11
    go_wp2_with fail
    refine C.out.mono ?_
    rintro e w1 ⟨v, rfl, ho, hb⟩
    obtain ⟨A, c, rfl, hr⟩ := ho.form
    have HBz := Lib.hid (And.intro ho hb)
    clear ho hb
    go_wp2_with fail
    refine (G.out _ _ _ hr).mono ?_
    rintro e w2 ⟨rfl, hb2⟩
    have HB2 := Lib.hid (And.intro (HBz.out.1.keep hb2 (Nat.le_refl _)) (Below.on HBz.out.2 hb2))
    clear hr hb2
    go_wp2_with fail
    go_ret2
    exact ⟨_, rfl, by rw [GY2.out]; exact HB2.out.1, HB2.out.2⟩
end Go.Proofs.YtecleelcnjhimaaDoor
