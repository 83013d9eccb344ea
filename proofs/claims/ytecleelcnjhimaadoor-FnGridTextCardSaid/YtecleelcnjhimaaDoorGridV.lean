/- GridValid, of the program and of the model. Condition: lengths up to 1048576. -/
import Derived.Test.YtecleelcnjhimaaDoorTexts
import Derived.Test.YtecleelcnjhimaaDoorStrLay
import Derived.Shelf.Strings.SlTrimAscii
import Derived.WalkLawsBesides
namespace Go.Proofs.YtecleelcnjhimaaDoor
open Go.RowKit Go.Shelf

/-- A byte of a cell: '.' or '#'. -/
def cellB (b : UInt8) : Bool := b == 46 || b == 35
def rowB (w : Nat) (x : ByteArray) : Bool := decide (x.size = w) && x.data.toList.all cellB
/-- What GridValid answers. -/
def gvB (xs : List ByteArray) : Bool := decide (1 ≤ xs.length ∧ xs.length ≤ 6) && decide (1 ≤ (xs[0]?.getD ByteArray.empty).size ∧ (xs[0]?.getD ByteArray.empty).size ≤ 6) && xs.all (rowB (xs[0]?.getD ByteArray.empty).size)
theorem gv_parts {xs : List ByteArray} (h : gvB xs = true) : (1 ≤ xs.length ∧ xs.length ≤ 6) ∧ (1 ≤ (xs[0]?.getD ByteArray.empty).size ∧ (xs[0]?.getD ByteArray.empty).size ≤ 6) ∧ ∀ x ∈ xs, x.size = (xs[0]?.getD ByteArray.empty).size ∧ x.data.toList.all cellB = true := by
  unfold gvB at h
  simp only [Bool.and_eq_true, decide_eq_true_eq, List.all_eq_true] at h
  refine ⟨h.1.1, h.1.2, fun x hx => ?_⟩
  have := h.2 x hx
  unfold rowB at this
  simp only [Bool.and_eq_true, decide_eq_true_eq] at this
  exact this
theorem gv_of {xs : List ByteArray} (h1 : 1 ≤ xs.length ∧ xs.length ≤ 6) (h2 : 1 ≤ (xs[0]?.getD ByteArray.empty).size ∧ (xs[0]?.getD ByteArray.empty).size ≤ 6) (h3 : ∀ k, k < xs.length → rowB (xs[0]?.getD ByteArray.empty).size (xs[k]?.getD ByteArray.empty) = true) : gvB xs = true := by
  unfold gvB
  rw [decide_eq_true h1, decide_eq_true h2]
  simp only [Bool.true_and, List.all_eq_true]
  intro x hx
  obtain ⟨k, hk, rfl⟩ := List.mem_iff_getElem.1 hx
  have := h3 k hk
  rwa [List.getElem?_eq_getElem hk, Option.getD_some] at this
theorem gv_len {xs : List ByteArray} (h : ¬ (1 ≤ xs.length ∧ xs.length ≤ 6)) : gvB xs = false := by unfold gvB; rw [decide_eq_false h]; rfl
theorem gv_wide {xs : List ByteArray} (h : ¬ (1 ≤ (xs[0]?.getD ByteArray.empty).size ∧ (xs[0]?.getD ByteArray.empty).size ≤ 6)) : gvB xs = false := by unfold gvB; rw [decide_eq_false h]; simp
theorem gv_row {xs : List ByteArray} {k : Nat} (hk : k < xs.length) (h : rowB (xs[0]?.getD ByteArray.empty).size (xs[k]?.getD ByteArray.empty) = false) : gvB xs = false := by
  cases hg : gvB xs with
  | false => rfl
  | true =>
    obtain ⟨_, _, h3⟩ := gv_parts hg
    obtain ⟨q1, q2⟩ := h3 (xs[k]?.getD ByteArray.empty) (by rw [List.getElem?_eq_getElem hk]; exact List.getElem_mem hk)
    unfold rowB at h
    rw [decide_eq_true q1, q2] at h
    cases h
theorem mem_dropWhile {p : UInt8 → Bool} {b : UInt8} (hp : p b = false) : ∀ {l : List UInt8}, b ∈ l → b ∈ l.dropWhile p
  | c :: l, h => by
    rw [List.dropWhile_cons]
    split
    · rename_i hc
      rcases List.mem_cons.1 h with h | h
      · subst h; rw [hp] at hc; cases hc
      · exact mem_dropWhile hp h
    · exact h
theorem dropWhile_all {p : UInt8 → Bool} : ∀ {l : List UInt8}, l.all p = true → l.dropWhile p = []
  | [], _ => rfl
  | b :: l, h => by
    rw [List.all_cons, Bool.and_eq_true] at h
    rw [List.dropWhile_cons, if_pos h.1]
    exact dropWhile_all h.2
theorem cell_contains (b : UInt8) : [46, 35].contains b = cellB b := by
  unfold cellB
  simp
  rfl
theorem trim_nil (l : List UInt8) : (Lib.trimS l [46, 35]).isEmpty = l.all cellB := by
  have e : ([46, 35] : List UInt8).contains = cellB := funext cell_contains
  unfold Lib.trimS Lib.trimLeftS Lib.trimRightS
  simp only [cell_contains]
  cases h : l.all cellB with
  | true =>
    rw [dropWhile_all (l := l.reverse) (by simpa using h)]
    rfl
  | false =>
    rw [List.all_eq_false] at h
    obtain ⟨b, hb, hp⟩ := h
    have hp : cellB b = false := by simpa using hp
    have h1 : b ∈ (l.reverse.dropWhile cellB).reverse := by
      rw [List.mem_reverse]
      exact mem_dropWhile hp (by rw [List.mem_reverse]; exact hb)
    have h2 := mem_dropWhile hp h1
    cases hl : ((l.reverse.dropWhile cellB).reverse).dropWhile cellB with
    | nil => rw [hl] at h2; cases h2
    | cons x y => rfl
theorem trim_any (s : ByteArray) (w : World) (hs : s.size ≤ 1048576) :
    Calls Tryd.prog 36 #[.string s, .string ⟨#[46, 35]⟩] w fun e w' => ∃ r : ByteArray, e = .returned (.string r) ∧ r.toList.isEmpty = s.data.toList.all cellB ∧ Below w.heap.size w w' := by
  refine (Any.strings_Trim_laid Tryd.layTrim (by kernel_rfl) s ⟨#[46, 35]⟩ w (by omega) (by decide) (ascii_of_all (by decide))).mono ?_
  rintro e w' ⟨rfl, hb⟩
  exact ⟨_, rfl, by rw [Lib.toList_data]; exact trim_nil _, hb⟩

set_option maxRecDepth 100000 in
set_option maxHeartbeats 2000000 in
theorem implGridValid_any (A : Option Addr) (n c B : Nat) (xs : List ByteArray) (w : World) (h : RdT w B A n xs) (hB : B ≤ w.heap.size) (hb : n ≤ 1048576) (hx : ∀ x ∈ xs, x.size ≤ 1048576) :
    Calls Tryd.prog 17 #[.slice A n c] w fun e w' => e = .returned (.bool (gvB xs)) ∧ Below w.heap.size w w' := by
  have hlen := h.1
  by_cases hn : n < 1 ∨ 6 < n
  · have G := Lib.hid (gv_len (xs := xs) (by omega))
    clear h hx hlen
    rcases hn with hn | hn
    · go_enter Tryd.func17, Tryd.ntmps17
      go_wp2
      go_ret
      exact ⟨ret_bool G.out.symm, Below.refl _ _⟩
    · have hn' : ¬ (n : Int) < 1 := by omega
      go_enter Tryd.func17, Tryd.ntmps17
      go_wp2
      go_ret
      exact ⟨ret_bool G.out.symm, Below.refl _ _⟩
  obtain ⟨b, off, rfl, hlb, hc⟩ := h.2 (by omega)
  have g0 := hc 0 (by omega)
  rw [Nat.add_zero] at g0
  have hn0 : (0 : Int) < (n : Int) := by omega
  have hn1 : ¬ (n : Int) < 1 := by omega
  have hn6 : ¬ 6 < (n : Int) := by omega
  have hk0 : 0 < xs.length := by omega
  have hs0 := hx (xs[0]?.getD ByteArray.empty) (by rw [List.getElem?_eq_getElem hk0]; exact List.getElem_mem hk0)
  have GR := Lib.hid (fun k hk => gv_row (xs := xs) (k := k) hk)
  have GW := Lib.hid (gv_wide (xs := xs))
  have GO := Lib.hid (gv_of (xs := xs) (by omega))
  obtain ⟨s0, hs0e⟩ : ∃ s0, s0 = xs[0]?.getD ByteArray.empty := ⟨_, rfl⟩
  rw [← hs0e] at g0 hs0
  simp only [← hs0e] at GR GW GO
  have HL := Lib.hid hlen
  have HX := Lib.hid hx
  have HC := Lib.hid hc
  have HR := Lib.hid h
  clear hs0e hlen hx hk0 hc h hn
  by_cases hw : s0.size < 1
  · have G := Lib.hid (GW.out (by omega))
    have hw' : (s0.size : Int) < 1 := by omega
    go_enter Tryd.func17, Tryd.ntmps17
    go_wp2
    go_ret
    exact ⟨ret_bool G.out.symm, Below.refl _ _⟩
  by_cases hw2 : 6 < s0.size
  · have G := Lib.hid (GW.out (by omega))
    have hw' : ¬ (s0.size : Int) < 1 := by omega
    have hw3 : 6 < (s0.size : Int) := by omega
    go_enter Tryd.func17, Tryd.ntmps17
    go_wp2
    go_ret
    exact ⟨ret_bool G.out.symm, Below.refl _ _⟩
  have hw' : ¬ (s0.size : Int) < 1 := by omega
  have hw3 : ¬ 6 < (s0.size : Int) := by omega
  have GO := Lib.hid (GO.out (by omega))
  clear GW
  go_enter Tryd.func17, Tryd.ntmps17
  go_wp2_with fail
  go_loopw [29] (fun i wr => ∃ k : Nat, k ≤ n ∧ i = .int .i64 k ∧ Hid (∀ j, j < k → rowB s0.size (xs[j]?.getD ByteArray.empty) = true) ∧ Below w.heap.size w wr) (fun i _ => n - (intOf i).toNat)
  case atStart => exact ⟨0, Nat.zero_le _, rfl, Lib.hid (fun j hj => by omega), Below.refl _ _⟩
  case round =>
    obtain ⟨k, hk, rfl, HK, hbe⟩ := hrel
    have g0 := (hbe.cell (p := ⟨b, off, none⟩) (show b < w.heap.size by omega)).trans g0
    by_cases hlt : k < n
    · have g1 := (hbe.cell (p := ⟨b, off + k, none⟩) (show b < w.heap.size by omega)).trans (HC.out k hlt)
      have hkx : k < xs.length := by have := HL.out; omega
      have hsz := HX.out (xs[k]?.getD ByteArray.empty) (by rw [List.getElem?_eq_getElem hkx]; exact List.getElem_mem hkx)
      have GK := Lib.hid (GR.out k hkx)
      have HN := Lib.hid (fun (hr : rowB s0.size (xs[k]?.getD ByteArray.empty) = true) => (show ∀ j, j < k + 1 → rowB s0.size (xs[j]?.getD ByteArray.empty) = true from fun j hj => by
        by_cases e : j = k
        · subst e; exact hr
        · exact HK.out j (by omega)))
      revert g1 hsz
      revert GK HN
      generalize xs[k]?.getD ByteArray.empty = s
      intro GK HN g1 hsz
      have T := Lib.hid (fun (W : World) => trim_any s W hsz)
      have HBE := Lib.hid hbe
      clear hkx hbe HK GR GO
      by_cases he : s.size = s0.size
      · have hne : ((s.size : Int) != (s0.size : Int)) = false := by simp [he]
        have HE := Lib.hid he
        clear he
        go_wp2_with fail
        refine (T.out _).mono ?_
        rintro e w2 ⟨r, rfl, hr, hb2⟩
        have HBF := Lib.hid (HBE.out.trans (hb2.mono HBE.out.size))
        clear hb2
        cases ha : s.data.toList.all cellB with
        | true =>
          rw [ha] at hr
          have hrow : rowB s0.size s = true := by unfold rowB; rw [decide_eq_true HE.out, ha]; rfl
          have HN2 := Lib.hid (HN.out hrow)
          clear ha hrow
          go_wp2_with fail
          go_roundw
          case rel => exact ⟨k + 1, by omega, by go_num, HN2, HBF.out⟩
          case measure => simp [intOf]; omega
        | false =>
          rw [ha] at hr
          have hrow : rowB s0.size s = false := by unfold rowB; rw [ha]; simp
          have G := Lib.hid (GK.out hrow)
          clear ha hrow
          go_wp2_with fail
          go_ret
          exact ⟨ret_bool G.out.symm, HBF.out⟩
      · have hne : ((s.size : Int) != (s0.size : Int)) = true := by simp; omega
        have hrow : rowB s0.size s = false := by unfold rowB; rw [decide_eq_false he]; rfl
        have G := Lib.hid (GK.out hrow)
        clear he hrow T
        go_wp2_with fail
        go_ret
        exact ⟨ret_bool G.out.symm, HBE.out⟩
    · obtain rfl : k = n := by omega
      have G := Lib.hid (GO.out (fun j hj => HK.out j (by have := HL.out; omega)))
      clear GO HK
      go_wp2_with fail
      go_ret
      exact ⟨ret_bool G.out.symm, hbe⟩

theorem all_at {p : UInt8 → Bool} {s : ByteArray} (h : ∀ q (hq : q < s.size), p s[q] = true) : s.data.toList.all p = true := by
  rw [List.all_eq_true]
  intro b hb
  obtain ⟨q, hq, rfl⟩ := List.mem_iff_getElem.1 hb
  exact h q (by simpa using hq)
theorem not_all {p : UInt8 → Bool} {s : ByteArray} {q : Nat} (hq : q < s.size) (h : p s[q] = false) : s.data.toList.all p = false := by
  rw [List.all_eq_false]
  exact ⟨s[q], by rw [List.mem_iff_getElem]; exact ⟨q, by simpa using hq, rfl⟩, by rw [h]; simp⟩
theorem cell_int (b : UInt8) : cellB b = (decide ((b.toNat : Int) = 46) || decide ((b.toNat : Int) = 35)) := by
  have e : ∀ c : UInt8, (b == c) = decide ((b.toNat : Int) = (c.toNat : Int)) := fun c => by
    by_cases h : b = c
    · subst h; simp
    · have : (b.toNat : Int) ≠ (c.toNat : Int) := fun e => h (UInt8.toNat_inj.1 (by omega))
      rw [decide_eq_false this, beq_eq_false_iff_ne.2 h]
  unfold cellB
  rw [e 46, e 35]
  rfl

set_option maxRecDepth 100000 in
set_option maxHeartbeats 2000000 in
theorem specGridValid_any (A : Option Addr) (n c B : Nat) (xs : List ByteArray) (w : World) (h : RdT w B A n xs) (hb : n ≤ 1048576) (hx : ∀ x ∈ xs, x.size ≤ 1048576) :
    Calls Tryd.prog 19 #[.slice A n c] w fun e w' => e = .returned (.bool (gvB xs)) ∧ w' = w := by
  have hlen := h.1
  have L1 := Lib.hid (fun (a b c : Int) (w : World) => l1In_any a b c w)
  by_cases hn : ¬ (1 ≤ n ∧ n ≤ 6)
  · have G := Lib.hid (gv_len (xs := xs) (by omega))
    have hd : decide (1 ≤ (n : Int) ∧ (n : Int) ≤ 6) = false := by simp; omega
    clear h hx hlen
    go_enter Tryd.func19, Tryd.ntmps19
    go_wp2_with fail
    refine (L1.out _ _ _ _).mono ?_
    rintro e w1 ⟨rfl, rfl⟩
    go_wp2_with fail
    go_ret
    exact ⟨ret_bool G.out.symm, rfl⟩
  have hd : decide (1 ≤ (n : Int) ∧ (n : Int) ≤ 6) = true := by simp; omega
  obtain ⟨b, off, rfl, hlb, hc⟩ := h.2 (by omega)
  have g0 := hc 0 (by omega)
  rw [Nat.add_zero] at g0
  have hn0 : (0 : Int) < (n : Int) := by omega
  have hk0 : 0 < xs.length := by omega
  have hs0 := hx (xs[0]?.getD ByteArray.empty) (by rw [List.getElem?_eq_getElem hk0]; exact List.getElem_mem hk0)
  have GR := Lib.hid (fun k hk => gv_row (xs := xs) (k := k) hk)
  have GW := Lib.hid (gv_wide (xs := xs))
  have GO := Lib.hid (gv_of (xs := xs) (by omega))
  obtain ⟨s0, hs0e⟩ : ∃ s0, s0 = xs[0]?.getD ByteArray.empty := ⟨_, rfl⟩
  rw [← hs0e] at g0 hs0
  have HS0 := Lib.hid hs0e
  simp only [← hs0e] at GR GW GO
  have HL := Lib.hid hlen
  have HX := Lib.hid hx
  have HC := Lib.hid hc
  clear hs0e hlen hx hk0 hc h hn
  go_enter Tryd.func19, Tryd.ntmps19
  go_wp2_with fail
  refine (L1.out _ _ _ _).mono ?_
  rintro e w1 ⟨rfl, rfl⟩
  go_wp2_with fail
  clear hd
  go_loop [12] (fun i => ∃ k : Nat, k ≤ n ∧ i = .int .i64 k ∧ Hid (∀ j, j < k → rowB s0.size (xs[j]?.getD ByteArray.empty) = true) ∧ (0 < k → 1 ≤ s0.size ∧ s0.size ≤ 6)) (fun i => n - (intOf i).toNat)
  case atStart => exact ⟨0, Nat.zero_le _, rfl, Lib.hid (fun j hj => by omega), fun h => by omega⟩
  case round =>
    obtain ⟨k, hk, rfl, HK, hkw⟩ := hrel
    by_cases hlt : k < n
    · have g1 := HC.out k hlt
      have hkx : k < xs.length := by have := HL.out; omega
      have hsz := HX.out (xs[k]?.getD ByteArray.empty) (by rw [List.getElem?_eq_getElem hkx]; exact List.getElem_mem hkx)
      have GK := Lib.hid (GR.out k hkx)
      have HN := Lib.hid (fun (hr : rowB s0.size (xs[k]?.getD ByteArray.empty) = true) => (show ∀ j, j < k + 1 → rowB s0.size (xs[j]?.getD ByteArray.empty) = true from fun j hj => by
        by_cases e : j = k
        · subst e; exact hr
        · exact HK.out j (by omega)))
      revert g1 hsz
      revert GK HN
      generalize xs[k]?.getD ByteArray.empty = s
      intro GK HN g1 hsz
      clear hkx HK GR GO
      by_cases he : s.size = s0.size
      · have hne : ((s.size : Int) != (s0.size : Int)) = false := by simp [he]
        by_cases hw : 1 ≤ s0.size ∧ s0.size ≤ 6
        · have hd : decide (1 ≤ (s.size : Int) ∧ (s.size : Int) ≤ 6) = true := by simp; omega
          have HE := Lib.hid he
          have hs6 : s.size ≤ 6 := by omega
          have HW := Lib.hid (fun (_ : 0 < k + 1) => hw)
          clear he hw hkw
          go_wp2_with fail
          refine (L1.out _ _ _ _).mono ?_
          rintro e w2 ⟨rfl, rfl⟩
          go_wp2_with fail
          clear hd
          go_loop [31] (fun i => ∃ q : Nat, q ≤ s.size ∧ i = .int .i64 q ∧ Hid (∀ p (hp : p < s.size), p < q → cellB s[p] = true)) (fun i => s.size - (intOf i).toNat)
          case atStart => exact ⟨0, Nat.zero_le _, rfl, Lib.hid (fun p hp h => by omega)⟩
          case round =>
            obtain ⟨q, hq, rfl, HQ⟩ := hrel
            by_cases hql : q < s.size
            · have hqi : (q : Int) < (s.size : Int) := by omega
              have NA := Lib.hid (fun (h : cellB s[q] = false) => GK.out (show rowB s0.size s = false by unfold rowB; rw [not_all hql h]; simp))
              have HQN := Lib.hid (fun (h : cellB s[q] = true) => (show ∀ p (hp : p < s.size), p < q + 1 → cellB s[p] = true from fun p hp hpq => by
                by_cases e : p = q
                · subst e; exact h
                · exact HQ.out p hp (by omega)))
              have hcb := cell_int s[q]
              clear HQ
              by_cases e46 : ((s[q].toNat : Nat) : Int) = 46
              · have H := Lib.hid (HQN.out (by rw [hcb, decide_eq_true e46]; rfl))
                have n46 : (((s[q].toNat : Nat) : Int) != 46) = false := by simp [e46]
                clear hcb NA HQN
                go_wp2_with fail
                go_round
                case rel => exact ⟨q + 1, by omega, by go_num, H⟩
                case measure => simp [intOf]; omega
              · have n46 : (((s[q].toNat : Nat) : Int) != 46) = true := by simp [e46]
                by_cases e35 : ((s[q].toNat : Nat) : Int) = 35
                · have H := Lib.hid (HQN.out (by rw [hcb, decide_eq_true e35]; simp))
                  have n35 : (((s[q].toNat : Nat) : Int) != 35) = false := by simp [e35]
                  clear hcb NA HQN
                  go_wp2_with fail
                  go_round
                  case rel => exact ⟨q + 1, by omega, by go_num, H⟩
                  case measure => simp [intOf]; omega
                · have n35 : (((s[q].toNat : Nat) : Int) != 35) = true := by simp [e35]
                  have H := Lib.hid (NA.out (by rw [hcb, decide_eq_false e46, decide_eq_false e35]; rfl))
                  clear hcb NA HQN
                  go_wp2_with fail
                  go_ret
                  exact ⟨ret_bool H.out.symm, rfl⟩
            · have hqs : q = s.size := by omega
              have hall := all_at (p := cellB) (s := s) (fun p hp => HQ.out p hp (by omega))
              have HN2 := Lib.hid (HN.out (by unfold rowB; rw [decide_eq_true HE.out, hall]; rfl))
              have HW2 := Lib.hid HW.out
              clear hall HQ hqs
              go_wp2_with fail
              go_round
              case rel => exact ⟨k + 1, by omega, by go_num, HN2, HW2.out⟩
              case measure => simp [intOf]; omega
        · have hd : decide (1 ≤ (s.size : Int) ∧ (s.size : Int) ≤ 6) = false := by simp; omega
          have G := Lib.hid (GW.out hw)
          clear he hw
          go_wp2_with fail
          refine (L1.out _ _ _ _).mono ?_
          rintro e w2 ⟨rfl, rfl⟩
          go_wp2_with fail
          go_ret
          exact ⟨ret_bool G.out.symm, rfl⟩
      · have hne : ((s.size : Int) != (s0.size : Int)) = true := by simp; omega
        have hrow : rowB s0.size s = false := by unfold rowB; rw [decide_eq_false he]; rfl
        have G := Lib.hid (GK.out hrow)
        clear he hrow
        go_wp2_with fail
        go_ret
        exact ⟨ret_bool G.out.symm, rfl⟩
    · obtain rfl : k = n := by omega
      have hwid := hkw (by omega)
      have G := Lib.hid (GO.out hwid (fun j hj => HK.out j (by have := HL.out; omega)))
      clear GO HK
      go_wp2_with fail
      go_ret
      exact ⟨ret_bool G.out.symm, rfl⟩
end Go.Proofs.YtecleelcnjhimaaDoor
