/- The walk of FnThree: for every drawn timed forest and two items the law returns true. -/
import Derived.Test.YtfafgihfgdpclaaDrawTog
import Derived.Test.YtfafgihfgdpclaaSinceLaw
namespace Go.Proofs.Ytfafgihfgdpclaa
open Go.RowKit Go.Shelf

set_option maxRecDepth 100000 in
set_option maxHeartbeats 8000000 in
theorem fnThree (A0 : Option Addr) (n0 c0 : Nat) (z0 : List Int) (w : World) (h0 : Row .u8 w A0 n0 c0 z0) :
    Calls Try.prog 10 #[.slice A0 n0 c0] w fun e w' => e = .returned (.bool true) ∧ Below w.heap.size w w' := by
  by_cases hl0 : 1048576 < n0
  · clear h0
    go_enter Try.func10, Try.ntmps10
    go_wp2
    go_ret
    exact ⟨rfl, Below.refl _ _⟩
  obtain ⟨b0, hc0⟩ := h0.bt
  have D0 := Lib.hid (drawSince7_any A0 n0 c0 w.heap.size z0 w b0 (Nat.le_refl _) hc0)
  clear h0 b0 hc0
  go_enter Try.func10, Try.ntmps10
  go_wp2_with fail
  refine D0.out.mono ?_
  rintro e w1 ⟨v, v2, a, b, xs, ss, rfl, ho, hx16, hq, hs17, hb1⟩
  obtain ⟨A, c, e1, hr⟩ := ho.form
  obtain ⟨A', c', e2, hrq⟩ := hq.form
  obtain ⟨n, hn⟩ : ∃ n, n = xs.length := ⟨_, rfl⟩
  obtain ⟨m, hm⟩ : ∃ m, m = ss.length := ⟨_, rfl⟩
  rw [← hn] at e1 hr hx16
  rw [← hm] at e2 hrq hs17
  subst e1 e2
  obtain ⟨V1, hV1⟩ : ∃ V1, V1 = w1.alloc (.cells #[.slice A n c, .slice A' m c'] 64) := ⟨_, rfl⟩
  obtain ⟨X, hX⟩ : ∃ X, X = w1.heap.size := ⟨_, rfl⟩
  have hbV1 : Below w1.heap.size w1 V1 := by rw [hV1]; exact timedBox w1 _ _
  have hXV : V1.heap[X]? = some (.cells #[.slice A n c, .slice A' m c'] 64 (0, 0)) := by rw [hV1, hX]; exact World.alloc_heap_new w1 _
  have hrV := hr.to hbV1
  have hqV := hrq.to hbV1
  have IJ := Lib.hid (fun (W' : World) (h8 : Below V1.heap.size V1 W') (a b : Int) => implSince_any A A' n c m c' V1.heap.size a b xs ss W' (hrV.below h8 (Nat.le_refl _)) (hqV.below h8 (Nat.le_refl _)) h8.size (by omega) (by omega))
  have SJ := Lib.hid (fun (W' : World) (h8 : Below V1.heap.size V1 W') => specSince_any A A' n c m c' V1.heap.size a b xs ss W' (hrV.below h8 (Nat.le_refl _)) (hqV.below h8 (Nat.le_refl _)) h8.size (by omega) (by omega))
  have H1 := Lib.hid (And.intro (Below.on hb1 hbV1) hXV)
  have HE1 := Lib.hid (And.intro hV1 hX)
  have HN := Lib.hid (And.intro hn (And.intro hm (And.intro hx16 hs17)))
  obtain ⟨⟨a1, a2⟩, _⟩ := boxTwo_cells hXV
  rw [hV1, hX] at a1 a2
  clear hbV1 hrV hqV hr hrq ho hq hb1 D0 hn hm hx16 hs17 hXV hV1 hX
  go_wp2_with fail
  rw [← HE1.out.1, ← HE1.out.2]
  refine (IJ.out V1 (Below.refl _ _) a b).mono ?_
  rintro e w2 ⟨rfl, hb2⟩
  obtain ⟨⟨a1, a2⟩, _⟩ := boxTwo_cells ((hb2.block X (Array.getElem?_eq_some_iff.1 H1.out.2).1).trans H1.out.2)
  have HB2 := Lib.hid hb2
  obtain ⟨t, ht⟩ : ∃ t, t = sinceN xs ss a b := ⟨_, rfl⟩
  have SJ2 := Lib.hid (fun (W' : World) (h8 : Below V1.heap.size V1 W') => (SJ.out W' h8))
  rw [← ht] at SJ2 ⊢
  have HT := Lib.hid ht
  clear hb2 ht SJ
  go_wp2_with fail
  refine (SJ2.out w2 HB2.out).mono ?_
  rintro e w3 ⟨rfl, hb3⟩
  have HB3 := Lib.hid (Below.on HB2.out hb3)
  obtain ⟨⟨a1, a2⟩, _⟩ := boxTwo_cells ((HB3.out.block X (Array.getElem?_eq_some_iff.1 H1.out.2).1).trans H1.out.2)
  clear hb3
  by_cases h0 : t < 0
  · go_wp2_with fail
    refine (SJ2.out w3 HB3.out).mono ?_
    rintro e w4 ⟨rfl, hb4⟩
    have HB4 := Lib.hid (Below.on HB3.out hb4)
    clear hb4
    go_wp2
    go_ret
    exact ⟨rfl, Below.on H1.out.1 HB4.out⟩
  · have h0' : 0 ≤ sinceN xs ss a b := by rw [← HT.out]; omega
    have hv := since_valid h0'
    have hn16 : n ≤ 16 := HN.out.2.2.1
    have h00 : 0 ≤ t := by omega
    have HV := Lib.hid (And.intro hv h0')
    have hXb : Hid (∀ W', Below V1.heap.size V1 W' → W'.cell? ⟨X, 0, none⟩ = some (.slice A n c) ∧ W'.cell? ⟨X, 1, none⟩ = some (.slice A' m c')) := fun W' hb => (boxTwo_cells ((hb.block X (Array.getElem?_eq_some_iff.1 H1.out.2).1).trans H1.out.2)).1
    clear hv h0' SJ2
    go_wp2
    go_loopw [42] (fun i wr => ∃ r : Nat, r ≤ n ∧ i = .int .i64 r ∧ Below V1.heap.size V1 wr) (fun i _ => n - (intOf i).toNat)
    case atStart => exact ⟨0, Nat.zero_le _, rfl, HB3.out⟩
    case round =>
      obtain ⟨r, hr, rfl, hbr⟩ := hrel
      obtain ⟨a1, a2⟩ := hXb.out _ hbr
      by_cases hlt : r < n
      · have hrn : (r : Int) < (n : Int) := by omega
        have hrx : r < xs.length := by have := HN.out.1; omega
        have hbb : Below wr.heap.size wr wr := Below.refl _ _
        have HBR := Lib.hid hbr
        obtain ⟨e1, e2⟩ | ⟨x, y, z, ex, ey, ez, hx, hy, hz, hxyz⟩ := since_three HV.out.1 (c := (r : Int)) HV.out.2
        · have IC := Lib.hid (fun (W' : World) (h8 : Below wr.heap.size wr W') => IJ.out W' (HBR.out.trans (h8.mono HBR.out.size)))
          clear hrx hbr
          go_wp2_with fail
          go_region_held3 (fun w' => Below wr.heap.size wr w' ∧ w'.cell? ⟨X, 0, none⟩ = some (.slice A n c) ∧ w'.cell? ⟨X, 1, none⟩ = some (.slice A' m c'))
            (first | assumption | exact held2_drew ⟨by assumption, by assumption, by assumption⟩ | exact held2_drew (by assumption) | exact held2_call (by assumption) (by assumption) (Below.size (And.left (by assumption))))
            (first | (go_at_call 54; refine (IC.out _ (‹Below wr.heap.size wr _ ∧ _›).1 _ _).mono ?_; rintro e w8 ⟨rfl, hb8⟩; simp only [e1, e2]))
          have HB8 := Lib.hid (HBR.out.trans ((‹Below wr.heap.size wr _ ∧ _›).1.mono HBR.out.size))
          clear e1 e2
          go_wp2
          go_roundw
          case rel => exact ⟨r + 1, by omega, by go_num, HB8.out⟩
          case measure => simp [intOf]; omega
        · obtain rfl : t = (x : Int) := HT.out.trans ex
          have IC := Lib.hid (fun (W' : World) (h8 : Below wr.heap.size wr W') => IJ.out W' (HBR.out.trans (h8.mono HBR.out.size)))
          have n1 : ¬ (y : Int) < 0 := by omega
          have n2 : ¬ (z : Int) < 0 := by omega
          have n3 : (0 : Int) ≤ (y : Int) := by omega
          have hm17 : m ≤ 16 := HN.out.2.2.2
          clear hrx hbr ex hx hy hz
          rcases hxyz with ⟨rfl, hxy⟩ | ⟨hyz, rfl⟩ | ⟨hzy, rfl⟩
          · have m1 : ¬ (y : Int) < (x : Int) := by omega
            go_wp2_with fail
            go_region_held3 (fun w' => Below wr.heap.size wr w' ∧ w'.cell? ⟨X, 0, none⟩ = some (.slice A n c) ∧ w'.cell? ⟨X, 1, none⟩ = some (.slice A' m c'))
              (first | assumption | exact held2_drew ⟨by assumption, by assumption, by assumption⟩ | exact held2_drew (by assumption) | exact held2_call (by assumption) (by assumption) (Below.size (And.left (by assumption))))
              (first | (go_at_call 54; refine (IC.out _ (‹Below wr.heap.size wr _ ∧ _›).1 _ _).mono ?_; rintro e w8 ⟨rfl, hb8⟩; simp only [ey, ez]))
            have HB8 := Lib.hid (HBR.out.trans ((‹Below wr.heap.size wr _ ∧ _›).1.mono HBR.out.size))
            clear ey ez
            go_wp2
            go_roundw
            case rel => exact ⟨r + 1, by omega, by go_num, HB8.out⟩
            case measure => simp [intOf]; omega
          · have m1 : (y : Int) < (x : Int) := by omega
            have m2 : ¬ (x : Int) < (y : Int) := by omega
            have m3 : ¬ (y : Int) = (x : Int) := by omega
            go_wp2_with fail
            go_region_held3 (fun w' => Below wr.heap.size wr w' ∧ w'.cell? ⟨X, 0, none⟩ = some (.slice A n c) ∧ w'.cell? ⟨X, 1, none⟩ = some (.slice A' m c'))
              (first | assumption | exact held2_drew ⟨by assumption, by assumption, by assumption⟩ | exact held2_drew (by assumption) | exact held2_call (by assumption) (by assumption) (Below.size (And.left (by assumption))))
              (first | (go_at_call 54; refine (IC.out _ (‹Below wr.heap.size wr _ ∧ _›).1 _ _).mono ?_; rintro e w8 ⟨rfl, hb8⟩; simp only [ey, ez]))
            have HB8 := Lib.hid (HBR.out.trans ((‹Below wr.heap.size wr _ ∧ _›).1.mono HBR.out.size))
            clear ey ez
            go_wp2
            go_roundw
            case rel => exact ⟨r + 1, by omega, by go_num, HB8.out⟩
            case measure => simp [intOf]; omega
          · have m1 : (z : Int) < (x : Int) := by omega
            have m2 : ¬ (x : Int) < (z : Int) := by omega
            have m3 : ¬ (x : Int) = (z : Int) := by omega
            go_wp2_with fail
            go_region_held3 (fun w' => Below wr.heap.size wr w' ∧ w'.cell? ⟨X, 0, none⟩ = some (.slice A n c) ∧ w'.cell? ⟨X, 1, none⟩ = some (.slice A' m c'))
              (first | assumption | exact held2_drew ⟨by assumption, by assumption, by assumption⟩ | exact held2_drew (by assumption) | exact held2_call (by assumption) (by assumption) (Below.size (And.left (by assumption))))
              (first | (go_at_call 54; refine (IC.out _ (‹Below wr.heap.size wr _ ∧ _›).1 _ _).mono ?_; rintro e w8 ⟨rfl, hb8⟩; simp only [ey, ez]))
            have HB8 := Lib.hid (HBR.out.trans ((‹Below wr.heap.size wr _ ∧ _›).1.mono HBR.out.size))
            clear ey ez
            go_wp2
            refine ⟨⟨_, _, _, _, _, ⟨r + 1, by omega, by go_num, HB8.out⟩, rfl, rfl, rfl, rfl, rfl⟩, ?_⟩
            simp [intOf]
            omega
      · obtain rfl : r = n := by omega
        have HBR := Lib.hid hbr
        clear hbr
        go_wp2
        go_ret
        exact ⟨rfl, Below.on H1.out.1 HBR.out⟩
end Go.Proofs.Ytfafgihfgdpclaa
