/- The walk of the law on joins that keep trees shallow: for every two rows of bytes the law returns true and nothing that was there has turned. -/
import Derived.Test.YtfafgihfgdpclaaJoinAll
import Derived.Test.YtfafgihfgdpclaaSpecAll
import Derived.Test.YtfafgihfgdpclaaDraw11
import Derived.Test.YtfafgihfgdpclaaSizes
import Derived.Test.YtfafgihfgdpclaaRdR
import Derived.Test.YtfafgihfgdpclaaCon
namespace Go.Proofs.Ytfafgihfgdpclaa
open Go.RowKit

/-- Under every item there are as many as its height asks. -/
def Flatly (u : List Int) : Prop := ∀ x, x < u.length → 2 ^ htN u x ≤ szN u x
theorem htTo_same {up vp : List Int} {x : Nat} : ∀ {k : Nat}, (∀ j, j < k → htOne (way up up.length j) x = htOne (way vp vp.length j) x) → htTo up k x = htTo vp k x
  | 0, _ => rfl
  | k + 1, h => by
    rw [htTo_succ, htTo_succ, htTo_same fun j hj => h j (by omega), h k (by omega)]
theorem hang_clear {up : List Int} {p q : Nat} (T : Two up p q) {j : Nat} (hj : j < up.length) (h : rootI up j = p) : q ∉ way up up.length j := fun hm => T.ne (by
  rw [← h]
  exact (mem_way_root T.fv hj T.rq).1 hm)
theorem hang_sz_off {up : List Int} {p q x : Nat} (T : Two up p q) (hx : x ≠ q) : szN (hang up p q) x = szN up x := by
  unfold szN
  rw [hang_len]
  refine szTo_congr fun j hj => ?_
  rw [hang_len, hang_way T hj]
  split
  · simp [hx]
  · exact Iff.rfl
theorem hang_ht_off {up : List Int} {p q x : Nat} (T : Two up p q) (hx : x ≠ q) : htN (hang up p q) x = htN up x := by
  unfold htN
  rw [hang_len]
  refine htTo_same fun j hj => ?_
  rw [hang_len, hang_way T hj]
  split
  · rename_i h
    rw [htOne_snoc (hang_clear T hj h), if_neg hx]
  · rfl
theorem hang_flatly {up : List Int} {p q : Nat} (T : Two up p q) (h : Flatly up) (hle : szN up p ≤ szN up q ∨ htN up p ≤ htN up q) : Flatly (hang up p q) := fun x hx => by
  rw [hang_len] at hx
  by_cases e : x = q
  · subst e
    rw [hang_sz T, hang_ht T]
    have h1 := h p T.hp
    have h2 := h x T.hq
    by_cases c : htN up p + 1 ≤ htN up x
    · rw [show max (htN up x) (htN up p + 1) = htN up x by omega]
      omega
    · rw [show max (htN up x) (htN up p + 1) = htN up p + 1 by omega, Nat.pow_succ]
      rcases hle with hle | hle
      · omega
      · have e2 : htN up x = htN up p := by omega
        rw [e2] at h2
        omega
  · rw [hang_sz_off T e, hang_ht_off T e]
    exact h x hx
theorem under_le {u : List Int} {r : Int} (hr : r = 1 ∨ r = 2) {p q : Nat} (h : underB u r p q = true) : szN u p ≤ szN u q ∨ htN u p ≤ htN u q := by
  have n1 : ∀ x, numOf 1 u x = szN u x := fun x => by unfold numOf; exact if_pos rfl
  have n2 : ∀ x, numOf 2 u x = htN u x := fun x => by unfold numOf; exact if_neg (by omega)
  unfold underB at h
  rcases hr with rfl | rfl
  · rw [if_neg (by omega), n1, n1] at h
    split at h
    · exact .inl (by omega)
    · have := of_decide_eq_true h
      exact .inl (by omega)
  · rw [if_neg (by omega), n2, n2] at h
    split at h
    · exact .inr (by omega)
    · have := of_decide_eq_true h
      exact .inr (by omega)
theorem joinL_flatly {u : List Int} (hv : fvB u = true) {r : Int} (hr : r = 1 ∨ r = 2) {a b : Nat} (ha : a < u.length) (hb : b < u.length) (h : Flatly u) : Flatly (joinL u r a b) := by
  unfold joinL
  split
  · exact h
  · rename_i hne
    have T := roots_two hv ha hb hne
    unfold joinTo
    split
    · rename_i hu
      exact hang_flatly T h (under_le hr hu)
    · rename_i hu
      have hu2 : underB u r (rootI u b) (rootI u a) = true := by
        rw [under_not T.ne.symm (by omega)]
        simpa using hu
      exact hang_flatly T.symm h (under_le hr hu2)
theorem allL_flatly {r : Int} (hr : r = 1 ∨ r = 2) {ps : List (Nat × Nat)} : ∀ {u : List Int}, fvB u = true → inP u.length ps → Flatly u → Flatly (allL u r ps) := by
  induction ps with
  | nil => exact fun _ _ h => h
  | cons p ps ih =>
    intro u hv hin h
    have hp := hin p (List.mem_cons_self ..)
    exact ih (joinL_fv hv hp.1 hp.2 r) (fun q hq => by rw [joinL_len]; exact hin q (List.mem_cons_of_mem _ hq)) (joinL_flatly hv hr hp.1 hp.2 h)
theorem szTo_some (up : List Int) (x : Nat) : ∀ {k : Nat}, x < k → 1 ≤ szTo up k x
  | 0, h => absurd h (by omega)
  | k + 1, h => by
    rw [szTo_succ]
    by_cases e : x = k
    · subst e
      rw [if_pos (way_self up x)]
      omega
    · have := szTo_some up x (show x < k by omega)
      omega
theorem roots_flatly {n : Nat} (h1 : 1 ≤ n) (h2 : n ≤ 16) : Flatly (roots n) := fun x hx => by
  have hv := roots_fv h1 h2
  rw [roots_len] at hx
  have h0 : htN (roots n) x = 0 := by
    refine Nat.le_zero.1 (htTo_le x 0 fun j hj => ?_)
    rw [roots_len] at hj
    rw [htOne_root hv (by rw [roots_len]; exact hj) (roots_step hx)]
    have hw : way (roots n) (roots n).length j = [j] := way_of_path ⟨rfl, roots_step hj⟩ (by simp)
    rw [hw]
    split <;> simp
  rw [h0]
  exact szTo_some _ x (by rw [roots_len]; exact hx)
theorem sizes_of {up : List Int} (h : fvB up = true) {x : Nat} (hx : x < up.length) : (sizesN up)[x]?.getD 0 = (szN up x : Int) := by
  rw [sizesN_yes h, szL_get hx]
  simp [szAt, szN]
theorem heights_of {up : List Int} (h : fvB up = true) {x : Nat} (hx : x < up.length) : (heightsN up)[x]?.getD 0 = (htN up x : Int) := by
  rw [heightsN_yes h, htL_get hx]
  simp [htAt, htN, htOne]
theorem slice_cells (w : World) (t : TypeId) (v0 v1 : Value) : (w.alloc (.cells #[v0, v1] t)).cell? ⟨w.heap.size, 0, none⟩ = some v0 ∧ (w.alloc (.cells #[v0, v1] t)).cell? ⟨w.heap.size, 1, none⟩ = some v1 := by
  have h0 := heap_alloc_new w (.cells #[v0, v1] t)
  constructor
  · unfold World.cell?
    rw [h0]
    rfl
  · unfold World.cell?
    rw [h0]
    rfl
/-- What the law asks of a forest. -/
def Well (n : Nat) (C : List Int) : Prop := fvB C = true ∧ C.length = n ∧ ∀ x, x < n → 2 ^ htN C x ≤ szN C x ∧ szN C x ≤ 16
/-- What JoinAll answers to a list of pairs, by one of two rules. -/
def Joined (n : Nat) (W : World) (A : Option Addr) (m c : Nat) : Prop :=
  ∀ (r : Nat), (r = 1 ∨ r = 2) → ∀ (A5 : Option Addr) (c5 : Nat) (w2 : World), Rd w2 w2.heap.size A5 n (roots n) → Below W.heap.size W w2 →
    Calls Try.prog 28 #[.slice A5 n c5, .int .i64 (r : Int), .slice A m c] w2 fun e w' => ∃ A3 k3 c3 C b, e = .returned (.tuple #[.slice A3 k3 c3, .bool b]) ∧ (b = true → k3 = n ∧ Rd w' w'.heap.size A3 n C ∧ Well n C) ∧ Below w2.heap.size w2 w'
theorem wellJoined_of {n : Nat} (h1 : 1 ≤ n) (h2 : n ≤ 16) {W : World} {A : Option Addr} {m c : Nat} {qs : List (Int × Int)} (hr : RdQ W W.heap.size A m qs) (hl : m ≤ 1048576) : Joined n W A m c := fun r hrr A5 c5 w2 h5 hb => by
  have hb2 : 0 ≤ (r : Int) ∧ (r : Int) ≤ 2 := by omega
  have hi : (r : Int) = 1 ∨ (r : Int) = 2 := by omega
  have h := rd2_of (implJoinAll_any A5 n c5 w2.heap.size (roots n) (r : Int) A m c W.heap.size qs w2 h5 (Nat.le_refl _) (by omega) (hr.below hb (Nat.le_refl _)) hb.size hl)
  refine h.mono fun e w' ⟨A3, c3, e3, hr3, hb3⟩ => ⟨A3, _, c3, jaN (roots n) (r : Int) qs, _, e3, fun hj => ?_, hb3⟩
  rw [jaN_yes hj] at hr3 ⊢
  obtain ⟨hfv, _, hk⟩ := jaB_parts hj
  have hin := okQ_in hk
  have hlen : (allL (roots n) (r : Int) (natP qs)).length = n := by rw [allL_len, roots_len]
  rw [hlen] at hr3 ⊢
  refine ⟨rfl, hr3, allL_fv hfv _ hin, hlen, fun x hx => ⟨allL_flatly hi hfv hin (roots_flatly h1 h2) x (by rw [hlen]; exact hx), ?_⟩⟩
  have := szN_leJ (allL (roots n) (r : Int) (natP qs)) x
  omega
set_option maxRecDepth 100000 in
set_option maxHeartbeats 16000000 in
theorem fnShallow (A0 : Option Addr) (n0 c0 : Nat) (z0 : List Int) (A1 : Option Addr) (n1 c1 : Nat) (z1 : List Int) (w : World) (h0 : Row .u8 w A0 n0 c0 z0) (h1 : Row .u8 w A1 n1 c1 z1) :
    Calls Try.prog 3 #[.slice A0 n0 c0, .slice A1 n1 c1] w fun e w' => e = .returned (.bool true) ∧ Below w.heap.size w w' := by
  by_cases hl0 : 1048576 < n0
  · clear h0 h1
    go_enter Try.func3, Try.ntmps3
    go_wp2
    go_ret
    exact ⟨rfl, Below.refl _ _⟩
  by_cases hl1 : 1048576 < n1
  · clear h0 h1
    go_enter Try.func3, Try.ntmps3
    go_wp2
    go_ret
    exact ⟨rfl, Below.refl _ _⟩
  obtain ⟨b0, hc0⟩ := h0.bt
  obtain ⟨b1, hc1⟩ := h1.bt
  have D0 := Lib.hid (drawJoinAll_any A0 n0 c0 w.heap.size z0 w b0 (Nat.le_refl _) hc0)
  have D1 := Lib.hid (fun (w1 : World) (hb : Below w.heap.size w w1) => drawUseful_any A1 n1 c1 w.heap.size z1 w1 (b1.below hb (Nat.le_refl _)) hb.size hc1)
  clear h0 h1 b0 b1 hc0 hc1
  go_enter Try.func3, Try.ntmps3
  go_wp2_with fail
  refine D0.out.mono ?_
  rintro e w1 ⟨v, zs, r, v2, qs0, rfl, ho, hl, _, hq0, hlq0, hb1⟩
  obtain ⟨A, c, rfl, _⟩ := ho.form
  obtain ⟨Ac, cc, rfl, hrq0⟩ := hq0.form
  have D1 := Lib.hid (D1.out w1 hb1)
  clear ho hq0 D0
  go_wp2_with fail
  refine D1.out.mono ?_
  rintro e w2 ⟨n, v3, qs, rfl, hn17, hq, hlq, hb2⟩
  obtain ⟨A', c', rfl, hrq⟩ := hq.form
  have hrq0 := hrq0.to hb2
  obtain ⟨m0, hm0⟩ : ∃ m0, m0 = qs0.length := ⟨_, rfl⟩
  obtain ⟨m, hm⟩ : ∃ m, m = qs.length := ⟨_, rfl⟩
  rw [← hm0] at hrq0 hlq0
  rw [← hm] at hrq hlq
  rw [← hm0, ← hm]
  clear hq D1
  have NW := implNew_any (n : Int) w2
  have IC := fun (w3 : World) (hb2 : Below w2.heap.size w2 w3) => implCount_any (n : Int) A' m c' w2.heap.size qs w3 (hrq.below hb2 (Nat.le_refl _)) hb2.size (by omega)
  have SC := fun (w3 : World) (hb2 : Below w2.heap.size w2 w3) => specCount_any (n : Int) A' m c' w2.heap.size qs w3 (hrq.below hb2 (Nat.le_refl _)) hb2.size (by omega)
  by_cases hn : 1 ≤ n ∧ n ≤ 16
  case neg =>
    have hz : ccN (n : Int) qs = -1 := by
      unfold ccN
      rw [usB_n (by omega)]
      simp
    have e1 : newOk (n : Int) = false := by unfold newOk; exact decide_eq_false (by omega)
    have NW := rd2_of NW
    have e2 : newN (n : Int) = 0 := by unfold newN; rw [if_neg (by omega)]
    rw [hz] at IC SC
    rw [e1, e2, roots_len] at NW
    have NW := Lib.hid NW
    have IC := Lib.hid IC
    have SC := Lib.hid SC
    clear hz e1 e2 hn hrq hrq0 hm hm0
    go_wp2_with fail
    refine NW.out.mono ?_
    rintro e w3 ⟨A3, c3, rfl, _, hb3⟩
    go_wp2_with fail
    refine (IC.out _ (by repeat (first | assumption | exact Below.refl _ _ | refine Below.on ?_ (by assumption)))).mono ?_
    rintro e w4 ⟨rfl, hb4⟩
    go_wp2_with fail
    refine (SC.out _ (by repeat (first | assumption | exact Below.refl _ _ | refine Below.on ?_ (by assumption)))).mono ?_
    rintro e w5 ⟨rfl, hb5⟩
    go_wp2_with fail
    refine (IC.out _ (by repeat (first | assumption | exact Below.refl _ _ | refine Below.on ?_ (by assumption)))).mono ?_
    rintro e w6 ⟨rfl, hb6⟩
    go_wp2_with fail
    go_ret
    exact ⟨rfl, (by repeat (first | assumption | exact Below.refl _ _ | refine Below.on ?_ (by assumption)))⟩
  case pos =>
    obtain ⟨hn1, hn2⟩ := hn
    have e1 : newOk (n : Int) = true := by unfold newOk; exact decide_eq_true (by omega)
    have e2 : newN (n : Int) = n := by unfold newN; rw [if_pos (by omega)]; simp
    have NW := rd2_of NW
    rw [e1, e2, roots_len] at NW
    have J0 := Lib.hid (wellJoined_of (c := cc) hn1 hn2 hrq0 (by omega))
    have J1 := Lib.hid (wellJoined_of (c := c') hn1 hn2 hrq (by omega))
    obtain ⟨K, hK⟩ : ∃ K, K = ccN (n : Int) qs := ⟨_, rfl⟩
    rw [← hK] at IC SC
    have q1 : (K != K) = false := by simp
    have NW := Lib.hid NW
    have IC := Lib.hid IC
    have SC := Lib.hid SC
    clear e1 e2 hrq hrq0 hK hm hm0
    go_wp2_with fail
    refine NW.out.mono ?_
    rintro e w3 ⟨A3, c3, rfl, hr3, hb3⟩
    go_wp2_with fail
    refine (IC.out _ (by repeat (first | assumption | exact Below.refl _ _ | refine Below.on ?_ (by assumption)))).mono ?_
    rintro e w4 ⟨rfl, hb4⟩
    have hr3 := hr3.to hb4
    go_wp2_with fail
    refine (SC.out _ (by repeat (first | assumption | exact Below.refl _ _ | refine Below.on ?_ (by assumption)))).mono ?_
    rintro e w5 ⟨rfl, hb5⟩
    have HR3 := Lib.hid (hr3.to hb5)
    have hs2 : Below w2.heap.size w2 w5 := (by repeat (first | assumption | exact Below.refl _ _ | refine Below.on ?_ (by assumption)))
    obtain ⟨W, hW⟩ : ∃ W, W = w5.alloc (.cells #[.slice Ac m0 cc, .slice A' m c'] 25) := ⟨_, rfl⟩
    have hb6 : Below w5.heap.size w5 W := by rw [hW]; exact (Below.refl _ _).alloc (Nat.le_refl _) _
    have HC : Hid (∀ j, j < 2 → ∃ A m c, W.cell? ⟨w5.heap.size, j, none⟩ = some (.slice A m c) ∧ Joined n w2 A m c) := fun j hj => by
      rw [hW]
      obtain ⟨s0, s1⟩ := slice_cells w5 25 (.slice Ac m0 cc) (.slice A' m c')
      rcases (show j = 0 ∨ j = 1 by omega) with rfl | rfl
      · exact ⟨_, _, _, s0, J0.out⟩
      · exact ⟨_, _, _, s1, J1.out⟩
    have hlW : w5.heap.size < W.heap.size := by rw [hW]; simp
    have HW := Lib.hid hW
    clear hW hr3 NW IC SC J0 J1
    go_wp2_with fail
    rw [← HW.out]
    go_loopw [66] (fun i wq => ∃ j : Nat, j ≤ 2 ∧ i = .int .i64 (j : Int) ∧ Below W.heap.size W wq) (fun i _ => 2 - (intOf i).toNat)
    case atStart => exact ⟨0, by omega, rfl, Below.refl _ _⟩
    case round =>
      obtain ⟨j, hj2, rfl, hbq⟩ := hrel
      obtain ⟨wq, rfl⟩ : ∃ wq, wq = wr := ⟨_, rfl⟩
      by_cases hlt : j < 2
      · obtain ⟨Al, ml, cl, g1, hJ⟩ := HC.out j hlt
        have HJ := Lib.hid hJ
        have g1 := (hbq.cell (p := ⟨w5.heap.size, j, none⟩) hlW).trans g1
        have hjj : (j : Int) < 2 := by omega
        obtain ⟨V, hV⟩ : ∃ V, V = wq.alloc (.cells #[.int .i64 1, .int .i64 2] 24) := ⟨_, rfl⟩
        have hb7 : Below wq.heap.size wq V := by rw [hV]; exact (Below.refl _ _).alloc (Nat.le_refl _) _
        have HD : Hid (∀ k, k < 2 → V.cell? ⟨wq.heap.size, k, none⟩ = some (.int .i64 ((k + 1 : Nat) : Int))) := fun k hk => by
          rw [hV]
          obtain ⟨s0, s1⟩ := slice_cells wq 24 (.int .i64 1) (.int .i64 2)
          rcases (show k = 0 ∨ k = 1 by omega) with rfl | rfl
          · exact s0
          · exact s1
        have hlV : wq.heap.size < V.heap.size := by rw [hV]; simp
        have HV := Lib.hid hV
        have hbVW : Below W.heap.size W V := Below.on hbq hb7
        clear hV hJ
        go_wp2_with fail
        rw [← HV.out]
        go_loopw [72] (fun i wp => ∃ k : Nat, k ≤ 2 ∧ i = .int .i64 (k : Int) ∧ Below V.heap.size V wp) (fun i _ => 2 - (intOf i).toNat)
        case atStart => exact ⟨0, by omega, rfl, Below.refl _ _⟩
        case round =>
          obtain ⟨k, hk2, rfl, hbp⟩ := hrel
          obtain ⟨wp, rfl⟩ : ∃ wp, wp = wr := ⟨_, rfl⟩
          by_cases hlt2 : k < 2
          · have g2 := (hbp.cell (p := ⟨wq.heap.size, k, none⟩) hlV).trans (HD.out k hlt2)
            have hkk : (k : Int) < 2 := by omega
            have hb6W : Below w5.heap.size w5 wp := Below.on hb6 (Below.on hbVW hbp)
            have JJ := Lib.hid (HJ.out (k + 1) (by omega) A3 c3 wp (HR3.out.to hb6W) (Below.on hs2 hb6W))
            clear hb6W g1
            go_wp2_with fail
            refine JJ.out.mono ?_
            rintro e w8 ⟨A8, k8, c8, C, b, rfl, hok, hb8⟩
            cases b with
            | false =>
              have hbn : Below V.heap.size V w8 := Below.on hbp hb8
              clear hok JJ g2
              go_wp2_with fail
              go_roundw
              case rel => exact ⟨k + 1, by omega, by go_num, hbn⟩
              case measure => simp [intOf]; omega
            | true =>
              obtain ⟨rfl, hr8, hfv, hCl, hwell⟩ := hok rfl
              have ZI := rd2_of (implSizes_any A8 k8 c8 w8.heap.size C w8 hr8 (Nat.le_refl _) (by omega))
              have HI := fun (w9 : World) (hb : Below w8.heap.size w8 w9) => rd2_of (implHeights_any A8 k8 c8 w8.heap.size C w9 (hr8.below hb (Nat.le_refl _)) hb.size (by omega))
              rw [hfv, show (sizesN C).length = k8 by rw [sizesN_yes hfv, szL_len, hCl]] at ZI
              rw [hfv, show (heightsN C).length = k8 by rw [heightsN_yes hfv, htL_len, hCl]] at HI
              have ZI := Lib.hid ZI
              have HI := Lib.hid HI
              have HWELL : Hid (∀ x, x < k8 → (sizesN C)[x]?.getD 0 = (szN C x : Int) ∧ (heightsN C)[x]?.getD 0 = (htN C x : Int) ∧ 2 ^ htN C x ≤ szN C x ∧ szN C x ≤ 16) := fun x hx => ⟨sizes_of hfv (by omega), heights_of hfv (by omega), hwell x hx⟩
              have hbn : Below V.heap.size V w8 := Below.on hbp hb8
              clear hok JJ g2 hfv hCl hwell hr8
              go_wp2_with fail
              refine ZI.out.mono ?_
              rintro e w9 ⟨A9, c9, rfl, hr9, hb9⟩
              go_wp2_with fail
              refine (HI.out _ (by repeat (first | assumption | exact Below.refl _ _ | refine Below.on ?_ (by assumption)))).mono ?_
              rintro e w10 ⟨A10, c10, rfl, hr10, hb10⟩
              have hr9 := hr9.to hb10
              have hbn : Below V.heap.size V w10 := Below.on hbn (Below.on hb9 hb10)
              obtain ⟨bs, os, rfl, ks, hcs⟩ := hr9.2 (by omega)
              obtain ⟨bh, oh, rfl, kh, hch⟩ := hr10.2 (by omega)
              have PS := Lib.hid (fun (wr : World) (hb : Below w10.heap.size w10 wr) (x : Nat) (hx : x < k8) => show wr.cell? ⟨bs, os + x, none⟩ = some (.int .i64 (szN C x : Int)) from by
                rw [(World.cell?_of_block (hb.block bs ks)).trans (hcs x hx), (HWELL.out x hx).1])
              have PH := Lib.hid (fun (wr : World) (hb : Below w10.heap.size w10 wr) (x : Nat) (hx : x < k8) => show wr.cell? ⟨bh, oh + x, none⟩ = some (.int .i64 (htN C x : Int)) from by
                rw [(World.cell?_of_block (hb.block bh kh)).trans (hch x hx), (HWELL.out x hx).2.1])
              clear ZI HI hr9 hr10 hcs hch hb8 hb9 hb10
              go_wp2_with fail
              go_loopw [97] (fun i wz => ∃ x : Nat, x ≤ k8 ∧ i = .int .i64 (x : Int) ∧ Below w10.heap.size w10 wz) (fun i _ => k8 - (intOf i).toNat)
              case atStart => exact ⟨0, by omega, rfl, Below.refl _ _⟩
              case round =>
                obtain ⟨x, hxk, rfl, hbz⟩ := hrel
                obtain ⟨wz, rfl⟩ : ∃ wz, wz = wr := ⟨_, rfl⟩
                by_cases hlt3 : x < k8
                · have p1 := PS.out _ hbz x hlt3
                  have p2 := PH.out _ hbz x hlt3
                  obtain ⟨_, _, hpow, hs16⟩ := HWELL.out x hlt3
                  obtain ⟨s, hs⟩ : ∃ s, s = szN C x := ⟨_, rfl⟩
                  obtain ⟨H, hH⟩ : ∃ H, H = htN C x := ⟨_, rfl⟩
                  rw [← hs] at p1 hpow hs16
                  rw [← hH] at p2 hpow
                  have hH4 : H ≤ 16 := by
                    have := Nat.lt_two_pow_self (n := H)
                    omega
                  have hxx : (x : Int) < (k8 : Int) := by omega
                  have HPOW : Hid (∀ t, t ≤ H → 2 ^ t ≤ s) := fun t ht => Nat.le_trans (Nat.pow_le_pow_right (by omega) ht) hpow
                  clear hpow hs hH
                  go_wp2_with fail
                  go_loopw [24, 103] (fun p q wy => ∃ t : Nat, t ≤ H ∧ q = .int .i64 (t : Int) ∧ (∃ P : Nat, p = .int .i64 (P : Int) ∧ P ≤ 16 ∧ Hid (P = 2 ^ t)) ∧ wz = wy) (fun _ q _ => H - (intOf q).toNat)
                  case atStart => exact ⟨0, by omega, rfl, ⟨1, rfl, by omega, rfl⟩, rfl⟩
                  case round =>
                    obtain ⟨t, htH, rfl, ⟨P, rfl, hP16, hP⟩, rfl⟩ := hrel
                    by_cases hlt4 : t < H
                    · have htt : (t : Int) < (H : Int) := by omega
                      have hn1 := HPOW.out (t + 1) (by omega)
                      have hP2 : Hid (P * 2 = 2 ^ (t + 1)) := by
                        show _ = _
                        rw [Nat.pow_succ, hP.out]
                      have hP3 : 2 * P ≤ 16 := by
                        have := hP2.out
                        omega
                      clear hn1
                      go_wp2_with fail
                      go_roundw
                      case rel => exact ⟨t + 1, by omega, by go_num, ⟨2 * P, by go_num, hP3, by show _ = _; rw [Nat.mul_comm]; exact hP2.out⟩, trivial⟩
                      case measure => simp [intOf]; omega
                    · obtain ⟨e4⟩ : Nonempty (t = H) := ⟨by omega⟩
                      have htt : ¬ (t : Int) < (H : Int) := by omega
                      have hPs : P ≤ s := by
                        have := HPOW.out t htH
                        have := hP.out
                        omega
                      have hsP : ¬ (s : Int) < (P : Int) := by omega
                      go_wp2_with fail
                      go_roundw
                      case rel => exact ⟨x + 1, by omega, by go_num, hbz⟩
                      case measure => simp [intOf]; omega
                · have hxx : ¬ (x : Int) < (k8 : Int) := by omega
                  have hbn2 : Below V.heap.size V wz := Below.on hbn hbz
                  go_wp2_with fail
                  go_roundw
                  case rel => exact ⟨k + 1, by omega, by go_num, hbn2⟩
                  case measure => simp [intOf]; omega
          · have hkk : ¬ (k : Int) < 2 := by omega
            have hbn : Below W.heap.size W wp := Below.on hbVW hbp
            go_wp2_with fail
            go_roundw
            case rel => exact ⟨j + 1, by omega, by go_num, hbn⟩
            case measure => simp [intOf]; omega
      · have hjj : ¬ (j : Int) < 2 := by omega
        clear HC hlW
        go_wp2_with fail
        go_ret
        exact ⟨rfl, Below.on hb1 (Below.on hb2 (Below.on hs2 (Below.on hb6 hbq)))⟩
end Go.Proofs.Ytfafgihfgdpclaa
