/- ClassesAt: of the program, by its classes, and of the model, by counting roots. Condition: lengths up to 1048576. -/
import Derived.Test.YtfafgihfgdpclaaForestAt
import Derived.Test.YtfafgihfgdpclaaClasses
import Derived.Test.YtfafgihfgdpclaaRowsAll
namespace Go.Proofs.Ytfafgihfgdpclaa
open Go.RowKit Go.Shelf

/-- How many classes there were. -/
def caN (us ts : List Int) (m : Int) : Int := if askB us ts m = true then (rowsC (atL us ts m) : Int) else -1
theorem caN_yes {us ts : List Int} {m : Int} (h : askB us ts m = true) : caN us ts m = (rowsC (atL us ts m) : Int) := by unfold caN; rw [if_pos h]
theorem caN_no {us ts : List Int} {m : Int} (h : askB us ts m = false) : caN us ts m = -1 := by unfold caN; rw [h]; simp
theorem rootsTo_succ (up : List Int) (k : Nat) : rootsTo up (k + 1) = rootsTo up k + if up[k]?.getD 0 = (k : Int) then 1 else 0 := by
  unfold rootsTo
  rw [List.range_succ, List.filter_append, List.length_append]
  by_cases h : up[k]?.getD 0 = (k : Int)
  · rw [if_pos h]; simp [h]
  · rw [if_neg h]; simp [h]
theorem rowsC_roots {v : List Int} (h : fvB v = true) : rowsC v = rootsTo v v.length := rows_roots h
set_option maxRecDepth 100000 in
set_option maxHeartbeats 4000000 in
theorem specClassesAt_any (A1 A2 : Option Addr) (n1 c1 n2 c2 B0 : Nat) (m : Int) (us ts : List Int) (w : World) (h1 : Rd w B0 A1 n1 us) (h2 : Rd w B0 A2 n2 ts) (hB0 : B0 ≤ w.heap.size) (hb1 : n1 ≤ 1048576) (hb2 : n2 ≤ 1048576) :
    Calls Try.prog 65 #[.agg #[.slice A1 n1 c1, .slice A2 n2 c2], .int .i64 m] w fun e w' => e = .returned (.int .i64 (caN us ts m)) ∧ Below w.heap.size w w' := by
  obtain ⟨W, hW⟩ : ∃ W, W = w.alloc (.cells #[.slice A1 n1 c1, .slice A2 n2 c2] 64) := ⟨_, rfl⟩
  have hbW : Below w.heap.size w W := by rw [hW]; exact (Below.refl _ _).alloc (Nat.le_refl _) _
  have FA := specForestAt_any A1 A2 n1 c1 n2 c2 B0 m us ts W (h1.below hbW hB0) (h2.below hbW hB0) (Nat.le_trans hB0 hbW.size) hb1 hb2
  have HB := Lib.hid hbW
  have HW := Lib.hid hW
  have hl1 := h1.1
  cases hf : askB us ts m with
  | false =>
    rw [hf] at FA
    rw [caN_no hf]
    have FA := Lib.hid FA
    clear h1 h2 hB0 hb1 hb2 hW hbW hl1 hf
    go_enter Try.func65, Try.ntmps65
    go_wp2_with fail
    rw [← HW.out]
    refine FA.out.mono ?_
    rintro e w1 ⟨v, rfl, ho, hb⟩
    have HB2 := Lib.hid (Below.on HB.out hb)
    clear ho hb
    go_wp2_with fail
    go_ret
    exact ⟨rfl, HB2.out⟩
  | true =>
    rw [hf] at FA
    rw [caN_yes hf]
    rw [faL_yes hf] at FA
    have hv := (tmB_parts (askB_parts hf).1).1
    have hav := atL_fv hv (ts := ts) m
    have hlen := atL_len us ts m
    have h16 := (fv_parts hv).2.1
    rw [rowsC_roots hav]
    obtain ⟨zs, hzs⟩ : ∃ zs, zs = atL us ts m := ⟨_, rfl⟩
    rw [← hzs] at FA hlen ⊢
    have hz16 : zs.length ≤ 16 := by omega
    have FA := Lib.hid FA
    clear h1 h2 hB0 hb1 hb2 hW hbW hl1 hf hv hav hlen h16 hzs
    go_enter Try.func65, Try.ntmps65
    go_wp2_with fail
    rw [← HW.out]
    refine FA.out.mono ?_
    rintro e w1 ⟨v, rfl, ho, hb⟩
    obtain ⟨A, c, rfl, hr⟩ := ho.form
    have HB2 := Lib.hid (Below.on HB.out hb)
    have HR := Lib.hid hr
    obtain ⟨n, hn⟩ : ∃ n, n = zs.length := ⟨_, rfl⟩
    rw [← hn] at HR hz16 ⊢
    have HN := Lib.hid hn
    clear ho hb hr hn
    go_wp2_with fail
    go_loopw [7, 20] (fun q i wr => ∃ k : Nat, k ≤ n ∧ i = .int .i64 k ∧ q = .int .i64 (rootsTo zs k : Int) ∧ wr = w1) (fun _ i _ => n - (intOf i).toNat)
    case atStart => exact ⟨0, Nat.zero_le _, rfl, rfl, rfl⟩
    case round =>
      obtain ⟨k, hk, rfl, rfl, rfl⟩ := hrel
      by_cases hlt : k < n
      · have hkk : (k : Int) < (n : Int) := by omega
        obtain ⟨b1, o1, rfl, _, q1⟩ := HR.out.2 (by omega)
        have g1 := q1 k hlt
        have hs := rootsTo_succ zs k
        have hle : rootsTo zs k ≤ 16 := by
          have : rootsTo zs k ≤ k := by unfold rootsTo; have := List.length_filter_le (fun i : Nat => zs[i]?.getD 0 == (i : Int)) (List.range k); simpa using this
          omega
        obtain ⟨z, hz⟩ : ∃ z, z = zs[k]?.getD 0 := ⟨_, rfl⟩
        rw [← hz] at g1 hs
        obtain ⟨p, hp⟩ : ∃ p, p = rootsTo zs k := ⟨_, rfl⟩
        rw [← hp] at hs hle ⊢
        clear q1 hz hp
        by_cases he : z = (k : Int)
        · have t1 : ((k : Int) == z) = true := by simp [he]
          rw [if_pos he] at hs
          have HS := Lib.hid hs
          clear he hs
          go_wp2
          go_roundw
          case rel => exact ⟨k + 1, by omega, by go_num, by rw [HS.out]; go_num, trivial⟩
          case measure => simp [intOf]; omega
        · have t1 : ((k : Int) == z) = false := by simp; omega
          rw [if_neg he] at hs
          have HS := Lib.hid hs
          clear he hs
          go_wp2
          go_roundw
          case rel => exact ⟨k + 1, by omega, by go_num, by rw [HS.out]; rfl, trivial⟩
          case measure => simp [intOf]; omega
      · obtain rfl : k = n := by omega
        go_wp2
        go_ret
        exact ⟨ret_int (by rw [HN.out]), HB2.out⟩
set_option maxRecDepth 100000 in
set_option maxHeartbeats 4000000 in
theorem implClassesAt_any (A1 A2 : Option Addr) (n1 c1 n2 c2 B0 : Nat) (m : Int) (us ts : List Int) (w : World) (h1 : Rd w B0 A1 n1 us) (h2 : Rd w B0 A2 n2 ts) (hB0 : B0 ≤ w.heap.size) (hb1 : n1 ≤ 1048576) (hb2 : n2 ≤ 1048576) :
    Calls Try.prog 64 #[.agg #[.slice A1 n1 c1, .slice A2 n2 c2], .int .i64 m] w fun e w' => e = .returned (.int .i64 (caN us ts m)) ∧ Below w.heap.size w w' := by
  obtain ⟨W, hW⟩ : ∃ W, W = w.alloc (.cells #[.slice A1 n1 c1, .slice A2 n2 c2] 64) := ⟨_, rfl⟩
  have hbW : Below w.heap.size w W := by rw [hW]; exact (Below.refl _ _).alloc (Nat.le_refl _) _
  have FA := Lib.hid (implForestAt_any A1 A2 n1 c1 n2 c2 B0 m us ts W (h1.below hbW hB0) (h2.below hbW hB0) (Nat.le_trans hB0 hbW.size) hb1 hb2)
  have hfl := faL_len us ts m
  have hl1 := h1.1
  have hca : caN us ts m = if fvB (faL us ts m) = true then ((rowsN (faL us ts m)).length : Int) else -1 := by
    cases hf : askB us ts m with
    | false => rw [caN_no hf, faL_no hf]; rfl
    | true =>
      have hav := atL_fv (tmB_parts (askB_parts hf).1).1 (ts := ts) m
      rw [caN_yes hf, faL_yes hf, if_pos hav, rowsN_C hav]
  rw [hca]
  obtain ⟨zs, hzs⟩ : ∃ zs, zs = faL us ts m := ⟨_, rfl⟩
  rw [← hzs] at FA hfl ⊢
  have CL := fun (A : Option Addr) (c : Nat) (w8 : World) (h : Rd w8 w8.heap.size A zs.length zs) => implClasses_any A zs.length c _ zs w8 h (Nat.le_refl _) (by omega)
  have HB := Lib.hid hbW
  have HW := Lib.hid hW
  cases hv : fvB zs with
  | false =>
    rw [hv] at CL
    have CL := Lib.hid CL
    clear h1 h2 hB0 hb1 hb2 hW hbW hfl hl1 hzs hca hv
    go_enter Try.func64, Try.ntmps64
    go_wp2_with fail
    rw [← HW.out]
    refine FA.out.mono ?_
    rintro e w1 ⟨v, rfl, ho, hb⟩
    obtain ⟨A, c, rfl, hr⟩ := ho.form
    have HB2 := Lib.hid (Below.on HB.out hb)
    have RZ := Lib.hid (CL.out A c w1 hr)
    clear ho hb hr
    go_wp2_with fail
    refine RZ.out.mono ?_
    rintro e w2 ⟨v2, vs, rfl, _, hb2⟩
    have HB3 := Lib.hid (Below.on HB2.out hb2)
    clear hb2
    go_wp2_with fail
    go_ret
    exact ⟨rfl, HB3.out⟩
  | true =>
    rw [hv] at CL
    have CL := Lib.hid CL
    have hrl := (rowsN_big zs).1
    have hrb := (rowsN_big zs).2
    have HRB := Lib.hid hrb
    clear h1 h2 hB0 hb1 hb2 hW hbW hfl hl1 hzs hca hv hrb
    go_enter Try.func64, Try.ntmps64
    go_wp2_with fail
    rw [← HW.out]
    refine FA.out.mono ?_
    rintro e w1 ⟨v, rfl, ho, hb⟩
    obtain ⟨A, c, rfl, hr⟩ := ho.form
    have HB2 := Lib.hid (Below.on HB.out hb)
    have RZ := Lib.hid (CL.out A c w1 hr)
    clear ho hb hr
    go_wp2_with fail
    refine RZ.out.mono ?_
    rintro e w2 ⟨v2, vs, rfl, hor, hb2⟩
    obtain ⟨A2, c2, rfl, _⟩ := hor.form HRB.out
    have HB3 := Lib.hid (Below.on HB2.out hb2)
    clear hb2 hor
    go_wp2_with fail
    go_ret
    exact ⟨rfl, HB3.out⟩
end Go.Proofs.Ytfafgihfgdpclaa
