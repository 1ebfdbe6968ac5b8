/- lotdrawerlaw.LfsrSteps. -/
import Derived.Test.YtcadpgpenjpdiaaXl8
import Derived.Test.YtcadpgpenjpdiaaXlb
namespace Go.Proofs.Ytcadpgpenjpdiaa
open Go.RowKit Go.Deep

theorem okh_zero (n : Int) (t : Nat) : OKh n t 0 ↔ OKr n t := by
  unfold OKh
  rw [Nat.zero_div]
  exact ⟨fun h => h.1, fun h => ⟨h, rfl⟩⟩
theorem hib_ge {n t x i : Nat} (h : NR n t) (hx : x < 2 ^ n) : hib n t x i = decide (2 ^ (n - 1) ≤ nit n t i x) := by
  have hy := nit_lt (t := t) h.lo hx i
  unfold hib
  rw [decide_eq_decide]
  have h4 := Nat.two_pow_pos (n - 1)
  have e : 2 ^ n = 2 ^ (n - 1) * 2 := by
    obtain ⟨k, hk⟩ : ∃ k, n = k + 1 := ⟨n - 1, by have := h.lo; omega⟩
    rw [hk, Nat.add_sub_cancel, Nat.pow_succ]
  have c1 : nit n t i x / 2 ^ (n - 1) < 2 := (Nat.div_lt_iff_lt_mul h4).2 (by omega)
  have c2 := Nat.le_div_iff_mul_le h4 (x := 1) (y := nit n t i x)
  generalize nit n t i x / 2 ^ (n - 1) = z at *
  omega

set_option maxRecDepth 100000 in
set_option maxHeartbeats 2000000 in
theorem lfsrSteps_bad {n : Int} {t x : Nat} (B : Int) (ht : t < 4294967296) (hx : x < 4294967296) (h : ¬ OKh n t x) (w : World) : Calls Try.prog 3 #[.int .i64 n, .int .u32 (t : Int), .int .u32 (x : Int), .int .i64 B] w fun e w' => e = .returned (.bool true) ∧ Below w.heap.size w w' := by
  have C1 := Lib.hid (fun w => step_bad ht hx h w)
  have C2 := Lib.hid (fun w => back_bad ht hx h w)
  have C3 := Lib.hid (fun w => row_bad ht hx h B w)
  have C4 := Lib.hid (fun w => right_any n t ht w)
  have C5 : Hid (∀ w, Calls Try.prog 13 #[.int .i64 n, .int .u32 (t : Int), .int .u32 0] w fun e w' => e = .returned (.bool (decide (OKr n t))) ∧ w' = w) := fun w => by
    have := nright_any n t 0 ht (by decide) w
    rw [show decide (OKh n t 0) = decide (OKr n t) from decide_eq_decide.2 (okh_zero n t)] at this
    exact this
  have C6 := Lib.hid (fun w => nright_any n t x ht hx w)
  rw [decide_eq_false h] at C6
  clear h
  have HB : Hid (Below w.heap.size w w) := Below.refl _ _
  generalize decide (OKr n t) = r at *
  cases r <;> (
    go_enter Try.func3, Try.ntmps3
    go_wp2_with fail
    refine (C1.out _).mono ?_
    rintro e w1 ⟨rfl, rfl⟩
    go_wp2_with fail
    refine (C2.out _).mono ?_
    rintro e w1 ⟨rfl, rfl⟩
    go_wp2_with fail
    refine (C3.out _).mono ?_
    rintro e w1 ⟨rfl, rfl⟩
    go_wp2_with fail
    refine (C4.out _).mono ?_
    rintro e w1 ⟨rfl, rfl⟩
    go_wp2_with fail
    refine (C5.out _).mono ?_
    rintro e w1 ⟨rfl, rfl⟩
    go_wp2_with fail
    refine (C6.out _).mono ?_
    rintro e w1 ⟨rfl, rfl⟩
    go_wp2
    go_ret
    exact ⟨rfl, HB.out⟩)
set_option maxRecDepth 100000 in
set_option maxHeartbeats 2000000 in
theorem lfsrSteps_far {n t x : Nat} (B : Int) (h : NR n t) (hx : x < 2 ^ n) (hB : ¬ (0 ≤ B ∧ B ≤ 400)) (w : World) : Calls Try.prog 3 #[.int .i64 (n : Int), .int .u32 (t : Int), .int .u32 (x : Int), .int .i64 B] w fun e w' => e = .returned (.bool true) ∧ Below w.heap.size w w' := by
  have hxs := h.state hx
  have ht := h.taps
  have C1 := Lib.hid (fun w => step_ok h hx w)
  have C2 := Lib.hid (fun w => back_ok h hx w)
  have C3 := Lib.hid (fun w => row_far h hx B hB w)
  have C4 := Lib.hid (fun w => right_any (n : Int) t ht w)
  rw [decide_eq_true h.ok] at C4
  have C5 : Hid (∀ w, Calls Try.prog 13 #[.int .i64 (n : Int), .int .u32 (t : Int), .int .u32 0] w fun e w' => e = .returned (.bool (decide (OKh (n : Int) t 0))) ∧ w' = w) := fun w => nright_any n t 0 ht (by decide) w
  rw [decide_eq_true ((okh_zero n t).2 h.ok)] at C5
  have C6 := Lib.hid (fun w => nright_any (n : Int) t x ht (by omega) w)
  rw [decide_eq_true (h.okh hx)] at C6
  have C7 := Lib.hid (fun w => nstep_any h hx w)
  have hbl := bkn_lt h hx
  have C8 := Lib.hid (fun w => nstep_any h hbl w)
  rw [nst_bkn h hx] at C8
  have hn20 := h.hi
  obtain ⟨q, hq, hq1, hq2, hqi⟩ := pow20 (n := n) hn20
  rw [hq] at hbl
  have hbi : ¬ (q : Int) ≤ (bkn n t x : Int) := by omega
  clear h hx hq
  generalize bkn n t x = b at *
  generalize nst n t x = s at *
  have f1 : ((s : Int) != (s : Int)) = false := by simp
  have f2 : ((x : Int) != (x : Int)) = false := by simp
  by_cases h0 : B < 0
  · clear hB
    go_enter Try.func3, Try.ntmps3
    go_wp2_with fail
    refine (C1.out _).mono ?_
    rintro e w1 ⟨rfl, hb1⟩
    go_wp2_with fail
    refine (C2.out _).mono ?_
    rintro e w2 ⟨rfl, hb2⟩
    have HB := Lib.hid (hb1.trans (hb2.mono hb1.size))
    clear hb1 hb2
    go_wp2_with fail
    refine (C3.out _).mono ?_
    rintro e w1 ⟨rfl, rfl⟩
    go_wp2_with fail
    refine (C4.out _).mono ?_
    rintro e w1 ⟨rfl, rfl⟩
    go_wp2_with fail
    refine (C5.out _).mono ?_
    rintro e w1 ⟨rfl, rfl⟩
    go_wp2_with fail
    refine (C6.out _).mono ?_
    rintro e w1 ⟨rfl, rfl⟩
    go_wp2_with fail
    refine (C7.out _).mono ?_
    rintro e w1 ⟨rfl, rfl⟩
    go_wp2_with fail
    refine (C8.out _).mono ?_
    rintro e w1 ⟨rfl, rfl⟩
    go_wp2
    go_ret
    exact ⟨rfl, HB.out⟩
  · have h1 : 400 < B := by omega
    clear hB
    go_enter Try.func3, Try.ntmps3
    go_wp2_with fail
    refine (C1.out _).mono ?_
    rintro e w1 ⟨rfl, hb1⟩
    go_wp2_with fail
    refine (C2.out _).mono ?_
    rintro e w2 ⟨rfl, hb2⟩
    have HB := Lib.hid (hb1.trans (hb2.mono hb1.size))
    clear hb1 hb2
    go_wp2_with fail
    refine (C3.out _).mono ?_
    rintro e w1 ⟨rfl, rfl⟩
    go_wp2_with fail
    refine (C4.out _).mono ?_
    rintro e w1 ⟨rfl, rfl⟩
    go_wp2_with fail
    refine (C5.out _).mono ?_
    rintro e w1 ⟨rfl, rfl⟩
    go_wp2_with fail
    refine (C6.out _).mono ?_
    rintro e w1 ⟨rfl, rfl⟩
    go_wp2_with fail
    refine (C7.out _).mono ?_
    rintro e w1 ⟨rfl, rfl⟩
    go_wp2_with fail
    refine (C8.out _).mono ?_
    rintro e w1 ⟨rfl, rfl⟩
    go_wp2
    go_ret
    exact ⟨rfl, HB.out⟩
set_option maxRecDepth 100000 in
set_option maxHeartbeats 2000000 in
theorem lfsrSteps_ok {n t x : Nat} (m : Nat) (h : NR n t) (hx : x < 2 ^ n) (hB : m ≤ 400) (w : World) : Calls Try.prog 3 #[.int .i64 (n : Int), .int .u32 (t : Int), .int .u32 (x : Int), .int .i64 (m : Int)] w fun e w' => e = .returned (.bool true) ∧ Below w.heap.size w w' := by
  have hxs := h.state hx
  have ht := h.taps
  have C1 := Lib.hid (fun w => step_ok h hx w)
  have C2 := Lib.hid (fun w => back_ok h hx w)
  have C3 := Lib.hid (fun w => row_ok h hx m hB w)
  have C4 := Lib.hid (fun w => right_any (n : Int) t ht w)
  rw [decide_eq_true h.ok] at C4
  have C5 : Hid (∀ w, Calls Try.prog 13 #[.int .i64 (n : Int), .int .u32 (t : Int), .int .u32 0] w fun e w' => e = .returned (.bool (decide (OKh (n : Int) t 0))) ∧ w' = w) := fun w => nright_any n t 0 ht (by decide) w
  rw [decide_eq_true ((okh_zero n t).2 h.ok)] at C5
  have C6 := Lib.hid (fun w => nright_any (n : Int) t x ht (by omega) w)
  rw [decide_eq_true (h.okh hx)] at C6
  have C7 := Lib.hid (fun w => nstep_any h hx w)
  have hbl := bkn_lt h hx
  have C8 := Lib.hid (fun w => nstep_any h hbl w)
  rw [nst_bkn h hx] at C8
  have hn20 := h.hi
  obtain ⟨q, hq, hq1, hq2, hqi⟩ := pow20 (n := n) hn20
  rw [hq] at hbl
  have hbi : ¬ (q : Int) ≤ (bkn n t x : Int) := by omega
  obtain ⟨v, hv⟩ : ∃ v, n = v + 1 := ⟨n - 1, by have := h.lo; omega⟩
  have hvi : (n : Int) - 1 = (v : Int) := by omega
  have hv19 : v ≤ 19 := by have := h.hi; omega
  obtain ⟨r, hr, hr1, hr2, hri⟩ := pow20 (n := v) (by omega)
  have HH := Lib.hid (fun k => hib_ge (i := k) h hx)
  rw [show n - 1 = v by omega, hr] at HH
  have CN := Lib.hid (fun y hy w => nstep_any (w := w) (x := y) h hy)
  have HL := Lib.hid (fun k => nit_lt (t := t) (k := k) h.lo hx)
  clear h hx hq hv hr
  generalize bkn n t x = b at *
  have f1 : ((nst n t x : Int) != (nst n t x : Int)) = false := by simp
  have f2 : ((x : Int) != (x : Int)) = false := by simp
  go_enter Try.func3, Try.ntmps3
  go_wp2_with fail
  refine (C1.out _).mono ?_
  rintro e w1 ⟨rfl, hb1⟩
  go_wp2_with fail
  refine (C2.out _).mono ?_
  rintro e w2 ⟨rfl, hb2⟩
  have HB := Lib.hid (hb1.trans (hb2.mono hb1.size))
  clear hb1 hb2
  go_wp2_with fail
  refine (C3.out _).mono ?_
  rintro e w3 ⟨R, cr, rfl, hT, hb⟩
  have HB3 := Lib.hid (HB.out.trans (hb.mono HB.out.size))
  have HT := Lib.hid hT
  clear hb HB hT
  go_wp2_with fail
  refine (C4.out _).mono ?_
  rintro e w1 ⟨rfl, rfl⟩
  go_wp2_with fail
  refine (C5.out _).mono ?_
  rintro e w1 ⟨rfl, rfl⟩
  go_wp2_with fail
  refine (C6.out _).mono ?_
  rintro e w1 ⟨rfl, rfl⟩
  go_wp2_with fail
  refine (C7.out _).mono ?_
  rintro e w1 ⟨rfl, rfl⟩
  go_wp2_with fail
  refine (C8.out _).mono ?_
  rintro e w1 ⟨rfl, rfl⟩
  clear C1 C2 C3 C4 C5 C6 C7 C8 f1 f2
  go_wp2_with fail
  go_loop [15, 121] (fun xv iv => ∃ k : Nat, k ≤ m ∧ iv = .int .i64 k ∧ xv = .int .u32 (nit n t k x : Int)) (fun _ iv => m - (intOf iv).toNat)
  case atStart => exact ⟨0, by omega, rfl, rfl⟩
  case round =>
    obtain ⟨k, hk, rfl, rfl⟩ := hrel
    by_cases hlt : k < m
    · have hki : (k : Int) < (m : Int) := by omega
      obtain ⟨g, off, rfl, _, hcell⟩ := HT.out.tp.at (by rw [rowN_len]; omega)
      have hc := hcell k (by rw [rowN_len]; exact hlt)
      rw [rowN_at hlt, HH.out k] at hc
      have CK := Lib.hid (CN.out _ (HL.out k))
      have E : Hid (nst n t (nit n t k x) = nit n t (k + 1) x) := rfl
      clear hcell
      generalize nst n t x = s at *
      generalize nit n t k x = y at *
      generalize nst n t y = z at *
      by_cases hy : (r : Int) ≤ (y : Int)
      · rw [decide_eq_true (by omega)] at hc
        go_wp2_with fail
        refine (CK.out _).mono ?_
        rintro e w2 ⟨rfl, rfl⟩
        go_wp2
        go_round
        case rel => exact ⟨k + 1, by omega, by go_num, by rw [E.out]⟩
        case measure => simp [intOf]; omega
      · rw [decide_eq_false (by omega)] at hc
        go_wp2_with fail
        refine (CK.out _).mono ?_
        rintro e w2 ⟨rfl, rfl⟩
        go_wp2
        go_round
        case rel => exact ⟨k + 1, by omega, by go_num, by rw [E.out]⟩
        case measure => simp [intOf]; omega
    · obtain rfl : k = m := by omega
      go_wp2
      go_ret
      exact ⟨rfl, HB3.out⟩
theorem lfsrSteps_walk (n : Int) (t x : Nat) (B : Int) (ht : t < 4294967296) (hx : x < 4294967296) (w : World) : Calls Try.prog 3 #[.int .i64 n, .int .u32 (t : Int), .int .u32 (x : Int), .int .i64 B] w fun e w' => e = .returned (.bool true) ∧ Below w.heap.size w w' := by
  by_cases h1 : OKh n t x
  · obtain ⟨k, rfl, hR, hk⟩ := OKh.of h1
    by_cases h : 0 ≤ B ∧ B ≤ 400
    · obtain ⟨b, rfl⟩ : ∃ b : Nat, B = (b : Int) := ⟨B.toNat, by omega⟩
      exact lfsrSteps_ok b hR hk (by omega) w
    · exact lfsrSteps_far B hR hk h w
  · exact lfsrSteps_bad B ht hx h1 w
end Go.Proofs.Ytcadpgpenjpdiaa
