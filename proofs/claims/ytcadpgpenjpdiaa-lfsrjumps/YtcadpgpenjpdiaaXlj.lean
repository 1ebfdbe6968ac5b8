/- lotdrawerlaw.LfsrJumps. -/
import Derived.Test.YtcadpgpenjpdiaaXl7
import Derived.Test.YtcadpgpenjpdiaaXlc
namespace Go.Proofs.Ytcadpgpenjpdiaa
open Go.RowKit Go.Deep

set_option maxRecDepth 100000 in
set_option maxHeartbeats 2000000 in
theorem lfsrJumps_bad {n : Int} {t x : Nat} (B : Int) (ht : t < 4294967296) (hx : x < 4294967296) (h : ¬ OKh n t x) (w : World) : Calls Try.prog 4 #[.int .i64 n, .int .u32 (t : Int), .int .u32 (x : Int), .int .i64 B] w fun e w' => e = .returned (.bool true) ∧ Below w.heap.size w w' := by
  have C1 := Lib.hid (fun w => per_bad ht hx h w)
  have C2 := Lib.hid (fun w => jump_bad ht hx h B w)
  have C3 := Lib.hid (fun w => nright_any n t x ht hx w)
  rw [decide_eq_false h] at C3
  clear h
  have HB : Hid (Below w.heap.size w w) := Below.refl _ _
  go_enter Try.func4, Try.ntmps4
  go_wp2_with fail
  refine (C1.out _).mono ?_
  rintro e w1 ⟨rfl, rfl⟩
  go_wp2_with fail
  refine (C2.out _).mono ?_
  rintro e w1 ⟨rfl, rfl⟩
  go_wp2_with fail
  refine (C3.out _).mono ?_
  rintro e w1 ⟨rfl, rfl⟩
  go_wp2
  go_ret
  exact ⟨rfl, HB.out⟩
set_option maxRecDepth 100000 in
set_option maxHeartbeats 2000000 in
theorem lfsrJumps_far {n t x : Nat} (B : Int) (h : NR n t) (hx : x < 2 ^ n) (hB : ¬ (0 ≤ B ∧ B ≤ 1099511627776)) (w : World) : Calls Try.prog 4 #[.int .i64 (n : Int), .int .u32 (t : Int), .int .u32 (x : Int), .int .i64 B] w fun e w' => e = .returned (.bool true) ∧ Below w.heap.size w w' := by
  have C1 := Lib.hid (fun w => per_ok h hx w)
  have C2 := Lib.hid (fun w => jump_far h hx B hB w)
  have C3 := Lib.hid (fun w => nright_any (n : Int) t x h.taps (by have := h.state hx; omega) w)
  rw [decide_eq_true (h.okh hx)] at C3
  have C4 := Lib.hid (fun w => nperiod_any h hx w)
  clear h hx
  generalize per n t x = p at *
  have f1 : ((p : Int) != (p : Int)) = false := by simp
  by_cases h0 : B < 0
  · clear hB
    go_enter Try.func4, Try.ntmps4
    go_wp2_with fail
    refine (C1.out _).mono ?_
    rintro e w1 ⟨rfl, hb⟩
    have HB := Lib.hid hb
    clear hb
    go_wp2_with fail
    refine (C2.out _).mono ?_
    rintro e w1 ⟨rfl, rfl⟩
    go_wp2_with fail
    refine (C3.out _).mono ?_
    rintro e w1 ⟨rfl, rfl⟩
    go_wp2_with fail
    refine (C4.out _).mono ?_
    rintro e w1 ⟨rfl, rfl⟩
    go_wp2
    go_ret
    exact ⟨rfl, HB.out⟩
  · have h1 : 1099511627776 < B := by omega
    clear hB
    go_enter Try.func4, Try.ntmps4
    go_wp2_with fail
    refine (C1.out _).mono ?_
    rintro e w1 ⟨rfl, hb⟩
    have HB := Lib.hid hb
    clear hb
    go_wp2_with fail
    refine (C2.out _).mono ?_
    rintro e w1 ⟨rfl, rfl⟩
    go_wp2_with fail
    refine (C3.out _).mono ?_
    rintro e w1 ⟨rfl, rfl⟩
    go_wp2_with fail
    refine (C4.out _).mono ?_
    rintro e w1 ⟨rfl, rfl⟩
    go_wp2
    go_ret
    exact ⟨rfl, HB.out⟩
set_option maxRecDepth 100000 in
set_option maxHeartbeats 2000000 in
theorem lfsrJumps_ok {n t x : Nat} (B : Nat) (h : NR n t) (hx : x < 2 ^ n) (hB : B ≤ 1099511627776) (w : World) : Calls Try.prog 4 #[.int .i64 (n : Int), .int .u32 (t : Int), .int .u32 (x : Int), .int .i64 (B : Int)] w fun e w' => e = .returned (.bool true) ∧ Below w.heap.size w w' := by
  have C1 := Lib.hid (fun w => per_ok h hx w)
  have C2 := Lib.hid (fun w => jump_ok h hx B hB w)
  have C3 := Lib.hid (fun w => nright_any (n : Int) t x h.taps (by have := h.state hx; omega) w)
  rw [decide_eq_true (h.okh hx)] at C3
  have C4 := Lib.hid (fun w => nperiod_any h hx w)
  have CN := Lib.hid (fun y hy w => nstep_any (w := w) (x := y) h hy)
  have HL := Lib.hid (fun k => nit_lt (t := t) (k := k) h.lo hx)
  obtain ⟨hp1, hp2, hp3, hp4⟩ := per_spec h hx
  have hp20 : per n t x ≤ 1048576 := Nat.le_trans hp2 (Nat.pow_le_pow_right (by decide) h.hi)
  have HM := nit_mod hp3 B
  rw [← HM] at C2
  have hme : (B : Int).tmod (per n t x : Int) = ((B % per n t x : Nat) : Int) := by
    rw [Int.tmod_eq_emod_of_nonneg (by omega)]; norm_cast
  have hml : B % per n t x < per n t x := Nat.mod_lt _ hp1
  clear h hx hp2 hp3 hp4 HM
  generalize per n t x = p at *
  have f1 : ((p : Int) != (p : Int)) = false := by simp
  generalize B % p = M at *
  go_enter Try.func4, Try.ntmps4
  go_wp2_with fail
  refine (C1.out _).mono ?_
  rintro e w1 ⟨rfl, hb⟩
  have HB := Lib.hid hb
  clear hb
  go_wp2_with fail
  refine (C2.out _).mono ?_
  rintro e w2 ⟨rfl, hb⟩
  have HB2 := Lib.hid (HB.out.trans (hb.mono HB.out.size))
  clear hb HB
  go_wp2_with fail
  refine (C3.out _).mono ?_
  rintro e w3 ⟨rfl, rfl⟩
  go_wp2_with fail
  refine (C4.out _).mono ?_
  rintro e w4 ⟨rfl, rfl⟩
  go_wp2_with fail
  go_loop [14, 77] (fun xv iv => ∃ k : Nat, k ≤ M ∧ iv = .int .i64 k ∧ xv = .int .u32 (nit n t k x : Int)) (fun _ iv => M - (intOf iv).toNat)
  case atStart => exact ⟨0, by omega, rfl, rfl⟩
  case round =>
    obtain ⟨k, hk, rfl, rfl⟩ := hrel
    by_cases hlt : k < M
    · have hki : (k : Int) < (M : Int) := by omega
      have CK := Lib.hid (CN.out _ (HL.out k))
      have E : Hid (nst n t (nit n t k x) = nit n t (k + 1) x) := rfl
      generalize nit n t M x = v at *
      generalize nit n t k x = y at *
      generalize nst n t y = z at *
      go_wp2_with fail
      refine (CK.out _).mono ?_
      rintro e w2 ⟨rfl, rfl⟩
      go_wp2
      go_round
      case rel => exact ⟨k + 1, by omega, by go_num, by rw [E.out]⟩
      case measure => simp [intOf]; omega
    · obtain rfl : k = M := by omega
      generalize nit n t k x = y at *
      have f2 : ((y : Int) == (y : Int)) = true := by simp
      go_wp2
      go_ret
      exact ⟨rfl, HB2.out⟩
theorem lfsrJumps_walk (n : Int) (t x : Nat) (B : Int) (ht : t < 4294967296) (hx : x < 4294967296) (w : World) : Calls Try.prog 4 #[.int .i64 n, .int .u32 (t : Int), .int .u32 (x : Int), .int .i64 B] w fun e w' => e = .returned (.bool true) ∧ Below w.heap.size w w' := by
  by_cases h1 : OKh n t x
  · obtain ⟨k, rfl, hR, hk⟩ := OKh.of h1
    by_cases h : 0 ≤ B ∧ B ≤ 1099511627776
    · obtain ⟨b, rfl⟩ : ∃ b : Nat, B = (b : Int) := ⟨B.toNat, by omega⟩
      exact lfsrJumps_ok b hR hk (by omega) w
    · exact lfsrJumps_far B hR hk h w
  · exact lfsrJumps_bad B ht hx h1 w
end Go.Proofs.Ytcadpgpenjpdiaa
