/- lfsr.Jump. -/
import Derived.Test.YtcadpgpenjpdiaaXl6
namespace Go.Proofs.Ytcadpgpenjpdiaa
open Go.RowKit Go.Deep

set_option maxRecDepth 100000 in
set_option maxHeartbeats 1000000 in
theorem jump_bad {n : Int} {t x : Nat} (ht : t < 4294967296) (hx : x < 4294967296) (h : ¬ OKh n t x) (B : Int) (w : World) : Calls Try.prog 16 #[.int .i64 n, .int .u32 (t : Int), .int .u32 (x : Int), .int .i64 B] w fun e w' => e = .returned (.tuple #[.int .u32 0, .int .i64 1]) ∧ w' = w := by
  have C := Lib.hid (holds_any n t x ht hx w)
  rw [decide_eq_false h] at C
  clear h
  go_enter Try.func16, Try.ntmps16
  go_wp2_with fail
  refine C.out.mono ?_
  rintro e w0 ⟨rfl, rfl⟩
  go_wp2
  go_ret2
  exact ⟨rfl, rfl⟩
set_option maxRecDepth 100000 in
set_option maxHeartbeats 1000000 in
theorem jump_far {n t x : Nat} (h : NR n t) (hx : x < 2 ^ n) (B : Int) (hB : ¬ (0 ≤ B ∧ B ≤ 1099511627776)) (w : World) : Calls Try.prog 16 #[.int .i64 (n : Int), .int .u32 (t : Int), .int .u32 (x : Int), .int .i64 B] w fun e w' => e = .returned (.tuple #[.int .u32 0, .int .i64 2]) ∧ w' = w := by
  have C := Lib.hid (holds_any n t x h.taps (by have := h.state hx; omega) w)
  rw [decide_eq_true (h.okh hx)] at C
  clear h hx
  by_cases h0 : B < 0
  · clear hB
    go_enter Try.func16, Try.ntmps16
    go_wp2_with fail
    refine C.out.mono ?_
    rintro e w0 ⟨rfl, rfl⟩
    go_wp2
    go_ret2
    exact ⟨rfl, rfl⟩
  · have h1 : 1099511627776 < B := by omega
    clear hB
    go_enter Try.func16, Try.ntmps16
    go_wp2_with fail
    refine C.out.mono ?_
    rintro e w0 ⟨rfl, rfl⟩
    go_wp2
    go_ret2
    exact ⟨rfl, rfl⟩

set_option maxRecDepth 100000 in
set_option maxHeartbeats 2000000 in
theorem jump_ok {n t x : Nat} (h : NR n t) (hx : x < 2 ^ n) (B : Nat) (hB : B ≤ 1099511627776) (w0 : World) : Calls Try.prog 16 #[.int .i64 (n : Int), .int .u32 (t : Int), .int .u32 (x : Int), .int .i64 (B : Int)] w0 fun e w' => e = .returned (.tuple #[.int .u32 (nit n t B x : Int), .int .i64 0]) ∧ Below w0.heap.size w0 w' := by
  have hen := enters_step
  have C := Lib.hid (holds_any n t x h.taps (by have := h.state hx; omega) w0)
  rw [decide_eq_true (h.okh hx)] at C
  have CS := Lib.hid (stepper_any h)
  unfold sfv at CS
  have hn20 := h.hi
  obtain ⟨q, hq, hq1, hq2, hqi⟩ := pow20 (n := n) hn20
  have HL := Lib.hid (fun k => nit_lt (t := t) (k := k) h.lo hx)
  by_cases hbq : q < B
  · obtain ⟨hp1, hp2, hp3, hp4⟩ := per_spec h hx
    have hp20 : per n t x ≤ 1048576 := Nat.le_trans hp2 (Nat.pow_le_pow_right (by decide) h.hi)
    have HM := Lib.hid (nit_mod hp3 B)
    have hme : (B : Int).tmod (per n t x : Int) = ((B % per n t x : Nat) : Int) := by
      rw [Int.tmod_eq_emod_of_nonneg (by omega)]; norm_cast
    have hml : B % per n t x < per n t x := Nat.mod_lt _ hp1
    have CP := Lib.hid (fun a b w hs => period_any (a := a) (b := b) (w := w) h hx hs)
    have CN0 := Lib.hid (fun a b y hy w hs => next_any (a := a) (b := b) (w := w) (x := y) h hy hs)
    clear hp2 hp3 hp4 h hx hq
    generalize per n t x = p at *
    obtain ⟨M, hM⟩ : ∃ M, B % p = M := ⟨_, rfl⟩
    rw [hM] at HM hme hml
    clear hM
    have hbqi : (q : Int) < (B : Int) := by omega
    go_enter Try.func16, Try.ntmps16
    go_wp2_with fail
    refine C.out.mono ?_
    rintro e w0 ⟨rfl, rfl⟩
    go_wp2_with fail
    refine (CS.out _).mono ?_
    rintro e w1 ⟨a, b, rfl, hs, hb⟩
    have HB0 := Lib.hid hb
    have HS0 := Lib.hid hs
    have CM := Lib.hid (CP.out a b _ hs)
    have CN := Lib.hid (CN0.out a b)
    clear hb hs
    go_wp2_with fail
    refine CM.out.mono ?_
    rintro e w2 ⟨rfl, hb⟩
    have HB1 := Lib.hid (HB0.out.trans (hb.mono HB0.out.size))
    have HS1 := Lib.hid (HS0.out.later hb)
    clear hb CM HB0 HS0
    go_wp2_with fail
    go_loopw [2, 35] (fun xv iv wr => ∃ k : Nat, k ≤ M ∧ iv = .int .i64 k ∧ xv = .int .u32 (nit n t k x : Int) ∧ SF wr a b n t ∧ Below w0.heap.size w0 wr) (fun _ iv _ => M - (intOf iv).toNat)
    case atStart => exact ⟨0, by omega, rfl, rfl, HS1.out, HB1.out⟩
    case round =>
      clear HS1 HB1
      obtain ⟨k, hk, rfl, rfl, hS, hB⟩ := hrel
      have HS := Lib.hid hS
      have HB := Lib.hid hB
      clear hS hB
      by_cases hlt : k < M
      · have CK := Lib.hid (CN.out _ (HL.out k) wr HS.out)
        have E : Hid (nst n t (nit n t k x) = nit n t (k + 1) x) := rfl
        have hki : (k : Int) < (M : Int) := by omega
        generalize nit n t k x = y at *
        generalize nst n t y = z at *
        go_wp2_with fail
        refine CK.out.mono ?_
        rintro e w2 ⟨rfl, m2, rfl⟩
        have HS2 := Lib.hid (HS.out.drewN m2)
        have HB2 := Lib.hid (below_drewN HB.out m2)
        go_wp2
        go_roundw
        case rel => exact ⟨k + 1, by omega, by go_num, by rw [E.out], HS2.out, HB2.out⟩
        case measure => simp [intOf]; omega
      · obtain rfl : k = M := by omega
        go_wp2
        go_ret2
        exact ⟨by rw [← HM.out]; rfl, HB.out⟩
  · have hbqi : ¬ (q : Int) < (B : Int) := by omega
    have CN0 := Lib.hid (fun a b y hy w hs => next_any (a := a) (b := b) (w := w) (x := y) h hy hs)
    clear h hx hq
    go_enter Try.func16, Try.ntmps16
    go_wp2_with fail
    refine C.out.mono ?_
    rintro e w0 ⟨rfl, rfl⟩
    go_wp2_with fail
    refine (CS.out _).mono ?_
    rintro e w1 ⟨a, b, rfl, hs, hb⟩
    have HB1 := Lib.hid hb
    have HS1 := Lib.hid hs
    have CN := Lib.hid (CN0.out a b)
    clear hb hs
    go_wp2_with fail
    go_loopw [2, 35] (fun xv iv wr => ∃ k : Nat, k ≤ B ∧ iv = .int .i64 k ∧ xv = .int .u32 (nit n t k x : Int) ∧ SF wr a b n t ∧ Below w0.heap.size w0 wr) (fun _ iv _ => B - (intOf iv).toNat)
    case atStart => exact ⟨0, by omega, rfl, rfl, HS1.out, HB1.out⟩
    case round =>
      clear HS1 HB1
      obtain ⟨k, hk, rfl, rfl, hS, hB⟩ := hrel
      have HS := Lib.hid hS
      have HB := Lib.hid hB
      clear hS hB
      by_cases hlt : k < B
      · have CK := Lib.hid (CN.out _ (HL.out k) wr HS.out)
        have E : Hid (nst n t (nit n t k x) = nit n t (k + 1) x) := rfl
        have hki : (k : Int) < (B : Int) := by omega
        generalize nit n t k x = y at *
        generalize nst n t y = z at *
        go_wp2_with fail
        refine CK.out.mono ?_
        rintro e w2 ⟨rfl, m2, rfl⟩
        have HS2 := Lib.hid (HS.out.drewN m2)
        have HB2 := Lib.hid (below_drewN HB.out m2)
        go_wp2
        go_roundw
        case rel => exact ⟨k + 1, by omega, by go_num, by rw [E.out], HS2.out, HB2.out⟩
        case measure => simp [intOf]; omega
      · obtain rfl : k = B := by omega
        go_wp2
        go_ret2
        exact ⟨rfl, HB.out⟩
end Go.Proofs.Ytcadpgpenjpdiaa
