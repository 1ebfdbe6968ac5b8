/- lfsr.Step and Back. -/
import Derived.Test.YtcadpgpenjpdiaaXl4
namespace Go.Proofs.Ytcadpgpenjpdiaa
open Go.RowKit Go.Deep

theorem xor_u32 (a b : Nat) (ha : a < 4294967296) (hb : b < 4294967296) : bits .xor .u32 (a : Int) (b : Int) = ((a ^^^ b : Nat) : Int) := by
  have hx : a ^^^ b < 2 ^ 32 := Nat.xor_lt_two_pow (by omega) (by omega)
  have h1 : (BitVec.ofInt 32 (a : Int)).toNat = a := by
    rw [BitVec.ofInt_natCast, BitVec.toNat_ofNat]; exact Nat.mod_eq_of_lt (by omega)
  have h2 : (BitVec.ofInt 32 (b : Int)).toNat = b := by
    rw [BitVec.ofInt_natCast, BitVec.toNat_ofNat]; exact Nat.mod_eq_of_lt (by omega)
  show IntKind.u32.wrap ((BitVec.ofInt 32 (a : Int) ^^^ BitVec.ofInt 32 (b : Int)).toNat : Int) = _
  rw [BitVec.toNat_xor, h1, h2, IntKind.wrap_u32]
  omega
theorem par_32 {n t : Nat} (h : NR n t) (x : Nat) : par t x 32 = par t x n := by
  have := par_more x h.top (32 - n)
  rwa [show n + (32 - n) = 32 by have := h.hi; omega] at this
theorem par_succ (t x k : Nat) : par t x (k + 1) = (par t x k ^^ (x.testBit k && t.testBit k)) := rfl
/-- The state ahead of x. -/
def bkn (n t x : Nat) : Nat := 2 ^ (n - 1) * (par t (x / 2) 32 ^^ x.testBit 0).toNat + x / 2
theorem bkn_lt {n t x : Nat} (h : NR n t) (hx : x < 2 ^ n) : bkn n t x < 2 ^ n := by
  obtain ⟨k, hk⟩ : ∃ k, n = k + 1 := ⟨n - 1, by have := h.lo; omega⟩
  unfold bkn
  rw [hk] at hx ⊢
  rw [Nat.add_sub_cancel, Nat.pow_succ] at *
  have h1 := Bool.toNat_le (par t (x / 2) 32 ^^ x.testBit 0)
  have h2 : 2 ^ k * (par t (x / 2) 32 ^^ x.testBit 0).toNat ≤ 2 ^ k * 1 := Nat.mul_le_mul_left _ h1
  omega
theorem nst_bkn {n t x : Nat} (h : NR n t) (hx : x < 2 ^ n) : nst n t (bkn n t x) = x := by
  have hn := h.lo
  have hbit := h.bit
  have h32 := par_32 h (x / 2)
  obtain ⟨k, hk⟩ : ∃ k, n = k + 1 := ⟨n - 1, by omega⟩
  have hx2 : x / 2 < 2 ^ k := by rw [hk, Nat.pow_succ] at hx; omega
  have e : bkn n t x = 2 ^ k * (par t (x / 2) 32 ^^ x.testBit 0).toNat + x / 2 := by unfold bkn; rw [hk, Nat.add_sub_cancel]
  obtain ⟨b, hb⟩ : ∃ b, (par t (x / 2) 32 ^^ x.testBit 0) = b := ⟨_, rfl⟩
  rw [hb] at e
  have hlow : ∀ j, j < k → (bkn n t x).testBit j = (x / 2).testBit j := fun j hj => by
    rw [e, Nat.testBit_two_pow_mul_add _ hx2, if_pos hj]
  have htop : (bkn n t x).testBit k = b := by
    rw [e, Nat.testBit_two_pow_mul_add _ hx2, if_neg (by omega), Nat.sub_self]
    cases b <;> rfl
  have htb : t.testBit k = true := by rw [hk, Nat.add_sub_cancel] at hbit; exact hbit
  apply Nat.eq_of_testBit_eq
  intro i
  rw [nst_bits hn]
  by_cases hi : i = 0
  · rw [if_pos hi, hi]
    rw [hk] at h32 ⊢
    rw [hk] at hlow htop
    rw [par_succ t (x / 2) k] at h32
    rw [par_succ]
    rw [par_congr hlow, htop, htb, ← hb, h32, Nat.testBit_lt_two_pow hx2]
    cases par t (x / 2) k <;> cases x.testBit 0 <;> rfl
  · rw [if_neg hi]
    by_cases h2 : i < n
    · rw [decide_eq_true h2, Bool.true_and, hlow _ (by omega), Nat.testBit_div_two, show i - 1 + 1 = i by omega]
    · rw [decide_eq_false h2, Bool.false_and, Nat.testBit_lt_two_pow (Nat.lt_of_lt_of_le hx (Nat.pow_le_pow_right (by decide) (by omega)))]
theorem bkn_nst {n t x : Nat} (h : NR n t) (hx : x < 2 ^ n) : bkn n t (nst n t x) = x :=
  nst_inj h (bkn_lt h (nst_lt h.lo t x)) hx (nst_bkn h (nst_lt h.lo t x))
theorem bkn_parts {n t x : Nat} (h : NR n t) (hx : x < 2 ^ n) : bkn n t x = ((par t (x / 2) 32).toNat ^^^ x % 2) * 2 ^ (n - 1) ||| x / 2 := by
  obtain ⟨k, hk⟩ : ∃ k, n = k + 1 := ⟨n - 1, by have := h.lo; omega⟩
  have hx2 : x / 2 < 2 ^ (n - 1) := by rw [hk, Nat.pow_succ] at hx; rw [hk, Nat.add_sub_cancel]; omega
  unfold bkn
  rw [Nat.two_pow_add_eq_or_of_lt hx2, Nat.mul_comm]
  congr 2
  rw [Nat.testBit_zero]
  rcases Nat.mod_two_eq_zero_or_one x with h0 | h0 <;> rw [h0] <;> cases par t (x / 2) 32 <;> rfl

set_option maxRecDepth 100000 in
set_option maxHeartbeats 1000000 in
theorem step_bad {n : Int} {t x : Nat} (ht : t < 4294967296) (hx : x < 4294967296) (h : ¬ OKh n t x) (w : World) : Calls Try.prog 9 #[.int .i64 n, .int .u32 (t : Int), .int .u32 (x : Int)] w fun e w' => e = .returned (.tuple #[.int .u32 0, .int .i64 1]) ∧ w' = w := by
  have C := Lib.hid (holds_any n t x ht hx w)
  rw [decide_eq_false h] at C
  clear h
  go_enter Try.func9, Try.ntmps9
  go_wp2_with fail
  refine C.out.mono ?_
  rintro e w1 ⟨rfl, rfl⟩
  go_wp2
  go_ret2
  exact ⟨rfl, rfl⟩
set_option maxRecDepth 100000 in
set_option maxHeartbeats 1000000 in
theorem step_ok {n t x : Nat} (h : NR n t) (hx : x < 2 ^ n) (w : World) : Calls Try.prog 9 #[.int .i64 (n : Int), .int .u32 (t : Int), .int .u32 (x : Int)] w fun e w' => e = .returned (.tuple #[.int .u32 (nst n t x : Int), .int .i64 0]) ∧ Below w.heap.size w w' := by
  have C := Lib.hid (holds_any n t x h.taps (by have := h.state hx; omega) w)
  rw [decide_eq_true (h.okh hx)] at C
  have CS := Lib.hid (stepper_any h)
  have CN := Lib.hid (fun a b w hs => next_any (a := a) (b := b) (w := w) h hx hs)
  have hen := enters_step
  unfold sfv at CS
  clear h hx
  go_enter Try.func9, Try.ntmps9
  go_wp2_with fail
  refine C.out.mono ?_
  rintro e w1 ⟨rfl, rfl⟩
  go_wp2_with fail
  refine (CS.out _).mono ?_
  rintro e w1 ⟨a, b, rfl, hs, hb⟩
  have HB := Lib.hid hb
  have CM := Lib.hid (CN.out _ _ _ hs)
  clear hb hs
  go_wp2_with fail
  refine CM.out.mono ?_
  rintro e w2 ⟨rfl, m, rfl⟩
  have HB2 := Lib.hid (below_drewN HB.out m)
  go_wp2
  go_ret2
  exact ⟨rfl, HB2.out⟩

set_option maxRecDepth 100000 in
set_option maxHeartbeats 1000000 in
theorem back_bad {n : Int} {t x : Nat} (ht : t < 4294967296) (hx : x < 4294967296) (h : ¬ OKh n t x) (w : World) : Calls Try.prog 10 #[.int .i64 n, .int .u32 (t : Int), .int .u32 (x : Int)] w fun e w' => e = .returned (.tuple #[.int .u32 0, .int .i64 1]) ∧ w' = w := by
  have C := Lib.hid (holds_any n t x ht hx w)
  rw [decide_eq_false h] at C
  clear h
  go_enter Try.func10, Try.ntmps10
  go_wp2_with fail
  refine C.out.mono ?_
  rintro e w1 ⟨rfl, rfl⟩
  go_wp2
  go_ret2
  exact ⟨rfl, rfl⟩
set_option maxRecDepth 100000 in
set_option maxHeartbeats 1000000 in
theorem back_ok {n t x : Nat} (h : NR n t) (hx : x < 2 ^ n) (w : World) : Calls Try.prog 10 #[.int .i64 (n : Int), .int .u32 (t : Int), .int .u32 (x : Int)] w fun e w' => e = .returned (.tuple #[.int .u32 (bkn n t x : Int), .int .i64 0]) ∧ Below w.heap.size w w' := by
  have hxs := h.state hx
  have C := Lib.hid (holds_any n t x h.taps (by omega) w)
  rw [decide_eq_true (h.okh hx)] at C
  have CF := Lib.hid (fed_any t (x / 2) h.taps (by omega) w)
  have e0 : (x : Int) / 2 = ((x / 2 : Nat) : Int) := by omega
  have e1 := and1 x (by omega)
  have hp := Bool.toNat_le (par t (x / 2) 32)
  have e2 := xor_u32 (par t (x / 2) 32).toNat (x % 2) (by omega) (by omega)
  obtain ⟨k, hk⟩ : ∃ k, n = k + 1 := ⟨n - 1, by have := h.lo; omega⟩
  have hki : (n : Int) - 1 = (k : Int) := by omega
  have hk19 : k ≤ 19 := by have := h.hi; omega
  obtain ⟨q, hq, hq1, hq2, hqi⟩ := pow20 (n := k) (by omega)
  have E := Lib.hid (bkn_parts h hx)
  rw [show n - 1 = k by omega, hq] at E
  have hz : (par t (x / 2) 32).toNat ^^^ x % 2 < 2 ^ 1 := Nat.xor_lt_two_pow (by omega) (by omega)
  have hzq : ((par t (x / 2) 32).toNat ^^^ x % 2) * q ≤ 1 * q := Nat.mul_le_mul_right _ (by omega)
  have e3 := or_u32 (((par t (x / 2) 32).toNat ^^^ x % 2) * q) (x / 2) (by omega) (by omega)
  rw [← E.out] at e3
  have e4 : (((par t (x / 2) 32).toNat ^^^ x % 2 : Nat) : Int) * (q : Int) = ((((par t (x / 2) 32).toNat ^^^ x % 2) * q : Nat) : Int) := by norm_cast
  have e5 : IntKind.u32.wrap (((((par t (x / 2) 32).toNat ^^^ x % 2) * q : Nat) : Int)) = ((((par t (x / 2) 32).toNat ^^^ x % 2) * q : Nat) : Int) := by rw [IntKind.wrap_u32]; omega
  clear E h hx hk hq
  generalize ((par t (x / 2) 32).toNat ^^^ x % 2) * q = zq at *
  generalize (par t (x / 2) 32).toNat ^^^ x % 2 = z at *
  generalize (par t (x / 2) 32).toNat = p at *
  generalize bkn n t x = r at *
  generalize x % 2 = x0 at *
  generalize x / 2 = y at *
  have HB : Hid (∀ m, Below w.heap.size w (w.drewN m)) := fun m => below_drewN (Below.refl w.heap.size w) m
  go_enter Try.func10, Try.ntmps10
  go_wp2_with fail
  refine C.out.mono ?_
  rintro e w1 ⟨rfl, rfl⟩
  go_wp2_with fail
  refine CF.out.mono ?_
  rintro e w1 ⟨rfl, m, rfl⟩
  go_wp2
  go_ret2
  exact ⟨rfl, HB.out m⟩
end Go.Proofs.Ytcadpgpenjpdiaa
