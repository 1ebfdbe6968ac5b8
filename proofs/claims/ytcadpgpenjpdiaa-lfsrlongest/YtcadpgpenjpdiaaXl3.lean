/- lfsr.stepper and its closure. -/
import Derived.Test.YtcadpgpenjpdiaaXl2
namespace Go.Proofs.Ytcadpgpenjpdiaa
open Go.RowKit Go.Deep

theorem NR.taps {n t : Nat} (h : NR n t) : t < 4294967296 := by
  have h1 := h.top
  have h2 : 2 ^ n ≤ 2 ^ 20 := Nat.pow_le_pow_right (by decide) h.hi
  omega
theorem NR.state {n t x : Nat} (h : NR n t) (hx : x < 2 ^ n) : x ≤ 1048575 := by
  have h2 : 2 ^ n ≤ 2 ^ 20 := Nat.pow_le_pow_right (by decide) h.hi
  omega
theorem nst_parts {n t x : Nat} (h : NR n t) : nst n t x = (2 * x &&& (2 ^ n - 1)) ||| (par t x 32).toNat := by
  have e : par t x 32 = par t x n := by
    have := par_more x h.top (32 - n)
    rwa [show n + (32 - n) = 32 by have := h.hi; omega] at this
  rw [e, Nat.and_two_pow_sub_one_eq_mod]
  unfold nst
  obtain ⟨k, hk⟩ : ∃ k, n = k + 1 := ⟨n - 1, by have := h.lo; omega⟩
  rw [hk]
  have h1 : 2 * x % 2 ^ (k + 1) = 2 ^ 1 * (x % 2 ^ k) := by rw [Nat.pow_succ, Nat.mul_comm (2 ^ k) 2, Nat.mul_mod_mul_left]
  rw [h1]
  exact Nat.two_pow_add_eq_or_of_lt (by have := Bool.toNat_le (par t x (k + 1)); omega) _

/-- The function value v leads from each state to the next. -/
def SF (w : World) (a b n t : Nat) : Prop := w.cell? ⟨a, 0, none⟩ = some (.int .u32 ((2 ^ n - 1 : Nat) : Int)) ∧ w.cell? ⟨b, 0, none⟩ = some (.int .u32 (t : Int)) ∧ a < w.heap.size ∧ b < w.heap.size
theorem SF.later {w w' : World} {a b n t : Nat} (h : SF w a b n t) (hb : Below w.heap.size w w') : SF w' a b n t :=
  ⟨(hb.cell (p := ⟨a, 0, none⟩) h.2.2.1).trans h.1, (hb.cell (p := ⟨b, 0, none⟩) h.2.2.2).trans h.2.1, Nat.lt_of_lt_of_le h.2.2.1 hb.size, Nat.lt_of_lt_of_le h.2.2.2 hb.size⟩
theorem SF.drewN {w : World} {a b n t : Nat} (h : SF w a b n t) (m : Nat) : SF (w.drewN m) a b n t := h.later (below_drewN (Below.refl _ _) m)
/-- The function value. -/
def sfv (a b : Nat) : Value := .func (.func 24) #[] #[.pointer (some ⟨a, 0, none⟩), .pointer (some ⟨b, 0, none⟩)]

theorem enters_step (args : Array Value) (w : World) : (callFunc 24 args).run Try.prog w = .ok (.enter 24 args) w := enters_of Try.func24 (by kernel_rfl) rfl args w
set_option maxRecDepth 100000 in
set_option maxHeartbeats 1000000 in
theorem next_any {n t x : Nat} (h : NR n t) (hx : x < 2 ^ n) (a b : Nat) (w : World) (hs : SF w a b n t) : Calls Try.prog 24 #[.int .u32 (x : Int), .pointer (some ⟨a, 0, none⟩), .pointer (some ⟨b, 0, none⟩)] w fun e w' => e = .returned (.int .u32 (nst n t x : Int)) ∧ ∃ m, w' = w.drewN m := by
  have hxs := h.state hx
  have C := fed_any t x h.taps (by omega)
  have E := Lib.hid (nst_parts (x := x) h)
  have hq : 2 ^ n - 1 < 4294967296 := by
    have h2 : 2 ^ n ≤ 2 ^ 20 := Nat.pow_le_pow_right (by decide) h.hi
    omega
  have e1 := and_u32 (2 * x) (2 ^ n - 1) (by omega) hq
  have hy : 2 * x &&& (2 ^ n - 1) < 4294967296 := by have := Nat.and_lt_two_pow (n := 32) (2 * x) (show 2 ^ n - 1 < 2 ^ 32 by omega); omega
  have e2 := or_u32 (2 * x &&& (2 ^ n - 1)) (par t x 32).toNat hy (by have := Bool.toNat_le (par t x 32); omega)
  obtain ⟨c0, c1, -, -⟩ := hs
  rw [show ((2 * x : Nat) : Int) = (x : Int) * 2 by omega] at e1
  rw [← E.out] at e2
  clear E h hx hq
  generalize nst n t x = r at *
  generalize (par t x 32).toNat = p at *
  generalize 2 * x &&& (2 ^ n - 1) = y at *
  generalize 2 ^ n - 1 = q at *
  go_enter Try.func24, Try.ntmps24
  go_wp2_with fail
  go_quiet (first | (go_at_call 21; exact Calls.quiet_of (C _)))
  go_wp2
  go_ret
  exact ⟨rfl, nq, rfl⟩
end Go.Proofs.Ytcadpgpenjpdiaa
