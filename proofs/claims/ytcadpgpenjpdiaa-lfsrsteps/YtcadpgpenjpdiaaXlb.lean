/- lotdrawerref.NStep and NPeriod. -/
import Derived.Test.YtcadpgpenjpdiaaXla
import Derived.Test.YtcadpgpenjpdiaaXl3
namespace Go.Proofs.Ytcadpgpenjpdiaa
open Go.RowKit Go.Deep

set_option maxRecDepth 100000 in
set_option maxHeartbeats 2000000 in
theorem nstep_any {n t x : Nat} (h : NR n t) (hx : x < 2 ^ n) (w : World) : Calls Try.prog 14 #[.int .i64 (n : Int), .int .u32 (t : Int), .int .u32 (x : Int)] w fun e w' => e = .returned (.int .u32 (nst n t x : Int)) ∧ w' = w := by
  have hxs := h.state hx
  have hts : t ≤ 1048575 := by
    have h2 : 2 ^ n ≤ 2 ^ 20 := Nat.pow_le_pow_right (by decide) h.hi
    have := h.top
    omega
  have hn20 := h.hi
  have E : Hid (nst n t x = 2 * x % 2 ^ n + (par t x n).toNat) := rfl
  obtain ⟨q, hq, hq1, hq2, hqi⟩ := pow20 (n := n) hn20
  rw [hq] at E
  have hbit : ∀ (y k : Nat), (((y / 2 ^ k : Nat) : Int) % 2 == 1) = y.testBit k := fun y k => by
    rw [Nat.testBit_eq_decide_div_mod_eq, Bool.eq_iff_iff, beq_iff_eq, decide_eq_true_iff]
    omega
  have HBIT := Lib.hid hbit
  clear h hx hq hbit
  go_enter Try.func14, Try.ntmps14
  go_wp2_with fail
  go_loop [7, 10] (fun ov iv => ∃ k : Nat, k ≤ n ∧ iv = .int .i64 k ∧ ov = .int .u32 ((par t x k).toNat : Int)) (fun _ iv => n - (intOf iv).toNat)
  case atStart => exact ⟨0, by omega, rfl, rfl⟩
  case round =>
    obtain ⟨k, hk, rfl, rfl⟩ := hrel
    by_cases hlt : k < n
    · have hki : (k : Int) < (n : Int) := by omega
      obtain ⟨r, hr, hr1, hr2, hri⟩ := pow20 (n := k) (by omega)
      have b1 := HBIT.out x k
      have b2 := HBIT.out t k
      rw [hr] at b1 b2
      have d1 : (x : Int) / (r : Int) = ((x / r : Nat) : Int) := by norm_cast
      have d2 : (t : Int) / (r : Int) = ((t / r : Nat) : Int) := by norm_cast
      have EP : Hid (par t x (k + 1) = (par t x k ^^ (x.testBit k && t.testBit k))) := rfl
      clear E
      have hk32 : k ≤ 32 := by omega
      clear hr
      generalize x / r = x' at *
      generalize t / r = t' at *
      generalize x.testBit k = bx at *
      generalize t.testBit k = bt at *
      generalize par t x k = bp at *
      cases bx <;> cases bt <;> cases bp <;> simp only [Bool.toNat_false, Bool.toNat_true, Bool.and_true, Bool.and_false, Bool.and_self, Bool.false_and, Bool.true_and, Bool.xor_false, Bool.xor_true, Bool.not_true, Bool.not_false] at EP ⊢ <;> (
        go_wp2
        go_round
        case rel => exact ⟨k + 1, by omega, by go_num, by rw [EP.out]; rfl⟩
        case measure => simp [intOf]; omega)
    · obtain rfl : k = n := by omega
      have hp := Bool.toNat_le (par t x k)
      have e5 : (x : Int) * 2 % (q : Int) = ((2 * x % q : Nat) : Int) := by rw [Nat.mul_comm]; norm_cast
      have hy := Nat.mod_lt (2 * x) hq1
      generalize 2 * x % q = y at *
      generalize (par t x k).toNat = p at *
      go_wp2
      go_ret
      exact ⟨retI (by rw [E.out]; omega), rfl⟩
end Go.Proofs.Ytcadpgpenjpdiaa
