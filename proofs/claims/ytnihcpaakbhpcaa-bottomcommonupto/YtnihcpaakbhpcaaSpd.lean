/- slices.nextPowerOfTwo. -/
import Derived.Test.YtnihcpaakbhpcaaLe
import Derived.Test.YtnihcpaakbhpcaaU0
namespace Go.Proofs.Ytnihcpaakbhpcaa
open Go.RowKit Go.Deep

theorem bl_le (x : Nat) (h : x ≤ 17592186044416) (h0 : x ≠ 0) : Lib.bitLen x ≤ 45 ∧ 2 ^ Lib.bitLen x ≤ 2 * x := by
  have h2 : 2 ^ Lib.bitLen x ≤ 2 * x := (bl_pow 64 x (by omega)).2 h0
  refine ⟨?_, h2⟩
  rcases Nat.lt_or_ge (Lib.bitLen x) 46 with h3 | h3
  · omega
  · have := Nat.pow_le_pow_right (show 0 < 2 by omega) h3
    omega
theorem wrap_pow (k n : Nat) (h1 : k ≤ 45) (h2 : 2 ^ k ≤ 2 * n) (h : n ≤ 17592186044416) : IntKind.u64.wrap (2 ^ min k 64) = ((2 ^ k : Nat) : Int) := by
  rw [Nat.min_eq_left (by omega), IntKind.wrap_u64]
  have e : (2 : Int) ^ k = ((2 ^ k : Nat) : Int) := by push_cast; rfl
  rw [e]
  generalize 2 ^ k = m at *
  omega
set_option maxRecDepth 100000 in
set_option maxHeartbeats 2000000 in
theorem len_any (n : Nat) (h : n ≤ 17592186044416) (w : World) :
    Calls Try.prog 59 #[.int .u64 (n : Int)] w fun e w' => e = .returned (.int .i64 (Lib.bitLen n : Int)) ∧ w' = w := by
  have K := Lib.hid (len64_int n (by omega) (by omega) w)
  rw [Int.toNat_natCast] at K
  go_enter Try.func59, Try.ntmps59
  go_wp2_with fail
  refine K.out.mono ?_
  rintro e w1 ⟨rfl, rfl⟩
  go_wp2
  go_ret
  exact ⟨rfl, rfl⟩
set_option maxRecDepth 100000 in
set_option maxHeartbeats 2000000 in
theorem npow_any (n : Nat) (h : n ≤ 17592186044416) (h0 : n ≠ 0) (w : World) :
    Calls Try.prog 82 #[.int .i64 (n : Int)] w fun e w' => ∃ m : Nat, 0 < m ∧ m ≤ 2 * n ∧ e = .returned (.int .u64 (m : Int)) ∧ w' = w := by
  have K := Lib.hid (len_any n h w)
  have HB := Lib.hid (bl_le n h h0)
  generalize Lib.bitLen n = k at *
  go_enter Try.func82, Try.ntmps82
  go_wp2_with fail
  refine K.out.mono ?_
  rintro e w1 ⟨rfl, rfl⟩
  have HW := Lib.hid (wrap_pow k n HB.out.1 HB.out.2 h)
  go_wp2
  go_ret
  exact ⟨2 ^ k, Nat.pos_of_ne_zero (by simp), HB.out.2, by first | (congr 2; exact HW.out) | (rw [← HW.out]; rfl) | (simp only [HW.out]), rfl⟩
end Go.Proofs.Ytnihcpaakbhpcaa
