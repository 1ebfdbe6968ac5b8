import Derived.Test.YtcfiigodefkncaaXs3
/- lotdrawerref.MTurn. -/
namespace Go.Proofs.Ytcfiigodefkncaa
open Go.RowKit Go.Deep

theorem rot_succ (k : Nat) (hk : k < 63) (x : W64) : rot 1 (rot k x) = rot (k + 1) x := by
  rw [rot_add (by omega), Nat.add_comm]
theorem turn_w (x : W64) : IntKind.u64.wrap (IntKind.u64.wrap (2 * (x.toNat : Int)) + (x.toNat : Int) / 9223372036854775808) = ((rot 1 x).toNat : Int) := by
  rw [IntKind.wrap_u64, IntKind.wrap_u64, rot_one]
  omega
set_option maxRecDepth 100000 in
set_option maxHeartbeats 1000000 in
theorem mturn_any (x : W64) (n : Nat) (hn : n ≤ 63) (w : World) : Calls Try.prog 20 #[.int .u64 (x.toNat : Int), .int .i64 n] w fun e w' => e = .returned (.int .u64 ((rot n x).toNat : Int)) ∧ w' = w := by
  go_enter Try.func20, Try.ntmps20
  go_wp2
  go_loop [0, 7] (fun xv iv => ∃ k : Nat, k ≤ n ∧ iv = .int .i64 k ∧ xv = .int .u64 ((rot k x).toNat : Int)) (fun _ iv => n - (intOf iv).toNat)
  case atStart => exact ⟨0, by omega, rfl, by rw [rot_zero]⟩
  case round =>
    obtain ⟨k, hk, rfl, rfl⟩ := hrel
    by_cases hlt : k < n
    · have e1 := turn_w (rot k x)
      rw [rot_succ k (by omega)] at e1
      have hki : (k : Int) < (n : Int) := by omega
      obtain ⟨z, hz⟩ : ∃ z, rot (k + 1) x = z := ⟨_, rfl⟩
      have HZ := Lib.hid hz
      rw [hz] at e1
      clear hz
      generalize rot k x = y at *
      go_wp2
      go_round
      case rel => exact ⟨k + 1, by omega, by go_num, by rw [HZ.out]⟩
      case measure => simp [intOf]; omega
    · obtain rfl : k = n := by omega
      go_wp2
      go_ret
      exact ⟨rfl, rfl⟩
end Go.Proofs.Ytcfiigodefkncaa
