/- bottom.unshift, bottom.Unmix. -/
import Derived.Test.YtnihcpaakbhpcaaG1m
import Derived.LoopN
import Derived.Laws.Bits64
namespace Go.Proofs.Ytnihcpaakbhpcaa
open Go.RowKit Go.Deep

def UnR (k : Nat) (x : W64) (j : Nat) (y : W64) : Prop := (j = k ∧ y = x) ∨ (j = 2 * k ∧ y = shx k x) ∨ (j = 4 * k ∧ y = unsh k x)
theorem UnR.next {k : Nat} (hk : 16 ≤ k) {x : W64} {j : Nat} {y : W64} (h : UnR k x j y) (hj : j < 64) : UnR k x (2 * j) (shx j y) := by
  rcases h with ⟨rfl, rfl⟩ | ⟨rfl, rfl⟩ | ⟨rfl, rfl⟩
  · exact .inr (.inl ⟨rfl, rfl⟩)
  · exact .inr (.inr ⟨by omega, rfl⟩)
  · omega
theorem UnR.done {k : Nat} (hk2 : k < 32) {x : W64} {j : Nat} {y : W64} (h : UnR k x j y) (hj : ¬ j < 64) : y = unsh k x := by
  rcases h with ⟨rfl, rfl⟩ | ⟨rfl, rfl⟩ | ⟨rfl, rfl⟩
  · omega
  · omega
  · rfl

set_option maxRecDepth 100000 in
set_option maxHeartbeats 1000000 in
theorem unshift_any (k : Nat) (hk : 16 ≤ k) (hk2 : k < 32) (x : W64) (w : World) : Calls Try.prog 37 #[.int .u64 (x.toNat : Int), .int .i64 k] w fun e w' => e = .returned (.int .u64 ((unsh k x).toNat : Int)) ∧ w' = w := by
  have H1 := Lib.hid hk
  have H2 := Lib.hid hk2
  clear hk hk2
  go_enter Try.func37, Try.ntmps37
  go_wp2
  go_loop [0, 1] (fun m b => ∃ (j : Nat) (y : W64), m = .int .u64 (y.toNat : Int) ∧ b = .int .i64 j ∧ j < 128 ∧ UnR k x j y) (fun _ b => 128 - (intOf b).toNat)
  case atStart => exact ⟨k, x, rfl, rfl, by have := H2.out; omega, .inl ⟨rfl, rfl⟩⟩
  case round =>
    obtain ⟨j, y, rfl, rfl, hj, hR⟩ := hrel
    have HR := Lib.hid hR
    clear hR
    by_cases hlt : j < 64
    · have e1 := shx_w y j (2 ^ j) (by norm_cast)
      have HN := Lib.hid (HR.out.next H1.out hlt)
      have hj0 : 0 < j := by have := H1.out; rcases HR.out with ⟨rfl, _⟩ | ⟨rfl, _⟩ | ⟨rfl, _⟩ <;> omega
      obtain ⟨z, hz⟩ : ∃ z, shx j y = z := ⟨_, rfl⟩
      rw [hz] at e1 HN
      clear hz
      go_wp2
      go_round
      case rel => exact ⟨2 * j, z, rfl, by go_num, by omega, HN.out⟩
      case measure => simp [intOf]; omega
    · obtain rfl := HR.out.done H2.out hlt
      go_wp2
      go_ret
      exact ⟨rfl, rfl⟩

set_option maxRecDepth 100000 in
set_option maxHeartbeats 1000000 in
theorem unmix_any (x : W64) (w : World) : Calls Try.prog 12 #[.int .u64 (x.toNat : Int)] w fun e w' => e = .returned (.int .u64 ((unmix x).toNat : Int)) ∧ w' = w := by
  have HC := Lib.hid (unshift_any 31 (by decide) (by decide) x w)
  have e1 := mulK_w (unsh 31 x) D2 3573116690164977347 rfl
  obtain ⟨y, hy⟩ : ∃ y, unsh 31 x * D2 = y := ⟨_, rfl⟩
  rw [hy] at e1
  have HC2 := Lib.hid (unshift_any 27 (by decide) (by decide) y w)
  have e2 := mulK_w (unsh 27 y) D1 10871156337175269513 rfl
  obtain ⟨z, hz⟩ : ∃ z, unsh 27 y * D1 = z := ⟨_, rfl⟩
  rw [hz] at e2
  have HC3 := Lib.hid (unshift_any 30 (by decide) (by decide) z w)
  have HE : Hid (unmix x = unsh 30 z) := by show _ = _; unfold unmix; rw [hy, hz]
  rw [HE.out]
  clear hy hz
  go_enter Try.func12, Try.ntmps12
  go_wp2_with fail
  refine HC.out.mono ?_
  rintro e w1 ⟨rfl, rfl⟩
  go_wp2_with fail
  refine HC2.out.mono ?_
  rintro e w1 ⟨rfl, rfl⟩
  go_wp2_with fail
  refine HC3.out.mono ?_
  rintro e w1 ⟨rfl, rfl⟩
  go_wp2
  go_ret
  exact ⟨rfl, rfl⟩
end Go.Proofs.Ytnihcpaakbhpcaa
