/- Vandermonde's sum. -/
import Derived.Test.YtgmbhlkjnamjhaaXm
namespace Go.Proofs.Ytgmbhlkjnamjhaa

/-- Vandermonde's sum, its first i terms. -/
def vs (n m k : Nat) : Nat → Nat
  | 0 => 0
  | i + 1 => vs n m k i + bc n i * bc m (k - i)
theorem vs_zero (m k : Nat) : ∀ i, vs 0 m k (i + 1) = bc m k
  | 0 => by simp [vs, bc_zero]
  | i + 1 => by rw [vs, vs_zero m k i, bc_none]; omega
theorem vs_step (n m k : Nat) : ∀ i, vs (n + 1) m (k + 1) (i + 1) = vs n m (k + 1) (i + 1) + vs n m k i
  | 0 => by simp [vs, bc_zero]
  | i + 1 => by
    rw [vs, vs_step n m k i, vs.eq_2 n m (k + 1) (i + 1), vs.eq_2 n m k i, bc_succ, Nat.add_sub_add_right, Nat.add_mul]
    omega
theorem vandermonde : ∀ (n m k : Nat), vs n m k (k + 1) = bc (n + m) k
  | 0, m, k => by rw [vs_zero, Nat.zero_add]
  | n + 1, m, 0 => by simp [vs, bc_zero]
  | n + 1, m, k + 1 => by
    rw [vs_step, vandermonde n m (k + 1), vandermonde n m k, show n + 1 + m = n + m + 1 by omega, bc_succ]; omega
theorem vs_mono (n m k : Nat) {i j : Nat} (h : i ≤ j) : vs n m k i ≤ vs n m k j := by
  induction j with
  | zero => obtain rfl : i = 0 := by omega
            omega
  | succ j ih =>
    rcases Nat.lt_or_ge j i with h1 | h1
    · obtain rfl : i = j + 1 := by omega
      omega
    · rw [vs]; have := ih h1; omega
end Go.Proofs.Ytgmbhlkjnamjhaa
