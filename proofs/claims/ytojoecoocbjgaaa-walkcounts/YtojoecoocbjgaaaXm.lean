/- Combinations: the mathematics of package combo: binomial coefficients, ranks, the combination of a rank, the successor, the complement. -/
import Derived.Test.YtojoecoocbjgaaaTe
namespace Go.Proofs.Ytojoecoocbjgaaa

/-- The binomial coefficient. -/
def bc : Nat → Nat → Nat
  | _, 0 => 1
  | 0, _ + 1 => 0
  | n + 1, k + 1 => bc n k + bc n (k + 1)
theorem bc_zero (n : Nat) : bc n 0 = 1 := by cases n <;> rfl
theorem bc_none (k : Nat) : bc 0 (k + 1) = 0 := rfl
theorem bc_succ (n k : Nat) : bc (n + 1) (k + 1) = bc n k + bc n (k + 1) := rfl
theorem bc_gt : ∀ {n k : Nat}, n < k → bc n k = 0
  | 0, 0, h => absurd h (by omega)
  | 0, _ + 1, _ => rfl
  | _ + 1, 0, h => absurd h (by omega)
  | n + 1, k + 1, h => by rw [bc_succ, bc_gt (by omega), bc_gt (by omega)]
theorem bc_pos : ∀ {n k : Nat}, k ≤ n → 0 < bc n k
  | n, 0, _ => by rw [bc_zero]; omega
  | 0, _ + 1, h => absurd h (by omega)
  | n + 1, k + 1, h => by rw [bc_succ]; have := bc_pos (n := n) (k := k) (by omega); omega
theorem bc_self : ∀ n : Nat, bc n n = 1
  | 0 => rfl
  | n + 1 => by rw [bc_succ, bc_self n, bc_gt (by omega)]
theorem le_of_bc {n k r : Nat} (h : r < bc n k) : k ≤ n := by
  rcases Nat.lt_or_ge n k with h1 | h1
  · rw [bc_gt h1] at h; omega
  · exact h1
theorem bc_mono1 (n k : Nat) : bc n k ≤ bc (n + 1) k := by
  cases k with
  | zero => rw [bc_zero, bc_zero]; omega
  | succ k => rw [bc_succ]; omega
theorem bc_mono {n m : Nat} (h : n ≤ m) (k : Nat) : bc n k ≤ bc m k := by
  induction m with
  | zero => obtain rfl : n = 0 := by omega
            omega
  | succ m ih =>
    rcases Nat.lt_or_ge m n with h1 | h1
    · obtain rfl : n = m + 1 := by omega
      omega
    · exact Nat.le_trans (ih h1) (bc_mono1 m k)
/-- (k + 1) C(n + 1, k + 1) = (n + 1) C(n, k). -/
theorem bc_mul : ∀ n k : Nat, (k + 1) * bc (n + 1) (k + 1) = (n + 1) * bc n k
  | n, 0 => by
    induction n with
    | zero => rfl
    | succ n ih => rw [bc_succ, bc_zero] at ih ⊢; rw [bc_succ, bc_zero]; omega
  | 0, k + 1 => by rw [bc_succ, bc_none, bc_none]; omega
  | n + 1, k + 1 => by
    have h1 := bc_mul n k
    have h2 := bc_mul n (k + 1)
    rw [bc_succ]
    have e : (n + 1 + 1) * bc (n + 1) (k + 1) = (n + 1) * bc n k + (n + 1) * bc n (k + 1) + bc (n + 1) (k + 1) := by
      rw [bc_succ]; grind
    rw [e, ← h1, ← h2]
    grind
/-- C(n, i + 1) = C(n, i) (n - i) / (i + 1). -/
theorem bc_step (n i : Nat) : bc n i * (n - i) = bc n (i + 1) * (i + 1) := by
  rcases Nat.lt_or_ge n i with h | h
  · rw [bc_gt h, bc_gt (by omega)]; omega
  · have h1 := bc_mul n i
    rw [bc_succ] at h1
    obtain ⟨d, rfl⟩ : ∃ d, n = i + d := ⟨n - i, by omega⟩
    rw [Nat.add_sub_cancel_left]
    grind
theorem bc_div (n i : Nat) : bc n i * (n - i) / (i + 1) = bc n (i + 1) := by
  rw [bc_step]; exact Nat.mul_div_cancel _ (by omega)
theorem bc_symm : ∀ {n k : Nat}, k ≤ n → bc n (n - k) = bc n k
  | 0, k, h => by obtain rfl : k = 0 := by omega
                  rfl
  | n + 1, 0, _ => by rw [Nat.sub_zero, bc_self, bc_zero]
  | n + 1, k + 1, h => by
    rw [Nat.add_sub_add_right, bc_succ]
    rcases Nat.lt_or_ge k n with h1 | h1
    · have e : n - k = (n - (k + 1)) + 1 := by omega
      have i1 := bc_symm (n := n) (k := k) (by omega)
      have i2 := bc_symm (n := n) (k := k + 1) (by omega)
      rw [e] at i1 ⊢
      rw [bc_succ, i1, i2]; omega
    · obtain rfl : k = n := by omega
      rw [Nat.sub_self, bc_zero, bc_self, bc_gt (by omega)]

/-- A row of the triangle. -/
def pnext : Nat → List Nat → List Nat
  | a, [] => [a]
  | a, x :: t => (a + x) :: pnext x t
def prow : Nat → List Nat
  | 0 => [1]
  | n + 1 => pnext 0 (prow n)
theorem pnext_len (l : List Nat) : ∀ a, (pnext a l).length = l.length + 1 := by
  induction l with
  | nil => intro a; rfl
  | cons x t ih => intro a; simp [pnext, ih]
theorem pnext_zero (l : List Nat) (a : Nat) : (pnext a l).getD 0 0 = a + l.getD 0 0 := by cases l <;> simp [pnext]
theorem pnext_at (l : List Nat) : ∀ a k, (pnext a l).getD (k + 1) 0 = l.getD k 0 + l.getD (k + 1) 0 := by
  induction l with
  | nil => intro a k; simp [pnext]
  | cons x t ih =>
    intro a k
    cases k with
    | zero => simp only [pnext]; rw [List.getD_cons_succ, pnext_zero]; simp
    | succ k => simp only [pnext]; rw [List.getD_cons_succ, ih]; simp
theorem prow_len : ∀ n, (prow n).length = n + 1
  | 0 => rfl
  | n + 1 => by rw [prow, pnext_len, prow_len]
theorem prow_at : ∀ n k, (prow n).getD k 0 = bc n k
  | 0, 0 => rfl
  | 0, k + 1 => by simp [prow, bc_none]
  | n + 1, 0 => by rw [prow, pnext_zero, prow_at n 0, bc_zero, bc_zero]
  | n + 1, k + 1 => by rw [prow, pnext_at, prow_at, prow_at, bc_succ]

theorem bc60 : ∀ k, k < 61 → (prow 60).getD k 0 ≤ 118264581564861424 := by decide +kernel
theorem bc_big {n : Nat} (h : n ≤ 60) (k : Nat) : bc n k ≤ 118264581564861424 := by
  refine Nat.le_trans (bc_mono h k) ?_
  rcases Nat.lt_or_ge k 61 with h1 | h1
  · rw [← prow_at]; exact bc60 k h1
  · rw [bc_gt (by omega)]; omega
end Go.Proofs.Ytojoecoocbjgaaa
