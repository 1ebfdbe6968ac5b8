/- Who owns a draw, walked part by part. -/
import Derived.Test.YtkcgcojhgcfgmaaLk
namespace Go.Proofs.Ytkcgcojhgcfgmaa

/-- None of the first k owns n. -/
def NoOwn (S : List Int) (n : Int) (k : Nat) : Prop := ∀ j, j < k → ¬ (pre S j ≤ n ∧ n < pre S (j + 1))
theorem NoOwn.step {S : List Int} {n : Int} {k : Nat} (h : NoOwn S n k) (hk : ¬ (pre S k ≤ n ∧ n < pre S (k + 1))) : NoOwn S n (k + 1) := fun j hj => by
  by_cases e : j = k
  · subst e; exact hk
  · exact h j (by omega)
theorem own_hit {S : List Int} {n : Int} {k : Nat} (hS : WF S) (hk : k < S.length) (h : pre S k ≤ n ∧ n < pre S (k + 1)) : fnd S n = ((k : Int), 0) := fnd_hit (pk_in hS hk h.1 h.2)
theorem own_none {S : List Int} {n : Int} (hS : WF S) (h : NoOwn S n S.length) : fnd S n = (0, 3) := by
  rcases pk_cases hS n with ⟨h1, _⟩ | ⟨k, _, h2, h3, h4, _⟩
  · exact fnd_miss h1
  · exact absurd ⟨h3, h4⟩ (h k h2)
theorem sg_pre {N D : Int} {W : List Int} {k : Nat} (h : k < W.length) : pre (sgL N D W) (k + 1) = pre (sgL N D W) k + sgF N D (W.getD k 0) := by
  rw [pre_succ (by rw [sgL_len]; exact h), sgL_at h]
end Go.Proofs.Ytkcgcojhgcfgmaa
