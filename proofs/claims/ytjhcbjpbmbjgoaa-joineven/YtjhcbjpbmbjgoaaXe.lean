/- All combinations of k out of n, in their order. -/
import Derived.Test.YtjhcbjpbmbjgoaaXn
namespace Go.Proofs.Ytjhcbjpbmbjgoaa

def eall : Nat → Nat → List (List Nat)
  | 0, _ => [[]]
  | _ + 1, 0 => []
  | k + 1, n + 1 => eall (k + 1) n ++ (eall k n).map (· ++ [n])
theorem eall_zero (n : Nat) : eall 0 n = [[]] := by cases n <;> rfl
theorem eall_none (k : Nat) : eall (k + 1) 0 = [] := rfl
theorem eall_succ (k n : Nat) : eall (k + 1) (n + 1) = eall (k + 1) n ++ (eall k n).map (· ++ [n]) := rfl
theorem eall_len : ∀ (n k : Nat), (eall k n).length = bc n k
  | n, 0 => by rw [eall_zero, bc_zero]; rfl
  | 0, k + 1 => by rw [eall_none, bc_none]; rfl
  | n + 1, k + 1 => by rw [eall_succ, List.length_append, List.length_map, eall_len n (k + 1), eall_len n k, bc_succ]; omega
theorem eall_few {n k : Nat} (h : n < k) : eall k n = [] := List.eq_nil_of_length_eq_zero (by rw [eall_len, bc_gt h])
theorem eall_at : ∀ (n k : Nat) {i : Nat}, i < bc n k → (eall k n).getD i [] = atC n k i
  | n, 0, i, h => by
    rw [bc_zero] at h
    obtain rfl : i = 0 := by omega
    rw [eall_zero, atC_zero]; rfl
  | 0, k + 1, i, h => by rw [bc_none] at h; omega
  | n + 1, k + 1, i, h => by
    rw [bc_succ] at h
    rw [eall_succ]
    rcases Nat.lt_or_ge i (bc n (k + 1)) with h1 | h1
    · rw [atC_miss h1, ← eall_at n (k + 1) h1, List.getD_eq_getElem?_getD, List.getElem?_append_left (by rw [eall_len]; exact h1), List.getD_eq_getElem?_getD]
    · have h2 : i - bc n (k + 1) < bc n k := by omega
      rw [atC_hit h1, ← eall_at n k h2, List.getD_eq_getElem?_getD, List.getElem?_append_right (by rw [eall_len]; exact h1), eall_len, List.getElem?_map, List.getD_eq_getElem?_getD, List.getElem?_eq_getElem (by rw [eall_len]; exact h2)]
      rfl
theorem bc9 : ∀ k, k < 10 → (prow 9).getD k 0 ≤ 126 := by decide +kernel
theorem bc_few {n : Nat} (h : n ≤ 9) (k : Nat) : bc n k ≤ 126 := by
  refine Nat.le_trans (bc_mono h k) ?_
  rcases Nat.lt_or_ge k 10 with h1 | h1
  · rw [← prow_at]; exact bc9 k h1
  · rw [bc_gt (by omega)]; omega
end Go.Proofs.Ytjhcbjpbmbjgoaa
