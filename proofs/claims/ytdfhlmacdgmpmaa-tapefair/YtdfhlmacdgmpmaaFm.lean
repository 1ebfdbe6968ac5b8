/- The counting of TapeFair. -/
import Derived.Test.YtdfhlmacdgmpmaaT9
namespace Go.Proofs.Ytdfhlmacdgmpmaa
open Go.RowKit Go.Deep

/-- How many bits are set. -/
def cnt : List Bool → Nat
  | [] => 0
  | b :: t => b.toNat + cnt t
theorem cnt_append (a b : List Bool) : cnt (a ++ b) = cnt a + cnt b := by
  induction a with
  | nil => simp [cnt]
  | cons x a ih => simp [cnt, ih]; omega
theorem cnt_le (t : List Bool) : cnt t ≤ t.length := by
  induction t with
  | nil => simp [cnt]
  | cons b t ih => cases b <;> simp [cnt] <;> omega
theorem cnt_take_succ {t : List Bool} {k : Nat} (h : k < t.length) : cnt (t.take (k + 1)) = cnt (t.take k) + (t.getD k false).toNat := by
  rw [List.take_succ_eq_append_getElem h, cnt_append]
  simp [cnt, List.getD_eq_getElem?_getD, h]
/-- What one tape counts: 1, -1, or nothing. -/
def sgn : Option (Bool × Nat) → Int
  | none => 0
  | some p => if p.1 then 1 else -1
def cF (n set y : Nat) : Int := if cnt (bitsOf y n) = set then sgn (fairF (bitsOf y n)) else 0
/-- .. behind the first x tapes. -/
def runF (n set : Nat) : Nat → Int
  | 0 => 0
  | x + 1 => runF n set x + cF n set x
theorem cF_le (n set y : Nat) : -1 ≤ cF n set y ∧ cF n set y ≤ 1 := by
  unfold cF sgn
  split
  · split
    · omega
    · split <;> omega
  · omega
theorem runF_le (n set : Nat) : ∀ x : Nat, -(x : Int) ≤ runF n set x ∧ runF n set x ≤ x
  | 0 => by simp [runF]
  | x + 1 => by
    have := runF_le n set x
    have := cF_le n set x
    rw [runF]
    omega
/-- A stretch of 2^k tapes from a on. -/
def sumF (n set a : Nat) : Nat → Int
  | 0 => cF n set a
  | k + 1 => sumF n set a k + sumF n set (a + 2 ^ k) k
theorem runF_sum (n set : Nat) : ∀ k a, runF n set (a + 2 ^ k) = runF n set a + sumF n set a k
  | 0, a => by simp [runF, sumF]
  | k + 1, a => by
    rw [sumF, Nat.pow_succ, show a + 2 ^ k * 2 = a + 2 ^ k + 2 ^ k by omega, runF_sum n set k (a + 2 ^ k), runF_sum n set k a]
    omega
set_option maxRecDepth 10000 in
theorem sumF_all : ∀ n : Fin 13, ∀ s : Fin 13, sumF n.val s.val 0 n.val = 0 := by decide +kernel
theorem runF_zero {n set : Nat} (hn : n ≤ 12) (hs : set ≤ 12) : runF n set (2 ^ n) = 0 := by
  have := runF_sum n set n 0
  rw [Nat.zero_add] at this
  rw [this, sumF_all ⟨n, by omega⟩ ⟨set, by omega⟩]
  rfl
end Go.Proofs.Ytdfhlmacdgmpmaa
