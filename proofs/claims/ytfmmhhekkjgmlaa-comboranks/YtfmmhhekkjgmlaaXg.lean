/- The successor as the combination of the next rank. -/
import Derived.Test.YtfmmhhekkjgmlaaX3
import Derived.Test.YtfmmhhekkjgmlaaX4
namespace Go.Proofs.Ytfmmhhekkjgmlaa

theorem nextC_at {N : Nat} {q : List Nat} (hN : N ≤ 60) (h : Inc N q) : nextC N (ints q) = atRC (N : Int) (q.length : Int) ((rk q : Int) + 1) := by
  rw [nextC_yes hN h]
  unfold nextOf atRC
  rw [if_neg (show ¬ ((N : Int) < 0 ∨ 60 < (N : Int) ∨ (q.length : Int) < 0 ∨ (rk q : Int) + 1 < 0) by omega), Int.toNat_natCast, Int.toNat_natCast, show ((rk q : Int) + 1).toNat = rk q + 1 by omega]
  by_cases hb : rk q + 1 < bc N q.length
  · rw [if_pos hb, if_neg (by omega)]
  · rw [if_neg hb, if_pos (by omega)]; rfl
theorem atRC_len (n k r : Int) : (atRC n k r).1.length ≤ 60 := by
  unfold atRC
  split
  · simp
  · split
    · simp
    · simp only [ints_len]
      rw [atC_len _ (by omega)]
      have := le_of_bc (show r.toNat < bc n.toNat k.toNat by omega)
      omega
theorem atRC_in {N K i : Nat} (hN : N ≤ 60) (h : i < bc N K) : atRC (N : Int) (K : Int) (i : Int) = (ints (atC N K i), 0) := by
  unfold atRC
  rw [if_neg (by omega), Int.toNat_natCast, Int.toNat_natCast, Int.toNat_natCast, if_neg (by omega)]
theorem atRC_out {N K i : Nat} (hN : N ≤ 60) (h : bc N K ≤ i) : atRC (N : Int) (K : Int) (i : Int) = ([], 3) := by
  unfold atRC
  rw [if_neg (by omega), Int.toNat_natCast, Int.toNat_natCast, Int.toNat_natCast, if_pos (by omega)]
end Go.Proofs.Ytfmmhhekkjgmlaa
