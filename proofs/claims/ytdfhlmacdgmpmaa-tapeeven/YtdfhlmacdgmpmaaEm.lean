/- The counting of TapeEven. -/
import Derived.Test.YtdfhlmacdgmpmaaT9
namespace Go.Proofs.Ytdfhlmacdgmpmaa
open Go.RowKit Go.Deep

theorem bitsOf_add (x a : Nat) : ∀ b, bitsOf x (a + b) = bitsOf (x / 2 ^ b) a ++ bitsOf x b
  | 0 => by simp [bitsOf]
  | b + 1 => by
    rw [← Nat.add_assoc, bitsOf, bitsOf, bitsOf_add (x / 2) a b, Nat.div_div_eq_div_mul, Nat.pow_succ, Nat.mul_comm 2, List.append_assoc]
theorem bn_bitsOf (x : Nat) : ∀ n, bn (bitsOf x n) = x % 2 ^ n := by
  intro n
  induction n generalizing x with
  | zero => simp [bitsOf, bn_nil, Nat.mod_one]
  | succ n ih =>
    rw [bitsOf, bn_snoc, ih]
    have e1 : (x % 2 == 1).toNat = x % 2 := by
      rcases Nat.mod_two_eq_zero_or_one x with h | h <;> rw [h] <;> rfl
    rw [e1, Nat.pow_succ]
    have := Nat.mod_mul_left_div_self x 2 (2 ^ n)
    have h2 : x % (2 ^ n * 2) = 2 * (x % (2 ^ n * 2) / 2) + x % (2 ^ n * 2) % 2 := by omega
    rw [h2, Nat.mod_mul_left_div_self, Nat.mod_mul_left_mod]

/-- What is drawn out of the tape of the number x, of twice k bits. -/
def two (n k x : Nat) : Int × Int × Int :=
  if x / 2 ^ k < n then ((x / 2 ^ k : Nat), (k : Int), 0) else if x % 2 ^ k < n then ((x % 2 ^ k : Nat), ((k + k : Nat) : Int), 0) else (0, 0, 7)
theorem two_eq {n k x : Nat} (hn : 1 ≤ n) (hn2 : n ≤ 30) (hk : Lib.bitLen (n - 1) = k) (hx : x < 2 ^ (k + k)) : bel (bitsOf x (k + k)) (n : Int) = two n k x := by
  rw [bel_good hn (by omega), hk]
  have hl := bitsOf_len x (k + k)
  have ha := bitsOf_add x k k
  have hq : x / 2 ^ k < 2 ^ k := by
    rw [Nat.pow_add] at hx
    exact Nat.div_lt_of_lt_mul hx
  unfold two
  by_cases h0 : k = 0
  · subst h0
    have : x = 0 := by simpa using hx
    subst this
    rw [draw_zero hn, if_pos (by simp; omega)]
    rfl
  · have t1 : (bitsOf x (k + k)).take k = bitsOf (x / 2 ^ k) k := by
      rw [ha, List.take_left' (bitsOf_len _ _)]
    have t2 : (bitsOf x (k + k)).drop k = bitsOf x k := by
      rw [ha, List.drop_left' (bitsOf_len _ _)]
    have b1 : bn ((bitsOf x (k + k)).take k) = x / 2 ^ k := by
      rw [t1, bn_bitsOf, Nat.mod_eq_of_lt hq]
    by_cases h1 : x / 2 ^ k < n
    · rw [draw_hit (by omega) (by omega) (by rw [b1]; exact h1), if_pos h1, b1]
      rfl
    · rw [draw_miss (by omega) (by omega) (by rw [b1]; omega), if_neg h1, t2]
      have t3 : (bitsOf x k).take k = bitsOf x k := List.take_of_length_le (by rw [bitsOf_len]; exact Nat.le_refl _)
      by_cases h2 : x % 2 ^ k < n
      · rw [draw_hit (by omega) (by rw [bitsOf_len]; exact Nat.le_refl _) (by rw [t3, bn_bitsOf]; exact h2), if_pos h2, t3, bn_bitsOf]
        rfl
      · rw [draw_miss (by omega) (by rw [bitsOf_len]; exact Nat.le_refl _) (by rw [t3, bn_bitsOf]; omega), if_neg h2, draw_short (by omega) (by rw [List.length_drop, bitsOf_len]; omega)]
        rfl

/-- The counts behind the first x tapes, and how many of them draw none. -/
def runE (n k : Nat) : Nat → List Nat × Nat
  | 0 => (List.replicate n 0, 0)
  | x + 1 => if x / 2 ^ k < n then ((runE n k x).1.modify (x / 2 ^ k) (· + 1), (runE n k x).2) else if x % 2 ^ k < n then ((runE n k x).1.modify (x % 2 ^ k) (· + 1), (runE n k x).2) else ((runE n k x).1, (runE n k x).2 + 1)
theorem runE_len (n k : Nat) : ∀ x, (runE n k x).1.length = n
  | 0 => by simp [runE]
  | x + 1 => by
    rw [runE]
    split
    · simp [runE_len n k x]
    · split
      · simp [runE_len n k x]
      · exact runE_len n k x
theorem runE_le (n k : Nat) : ∀ x, (∀ i, (runE n k x).1.getD i 0 ≤ x) ∧ (runE n k x).2 ≤ x := by
  intro x
  induction x with
  | zero => exact ⟨fun i => by simp [runE, List.getD_eq_getElem?_getD, List.getElem?_replicate]; split <;> simp, by simp [runE]⟩
  | succ x ih =>
    have hm : ∀ d i, ((runE n k x).1.modify d (· + 1)).getD i 0 ≤ x + 1 := fun d i => by
      have := ih.1 i
      rw [List.getD_eq_getElem?_getD] at this ⊢
      rw [List.getElem?_modify]
      cases h : (runE n k x).1[i]? with
      | none => simp
      | some v => rw [h] at this; simp at this ⊢; split <;> omega
    rw [runE]
    split
    · exact ⟨fun i => hm _ i, by have := ih.2; simp only []; omega⟩
    · split
      · exact ⟨fun i => hm _ i, by have := ih.2; simp only []; omega⟩
      · exact ⟨fun i => by have := ih.1 i; simp only []; omega, by have := ih.2; simp only []; omega⟩

/-- All that the loop's end must tell. -/
def okE (n k : Nat) : Bool :=
  let s := runE n k (2 ^ (k + k))
  s.1.all (fun v => v == s.1.headD 0) && s.2 == (2 ^ k - n) * (2 ^ k - n) && Lib.bitLen (n - 1) == k
theorem okE_all : ∀ n : Fin 31, ∀ k : Fin 6, 1 ≤ n.val → n.val ≤ 2 ^ k.val → (k.val = 0 ∨ 2 ^ (k.val - 1) < n.val) → okE n.val k.val = true := by decide +kernel
theorem okE_get {n k : Nat} (h1 : 1 ≤ n) (h2 : n ≤ 30) (hk : k ≤ 5) (h3 : n ≤ 2 ^ k) (h4 : k = 0 ∨ 2 ^ (k - 1) < n) :
    Lib.bitLen (n - 1) = k ∧ (∀ i, i < n → (runE n k (2 ^ (k + k))).1.getD i 0 = (runE n k (2 ^ (k + k))).1.getD 0 0) ∧ (runE n k (2 ^ (k + k))).2 = (2 ^ k - n) * (2 ^ k - n) := by
  have h := okE_all ⟨n, by omega⟩ ⟨k, by omega⟩ h1 h3 h4
  simp only [okE, Bool.and_eq_true, beq_iff_eq, List.all_eq_true] at h
  obtain ⟨⟨ha, hb⟩, hc⟩ := h
  refine ⟨hc, fun i hi => ?_, hb⟩
  have hl := runE_len n k (2 ^ (k + k))
  have e0 : (runE n k (2 ^ (k + k))).1.headD 0 = (runE n k (2 ^ (k + k))).1.getD 0 0 := by
    cases (runE n k (2 ^ (k + k))).1 <;> rfl
  rw [← e0]
  refine ha _ ?_
  rw [List.getD_eq_getElem?_getD, List.getElem?_eq_getElem (by omega)]
  exact List.getElem_mem _
end Go.Proofs.Ytdfhlmacdgmpmaa
