/- lfsr: steps, periods; stage 14 (written ahead of the code; builds by itself). -/
import Derived.Test.YtcadpgpenjpdiaaB0
namespace Go.Proofs.Ytcadpgpenjpdiaa
/-! lfsr -/
/-- The parity of what is set in both, of the first k bits. -/
def par (t x : Nat) : Nat → Bool
  | 0 => false
  | k + 1 => par t x k ^^ (x.testBit k && t.testBit k)
def nst (n t x : Nat) : Nat := 2 * x % 2 ^ n + (par t x n).toNat
theorem nst_lt {n : Nat} (hn : 1 ≤ n) (t x : Nat) : nst n t x < 2 ^ n := by
  unfold nst
  obtain ⟨k, rfl⟩ : ∃ k, n = k + 1 := ⟨n - 1, by omega⟩
  have h1 : 2 * x % 2 ^ (k + 1) = 2 * (x % 2 ^ k) := by rw [Nat.pow_succ, Nat.mul_comm (2 ^ k) 2, Nat.mul_mod_mul_left]
  have h2 : x % 2 ^ k < 2 ^ k := Nat.mod_lt _ (Nat.two_pow_pos k)
  have h3 : (par t x (k + 1)).toNat ≤ 1 := Bool.toNat_le _
  rw [h1, Nat.pow_succ]
  omega
theorem nst_bits {n : Nat} (hn : 1 ≤ n) (t x i : Nat) : (nst n t x).testBit i = if i = 0 then par t x n else (decide (i < n) && x.testBit (i - 1)) := by
  unfold nst
  obtain ⟨k, rfl⟩ : ∃ k, n = k + 1 := ⟨n - 1, by omega⟩
  have h1 : 2 * x % 2 ^ (k + 1) = 2 * (x % 2 ^ k) := by rw [Nat.pow_succ, Nat.mul_comm (2 ^ k) 2, Nat.mul_mod_mul_left]
  rw [h1]
  cases hp : par t x (k + 1)
  · simp only [Bool.toNat_false, Nat.add_zero]
    cases i with
    | zero => simp
    | succ i => rw [Nat.testBit_succ, Nat.mul_div_cancel_left _ (by decide), Nat.testBit_mod_two_pow]; simp
  · simp only [Bool.toNat_true]
    cases i with
    | zero => simp [Nat.testBit_zero]
    | succ i =>
      rw [Nat.testBit_succ, show (2 * (x % 2 ^ k) + 1) / 2 = x % 2 ^ k by omega, Nat.testBit_mod_two_pow]; simp
theorem par_xor (t x y : Nat) : ∀ k, par t (x ^^^ y) k = (par t x k ^^ par t y k)
  | 0 => rfl
  | k + 1 => by
    unfold par
    rw [par_xor t x y k, Nat.testBit_xor]
    cases par t x k <;> cases par t y k <;> cases x.testBit k <;> cases y.testBit k <;> cases t.testBit k <;> rfl
theorem nst_xor {n : Nat} (hn : 1 ≤ n) (t x y : Nat) : nst n t (x ^^^ y) = nst n t x ^^^ nst n t y := by
  apply Nat.eq_of_testBit_eq
  intro i
  rw [Nat.testBit_xor, nst_bits hn, nst_bits hn, nst_bits hn]
  by_cases h : i = 0
  · simp only [h, if_true]; exact par_xor t x y n
  · simp only [h, if_false, Nat.testBit_xor]
    cases decide (i < n) <;> simp
theorem par_congr {t x y : Nat} : ∀ {k : Nat}, (∀ i, i < k → x.testBit i = y.testBit i) → par t x k = par t y k
  | 0, _ => rfl
  | k + 1, h => by
    unfold par
    rw [par_congr fun i hi => h i (by omega), h k (by omega)]
/-- n and t are valid. -/
structure NR (n t : Nat) : Prop where
  lo : 1 ≤ n
  hi : n ≤ 20
  top : t < 2 ^ n
  bit : t.testBit (n - 1) = true
theorem nst_inj {n t x y : Nat} (h : NR n t) (hx : x < 2 ^ n) (hy : y < 2 ^ n) (he : nst n t x = nst n t y) : x = y := by
  have hb : ∀ i, i < n - 1 → x.testBit i = y.testBit i := fun i hi => by
    have := congrArg (fun z => z.testBit (i + 1)) he
    simp only [nst_bits h.lo] at this
    simpa [show i + 1 < n by omega] using this
  have h0 : par t x n = par t y n := by
    have := congrArg (fun z => z.testBit 0) he
    simpa only [nst_bits h.lo, if_true] using this
  obtain ⟨k, hk⟩ : ∃ k, n = k + 1 := ⟨n - 1, by have := h.lo; omega⟩
  have hbit := h.bit
  subst hk
  simp only [Nat.add_sub_cancel] at hb hbit
  unfold par at h0
  rw [par_congr hb, hbit] at h0
  have hk2 : x.testBit k = y.testBit k := by
    cases hx2 : x.testBit k <;> cases hy2 : y.testBit k <;> simp_all
  apply Nat.eq_of_testBit_eq
  intro i
  by_cases h1 : i < k
  · exact hb i h1
  · by_cases h2 : i = k
    · rw [h2]; exact hk2
    · rw [Nat.testBit_lt_two_pow (Nat.lt_of_lt_of_le hx (Nat.pow_le_pow_right (by decide) (by omega))), Nat.testBit_lt_two_pow (Nat.lt_of_lt_of_le hy (Nat.pow_le_pow_right (by decide) (by omega)))]
/-- So many steps. -/
def nit (n t : Nat) : Nat → Nat → Nat
  | 0, x => x
  | k + 1, x => nst n t (nit n t k x)
theorem nit_lt {n t x : Nat} (hn : 1 ≤ n) (hx : x < 2 ^ n) : ∀ k, nit n t k x < 2 ^ n
  | 0 => hx
  | k + 1 => nst_lt hn t _
theorem nit_add (n t a : Nat) (x : Nat) : ∀ b, nit n t (a + b) x = nit n t b (nit n t a x)
  | 0 => rfl
  | b + 1 => by show nst n t (nit n t (a + b) x) = nst n t _; rw [nit_add n t a x b]
theorem nit_xor {n : Nat} (hn : 1 ≤ n) (t x y : Nat) : ∀ k, nit n t k (x ^^^ y) = nit n t k x ^^^ nit n t k y
  | 0 => rfl
  | k + 1 => by show nst n t _ = nst n t _ ^^^ nst n t _; rw [nit_xor hn t x y k, nst_xor hn]
theorem nit_inj {n t x y : Nat} (h : NR n t) (hx : x < 2 ^ n) (hy : y < 2 ^ n) : ∀ k, nit n t k x = nit n t k y → x = y
  | 0, he => he
  | k + 1, he => nit_inj h hx hy k (nst_inj h (nit_lt h.lo hx k) (nit_lt h.lo hy k) he)
theorem nst_zero {n : Nat} (t : Nat) : nst n t 0 = 0 := by
  have : ∀ k, par t 0 k = false := fun k => by
    induction k with
    | zero => rfl
    | succ k ih => unfold par; rw [ih]; simp
  unfold nst; rw [this]; simp
/-! periods -/
theorem nat_nodup_le : ∀ (N : Nat) (l : List Nat), l.Nodup → (∀ x ∈ l, x < N) → l.length ≤ N
  | 0, l, _, h => by
    cases l with
    | nil => simp
    | cons a l => have := h a (by simp); omega
  | N + 1, l, h1, h2 => by
    have h3 := nat_nodup_le N (l.erase N) (h1.erase N) (fun x hx => by
      have h4 := List.mem_of_mem_erase hx
      have h5 := h2 x h4
      have h6 : x ≠ N := fun e => by subst e; exact (h1.not_mem_erase) hx
      omega)
    have := List.length_erase (a := N) (l := l)
    split at this <;> omega
theorem per_ex {n t x : Nat} (h : NR n t) (hx : x < 2 ^ n) : ∃ p, 1 ≤ p ∧ p ≤ 2 ^ n ∧ nit n t p x = x := by
  apply Classical.byContradiction
  intro hno
  have hnd : ((List.range (2 ^ n + 1)).map fun k => nit n t k x).Nodup := by
    unfold List.Nodup
    rw [List.pairwise_map]
    refine List.Pairwise.imp_of_mem ?_ (List.pairwise_lt_range (n := 2 ^ n + 1))
    intro a b ha hb hab he
    rw [List.mem_range] at hb
    refine hno ⟨b - a, by omega, by omega, ?_⟩
    have h1 : nit n t b x = nit n t a (nit n t (b - a) x) := by rw [← nit_add, Nat.sub_add_cancel (by omega)]
    rw [h1] at he
    exact (nit_inj h hx (nit_lt h.lo hx _) a he).symm
  have := nat_nodup_le (2 ^ n) _ hnd (fun y hy => by
    obtain ⟨k, _, rfl⟩ := List.mem_map.1 hy
    exact nit_lt h.lo hx k)
  simp at this
  omega
/-- The first p from k on, of m places. -/
def perF (n t x : Nat) : Nat → Nat → Nat
  | 0, k => k
  | m + 1, k => if nit n t k x = x then k else perF n t x m (k + 1)
def per (n t x : Nat) : Nat := perF n t x (2 ^ n) 1
theorem perF_spec {n t x : Nat} : ∀ (m k q : Nat), k ≤ q → q ≤ k + m → nit n t q x = x → k ≤ perF n t x m k ∧ perF n t x m k ≤ q ∧ nit n t (perF n t x m k) x = x ∧ ∀ j, k ≤ j → j < perF n t x m k → nit n t j x ≠ x
  | 0, k, q, h1, h2, h3 => by
    have : q = k := by omega
    subst this
    exact ⟨Nat.le_refl _, Nat.le_refl _, h3, fun j hj hk => by unfold perF at hk; omega⟩
  | m + 1, k, q, h1, h2, h3 => by
    unfold perF
    by_cases h : nit n t k x = x
    · rw [if_pos h]
      exact ⟨Nat.le_refl _, h1, h, fun j hj hk => by omega⟩
    · rw [if_neg h]
      have hq : k ≠ q := fun e => h (by rw [e]; exact h3)
      obtain ⟨a, b, c, d⟩ := perF_spec m (k + 1) q (by omega) (by omega) h3
      refine ⟨by omega, b, c, fun j hj hk => ?_⟩
      by_cases e : j = k
      · rw [e]; exact h
      · exact d j (by omega) hk
theorem per_spec {n t x : Nat} (h : NR n t) (hx : x < 2 ^ n) : 1 ≤ per n t x ∧ per n t x ≤ 2 ^ n ∧ nit n t (per n t x) x = x ∧ ∀ j, 1 ≤ j → j < per n t x → nit n t j x ≠ x := by
  obtain ⟨p, h1, h2, h3⟩ := per_ex h hx
  obtain ⟨a, b, c, d⟩ := perF_spec (2 ^ n) 1 p h1 (by omega) h3
  exact ⟨a, Nat.le_trans b h2, c, d⟩
theorem nit_mul {n t x p : Nat} (hp : nit n t p x = x) : ∀ k, nit n t (p * k) x = x
  | 0 => rfl
  | k + 1 => by rw [Nat.mul_succ, Nat.add_comm, nit_add, hp, nit_mul hp k]
theorem nit_mod {n t x p : Nat} (hp : nit n t p x = x) (k : Nat) : nit n t (k % p) x = nit n t k x := by
  conv => rhs; rw [← Nat.div_add_mod k p, nit_add, nit_mul hp]
/-- The taps that LfsrLongest names. -/
def tapsL : List Nat := [0, 1, 3, 6, 12, 20, 48, 96, 184]
def setN (n t : Nat) : Nat → Nat → Nat
  | 0, _ => 0
  | m + 1, x => ((x.testBit (n - 1)).toNat) + setN n t m (nst n t x)
theorem long_all : ∀ n, n < 9 → 1 ≤ n → per n (tapsL.getD n 0) 1 = 2 ^ n - 1 ∧ setN n (tapsL.getD n 0) (2 ^ n - 1) 1 = 2 ^ (n - 1) := by decide +kernel
end Go.Proofs.Ytcadpgpenjpdiaa
