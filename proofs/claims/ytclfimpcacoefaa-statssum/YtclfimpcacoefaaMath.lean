/- Natural numbers as lists of words of 64 bits, the least first: the plain mathematics, without the program. -/
namespace Go.Proofs.Ytclfimpcacoefaa

/-- A word's bound. -/
def Bw : Nat := 18446744073709551616
theorem Bw_pos : 0 < Bw := by decide
theorem Bw_gt : 1 < Bw := by decide

/-- Word i, 0 beyond the end. -/
def wd (xs : List Nat) (i : Nat) : Nat := xs.getD i 0

/-- All of them are words. -/
def Sm (xs : List Nat) : Prop := ∀ x ∈ xs, x < Bw

def val : List Nat → Nat
  | [] => 0
  | x :: r => x + Bw * val r

theorem wd_lt {xs : List Nat} (h : Sm xs) (j : Nat) : wd xs j < Bw := by
  unfold wd
  by_cases hj : j < xs.length
  · have : xs.getD j 0 = xs[j] := by simp [hj]
    rw [this]; exact h _ (List.getElem_mem hj)
  · have : xs.getD j 0 = 0 := by simp [List.getD_eq_getElem?_getD, List.getElem?_eq_none (Nat.le_of_not_lt hj)]
    rw [this]; decide
theorem wd_out {xs : List Nat} {j : Nat} (h : xs.length ≤ j) : wd xs j = 0 := by
  unfold wd; simp [List.getD_eq_getElem?_getD, List.getElem?_eq_none h]
theorem wd_in {xs : List Nat} {j : Nat} (h : j < xs.length) : xs[j]? = some (wd xs j) := by
  unfold wd; simp [List.getD_eq_getElem?_getD, List.getElem?_eq_getElem h]
theorem wd_take {xs : List Nat} {n j : Nat} (h : j < n) : wd (xs.take n) j = wd xs j := by
  unfold wd; rw [List.getD_eq_getElem?_getD, List.getD_eq_getElem?_getD, List.getElem?_take, if_pos h]
theorem wd_cons_zero (x : Nat) (r : List Nat) : wd (x :: r) 0 = x := rfl
theorem wd_cons_succ (x : Nat) (r : List Nat) (j : Nat) : wd (x :: r) (j + 1) = wd r j := rfl
theorem Sm.take {xs : List Nat} (h : Sm xs) (n : Nat) : Sm (xs.take n) := fun x hx => h x (List.mem_of_mem_take hx)
theorem Sm.append {xs ys : List Nat} (h : Sm xs) (k : Sm ys) : Sm (xs ++ ys) := fun x hx => by
  rcases List.mem_append.1 hx with h' | h'
  · exact h x h'
  · exact k x h'
theorem Sm.nil : Sm [] := by intro x hx; cases hx
theorem Sm.one {x : Nat} (h : x < Bw) : Sm [x] := by intro y hy; simp at hy; omega
theorem Sm.cons {x : Nat} {r : List Nat} (h : x < Bw) (k : Sm r) : Sm (x :: r) := by
  intro y hy; simp at hy; rcases hy with rfl | hy
  · exact h
  · exact k y hy
theorem Sm.tail {x : Nat} {r : List Nat} (h : Sm (x :: r)) : Sm r := fun y hy => h y (by simp [hy])
theorem Sm.head {x : Nat} {r : List Nat} (h : Sm (x :: r)) : x < Bw := h x (by simp)

theorem val_append (xs ys : List Nat) : val (xs ++ ys) = val xs + Bw ^ xs.length * val ys := by
  induction xs with
  | nil => simp [val]
  | cons x r ih =>
    simp only [List.cons_append, val, ih, List.length_cons, Nat.pow_succ]
    rw [Nat.mul_add, ← Nat.mul_assoc, Nat.mul_comm Bw (Bw ^ r.length), Nat.add_assoc]
theorem val_lt {xs : List Nat} (h : Sm xs) : val xs < Bw ^ xs.length := by
  induction xs with
  | nil => simp [val]
  | cons x r ih =>
    have h1 := h.head
    have h2 := ih h.tail
    simp only [val, List.length_cons, Nat.pow_succ]
    have : Bw * (val r + 1) ≤ Bw * Bw ^ r.length := Nat.mul_le_mul_left _ h2
    rw [Nat.mul_comm Bw (Bw ^ r.length)] at this
    rw [Nat.mul_add] at this
    omega
theorem val_take_succ {xs : List Nat} {k : Nat} (h : k < xs.length) : val (xs.take (k + 1)) = val (xs.take k) + Bw ^ k * wd xs k := by
  rw [List.take_succ_eq_append_getElem h, val_append]
  have : (xs.take k).length = k := by simp; omega
  rw [this]
  have : xs[k] = wd xs k := by have := wd_in h; rw [List.getElem?_eq_getElem h] at this; simpa using this
  simp [val, this]
theorem val_take_any (xs : List Nat) (k : Nat) : val (xs.take (k + 1)) = val (xs.take k) + Bw ^ k * wd xs k := by
  by_cases h : k < xs.length
  · exact val_take_succ h
  · rw [List.take_of_length_le (by omega), List.take_of_length_le (by omega), wd_out (by omega)]; simp
theorem val_take_all {xs : List Nat} {k : Nat} (h : xs.length ≤ k) : val (xs.take k) = val xs := by rw [List.take_of_length_le h]
theorem val_zeros (n : Nat) : val (List.replicate n 0) = 0 := by
  induction n with
  | zero => rfl
  | succ n ih => simp [List.replicate_succ, val, ih]

/-- The words of a number: none ahead of the greatest one that is not 0. -/
def wordsF : Nat → Nat → List Nat
  | 0, _ => []
  | f + 1, n => if n = 0 then [] else n % Bw :: wordsF f (n / Bw)
def words (n : Nat) : List Nat := wordsF n n
theorem wordsF_fuel : ∀ (f g n : Nat), n ≤ f → n ≤ g → wordsF f n = wordsF g n
  | 0, 0, _, _, _ => rfl
  | 0, g + 1, n, h, _ => by have : n = 0 := by omega
                            subst this; simp [wordsF]
  | f + 1, 0, n, _, h => by have : n = 0 := by omega
                            subst this; simp [wordsF]
  | f + 1, g + 1, n, h, k => by
    by_cases h0 : n = 0
    · simp [wordsF, h0]
    · have := Nat.div_lt_self (n := n) (by omega) Bw_gt
      simp only [wordsF, h0, if_false]
      rw [wordsF_fuel f g (n / Bw) (by omega) (by omega)]
theorem words_zero : words 0 = [] := rfl
theorem words_pos {n : Nat} (h : n ≠ 0) : words n = n % Bw :: words (n / Bw) := by
  obtain ⟨m, rfl⟩ : ∃ m, n = m + 1 := ⟨n - 1, by omega⟩
  have := Nat.div_lt_self (n := m + 1) (by omega) Bw_gt
  unfold words
  rw [wordsF, if_neg h, wordsF_fuel m ((m + 1) / Bw) _ (by omega) (Nat.le_refl _)]
theorem val_words (n : Nat) : val (words n) = n := by
  induction n using Nat.strongRecOn with
  | ind n ih =>
    by_cases h : n = 0
    · subst h; rw [words_zero]; rfl
    · rw [words_pos h, val, ih _ (Nat.div_lt_self (by omega) Bw_gt)]
      exact Nat.mod_add_div n Bw
theorem words_sm (n : Nat) : Sm (words n) := by
  induction n using Nat.strongRecOn with
  | ind n ih =>
    by_cases h : n = 0
    · subst h; rw [words_zero]; exact Sm.nil
    · rw [words_pos h]
      exact Sm.cons (Nat.mod_lt _ Bw_pos) (ih _ (Nat.div_lt_self (by omega) Bw_gt))
/-- No word 0 at the end. -/
def Cn (xs : List Nat) : Prop := xs = [] ∨ wd xs (xs.length - 1) ≠ 0
theorem words_cn (n : Nat) : Cn (words n) := by
  induction n using Nat.strongRecOn with
  | ind n ih =>
    by_cases h : n = 0
    · subst h; rw [words_zero]; exact .inl rfl
    · rw [words_pos h]
      right
      rcases ih (n / Bw) (Nat.div_lt_self (by omega) Bw_gt) with h1 | h1
      · rw [h1]
        have h2 := val_words (n / Bw)
        rw [h1] at h2
        have h3 : n / Bw = 0 := h2.symm
        have h4 := Nat.mod_add_div n Bw
        rw [h3] at h4
        show n % Bw ≠ 0
        simp at h4; omega
      · cases hw : words (n / Bw) with
        | nil =>
          rw [hw] at h1; simp [wd] at h1
        | cons y r =>
          rw [hw] at h1
          simp only [List.length_cons] at h1 ⊢
          rw [show r.length + 1 + 1 - 1 = (r.length + 1 - 1) + 1 by omega, wd_cons_succ]
          exact h1
theorem Cn.tail {x y : Nat} {r : List Nat} (h : Cn (x :: y :: r)) : Cn (y :: r) := by
  rcases h with h | h
  · cases h
  · right
    simp only [List.length_cons] at h ⊢
    rw [show r.length + 1 + 1 - 1 = (r.length + 1 - 1) + 1 by omega, wd_cons_succ] at h
    exact h
theorem val_pos {xs : List Nat} (h : Cn xs) (hne : xs ≠ []) : val xs ≠ 0 := by
  induction xs with
  | nil => exact absurd rfl hne
  | cons x r ih =>
    cases r with
    | nil =>
      rcases h with h | h
      · cases h
      · simp [wd] at h; simp [val]; omega
    | cons y s =>
      have := ih h.tail (by simp)
      rw [val]
      have := Nat.mul_pos Bw_pos (Nat.pos_of_ne_zero this)
      omega
theorem words_val {xs : List Nat} (hs : Sm xs) (hc : Cn xs) : words (val xs) = xs := by
  induction xs with
  | nil => exact words_zero
  | cons x r ih =>
    have hne : val (x :: r) ≠ 0 := val_pos hc (by simp)
    rw [words_pos hne]
    have h1 : val (x :: r) % Bw = x := by
      rw [val, Nat.add_mul_mod_self_left, Nat.mod_eq_of_lt hs.head]
    have h2 : val (x :: r) / Bw = val r := by
      rw [val, Nat.add_mul_div_left _ _ Bw_pos, Nat.div_eq_of_lt hs.head, Nat.zero_add]
    rw [h1, h2]
    cases r with
    | nil => rw [val, words_zero]
    | cons y s => rw [ih hs.tail hc.tail]
theorem val_inj {xs ys : List Nat} (hs : Sm xs) (hc : Cn xs) (ht : Sm ys) (hd : Cn ys) (h : val xs = val ys) : xs = ys := by
  rw [← words_val hs hc, ← words_val ht hd, h]
theorem words_len (n k : Nat) : (words n).length ≤ k ↔ n < Bw ^ k := by
  constructor
  · intro h
    have h1 := val_lt (words_sm n)
    rw [val_words] at h1
    exact Nat.lt_of_lt_of_le h1 (Nat.pow_le_pow_right Bw_pos h)
  · intro h
    induction k generalizing n with
    | zero => have : n = 0 := by simpa using h
              subst this; rw [words_zero]; simp
    | succ k ih =>
      by_cases h0 : n = 0
      · subst h0; rw [words_zero]; simp
      · rw [words_pos h0]
        have : n / Bw < Bw ^ k := Nat.div_lt_of_lt_mul (by rw [Nat.mul_comm, ← Nat.pow_succ]; exact h)
        have := ih _ this
        simp; exact this
/-- What is behind place n is 0, and the word ahead of it is not: then the first n words are the number's. -/
theorem words_trim {xs : List Nat} {n : Nat} (hs : Sm xs) (hn : n ≤ xs.length) (hz : ∀ j, n ≤ j → wd xs j = 0) (hl : n = 0 ∨ wd xs (n - 1) ≠ 0) : words (val xs) = xs.take n := by
  have hv : ∀ k, n ≤ k → val (xs.take k) = val (xs.take n) := by
    intro k hk
    induction k with
    | zero => have : n = 0 := by omega
              subst this; rfl
    | succ k ih =>
      by_cases h : n ≤ k
      · rw [val_take_any, hz k h, ih h]; simp
      · have : n = k + 1 := by omega
        rw [this]
  rw [← val_take_all (Nat.le_refl xs.length), hv _ hn]
  refine words_val (hs.take n) ?_
  rcases hl with h | h
  · left; rw [h]; rfl
  · by_cases h0 : n = 0
    · left; rw [h0]; rfl
    · right
      have : (xs.take n).length = n := by simp; omega
      rw [this, wd_take (by omega)]
      exact h

/-- Trimmed, a list of words is its beginning. -/
theorem words_is_take {xs : List Nat} (hs : Sm xs) : ∃ n, words (val xs) = xs.take n := by
  have key : ∀ n, n ≤ xs.length → (∀ j, n ≤ j → wd xs j = 0) → ∃ m, words (val xs) = xs.take m := by
    intro n
    induction n with
    | zero => intro hn hz; exact ⟨0, words_trim hs hn hz (.inl rfl)⟩
    | succ n ih =>
      intro hn hz
      by_cases h : wd xs n = 0
      · exact ih (by omega) (fun j hj => by
          by_cases e : j = n
          · rw [e]; exact h
          · exact hz j (by omega))
      · exact ⟨n + 1, words_trim hs hn hz (.inr (by simpa using h))⟩
  exact key xs.length (Nat.le_refl _) (fun j hj => wd_out hj)

/-- It is a number: not too long, no word 0 at the end. -/
def rt (xs : List Nat) : Bool := decide (xs.length ≤ 64) && (decide (xs.length = 0) || decide (wd xs (xs.length - 1) ≠ 0))
theorem rt_iff (xs : List Nat) : rt xs = true ↔ xs.length ≤ 64 ∧ Cn xs := by
  unfold rt Cn
  simp
/-- The words of a number that is not too great are a number. -/
theorem rt_words {n : Nat} (h : n < Bw ^ 64) : rt (words n) = true := (rt_iff _).2 ⟨(words_len n 64).2 h, words_cn n⟩
theorem val_of_rt {xs : List Nat} (hs : Sm xs) (h : rt xs = true) : val xs < Bw ^ 64 :=
  Nat.lt_of_lt_of_le (val_lt hs) (Nat.pow_le_pow_right Bw_pos ((rt_iff _).1 h).1)
theorem words_rt {xs : List Nat} (hs : Sm xs) (h : rt xs = true) : words (val xs) = xs := words_val hs ((rt_iff _).1 h).2

/-- What a call answers that makes the number n: its words, or 'no room'. -/
def fitL (n : Nat) : List Nat := if n < Bw ^ 64 then words n else []
def fitE (n : Nat) : Int := if n < Bw ^ 64 then 0 else 4
end Go.Proofs.Ytclfimpcacoefaa
