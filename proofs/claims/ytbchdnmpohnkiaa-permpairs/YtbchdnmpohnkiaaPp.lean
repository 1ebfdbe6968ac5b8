/- Pairs that stand the wrong way round. -/
import Derived.Test.YtbchdnmpohnkiaaPf
import Derived.Test.YtbchdnmpohnkiaaPe
namespace Go.Proofs.Ytbchdnmpohnkiaa

def inv (p : List Int) : Nat := (code p).sum
def gt (x : Int) (l : List Int) : Nat := l.countP fun y => decide (x < y)
theorem gt_snoc (x y : Int) (l : List Int) : gt x (l ++ [y]) = gt x l + if x < y then 1 else 0 := by
  unfold gt
  rw [List.countP_append]
  by_cases h : x < y <;> simp [h]
theorem inv_cons (x : Int) (r : List Int) : inv (x :: r) = cnt x r + inv r := by simp [inv, code]
theorem inv_snoc (l : List Int) (x : Int) : inv (l ++ [x]) = inv l + gt x l := by
  induction l with
  | nil => simp [inv, code, gt, cnt]
  | cons y l ih =>
    rw [List.cons_append, inv_cons, inv_cons, ih, cnt_snoc]
    have : gt x (y :: l) = gt x l + if x < y then 1 else 0 := by
      unfold gt
      by_cases h : x < y <;> simp [h]
    omega
theorem inv_take {p : List Int} {k : Nat} (h : k < p.length) : inv (p.take (k + 1)) = inv (p.take k) + gt (p.getD k 0) (p.take k) := by
  rw [take_snoc h, inv_snoc]
theorem inv_le (p : List Int) : inv p ≤ p.length * p.length := by
  induction p with
  | nil => simp [inv, code]
  | cons x r ih =>
    rw [inv_cons, List.length_cons, Nat.add_mul, Nat.mul_add]
    have := cnt_le x r
    omega
theorem gt_le (x : Int) (l : List Int) : gt x l ≤ l.length := List.countP_le_length

/-! Sums -/
def S (n : Nat) (f : Nat → Nat) : Nat := ((List.range n).map f).sum
theorem S_succ (n : Nat) (f : Nat → Nat) : S (n + 1) f = S n f + f n := by simp [S, List.range_succ]
theorem S_zero (f : Nat → Nat) : S 0 f = 0 := rfl
theorem S_congr {n : Nat} {f g : Nat → Nat} (h : ∀ i, i < n → f i = g i) : S n f = S n g := by
  induction n with
  | zero => rfl
  | succ n ih => rw [S_succ, S_succ, ih (fun i hi => h i (by omega)), h n (by omega)]
theorem S_add (n : Nat) (f g : Nat → Nat) : S n (fun i => f i + g i) = S n f + S n g := by
  induction n with
  | zero => rfl
  | succ n ih => rw [S_succ, S_succ, S_succ, ih]; omega
theorem S_none {n : Nat} {f : Nat → Nat} (h : ∀ i, i < n → f i = 0) : S n f = 0 := by
  induction n with
  | zero => rfl
  | succ n ih => rw [S_succ, ih (fun i hi => h i (by omega)), h n (by omega)]
theorem S_swap (n m : Nat) (g : Nat → Nat → Nat) : S n (fun i => S m (fun j => g i j)) = S m (fun j => S n (fun i => g i j)) := by
  induction n with
  | zero => rw [S_zero, S_none (fun _ _ => S_zero _)]
  | succ n ih =>
    rw [S_succ, ih, ← S_add]
    exact S_congr (fun j _ => (S_succ n (fun i => g i j)).symm)
/-- Over an order. -/
theorem S_order {p : List Int} (h : Ok p) (f : Int → Nat) : S p.length (fun i => f (p.getD i 0)) = S p.length (fun a => f (a : Int)) := by
  have e1 : (List.range p.length).map (fun i => f (p.getD i 0)) = p.map f := by
    apply List.ext_getElem
    · simp
    · intro i h1 h2
      have hi : i < p.length := by simpa using h2
      simp [List.getD_eq_getElem?_getD, hi]
  have e2 : (List.range p.length).map (fun (a : Nat) => f (a : Int)) = (idn p.length).map f := by simp [idn]
  unfold S
  rw [e1, e2]
  exact (h.perm.map f).sum_nat
def I (n : Nat) (f : Nat → Int) : Nat := S n (fun i => S n (fun j => if i < j ∧ f j < f i then 1 else 0))
theorem gt_take {p : List Int} (x : Int) : ∀ {n : Nat}, n ≤ p.length → gt x (p.take n) = S n (fun i => if x < p.getD i 0 then 1 else 0) := by
  intro n
  induction n with
  | zero => intro _; simp [gt, S]
  | succ n ih => intro h; rw [take_snoc (by omega), gt_snoc, ih (by omega), S_succ]
theorem inv_I {p : List Int} : ∀ {n : Nat}, n ≤ p.length → inv (p.take n) = I n (fun i => p.getD i 0) := by
  intro n
  induction n with
  | zero => intro _; simp [inv, code, I, S]
  | succ n ih =>
    intro h
    rw [inv_take (by omega), ih (by omega), gt_take _ (by omega)]
    unfold I
    rw [S_succ]
    have e1 : S (n + 1) (fun j => if n < j ∧ p.getD j 0 < p.getD n 0 then 1 else 0) = 0 := S_none (fun j hj => if_neg (by omega))
    rw [e1, Nat.add_zero, ← S_add]
    refine S_congr (fun i hi => ?_)
    rw [S_succ]
    congr 1
    by_cases hx : p.getD n 0 < p.getD i 0
    · rw [if_pos hx, if_pos ⟨hi, hx⟩]
    · rw [if_neg hx, if_neg (fun h => hx h.2)]
theorem inv_back {p : List Int} (h : Ok p) : inv (backL p) = inv p := by
  have e1 := inv_I (p := p) (Nat.le_refl _)
  have e2 := inv_I (p := backL p) (Nat.le_refl _)
  rw [List.take_length] at e1 e2
  rw [e1, e2, backL_len]
  have hb : ∀ i, i < p.length → (backL p).getD (p.getD i 0).toNat 0 = (i : Int) := fun i hi => by
    obtain ⟨e, he, hlt⟩ := h.at hi
    rw [he, Int.toNat_natCast]; exact backL_at h hi he hlt
  have hpos : ∀ i, i < p.length → 0 ≤ p.getD i 0 := fun i hi => (h.2.1 _ (getD_mem hi)).1
  unfold I
  have s1 := S_order h (fun x => S p.length (fun b => if x.toNat < b ∧ (backL p).getD b 0 < (backL p).getD x.toNat 0 then 1 else 0))
  simp only [Int.toNat_natCast] at s1
  rw [← s1]
  rw [S_swap p.length p.length (fun i j => if i < j ∧ p.getD j 0 < p.getD i 0 then 1 else 0)]
  refine S_congr (fun i hi => ?_)
  have s2 := S_order h (fun y => if (p.getD i 0).toNat < y.toNat ∧ (backL p).getD y.toNat 0 < (backL p).getD (p.getD i 0).toNat 0 then 1 else 0)
  simp only [Int.toNat_natCast] at s2
  rw [← s2]
  refine S_congr (fun j hj => ?_)
  rw [hb i hi, hb j hj]
  have h1 := hpos i hi
  have h2 := hpos j hj
  by_cases hc : j < i ∧ p.getD i 0 < p.getD j 0
  · rw [if_pos hc, if_pos (by omega)]
  · rw [if_neg hc, if_neg (by omega)]

/-! Two neighbours change places -/
theorem swp_cons (x : Int) (l : List Int) (k : Nat) : swp (x :: l) (k + 1) (k + 2) = x :: swp l k (k + 1) := by simp [swp]
theorem swp_two (x y : Int) (r : List Int) : swp (x :: y :: r) 0 1 = y :: x :: r := by simp [swp]
theorem swp_perm : ∀ {l : List Int} {k : Nat}, k + 1 < l.length → (swp l k (k + 1)).Perm l
  | [], k, h => by simp at h
  | [x], k, h => by simp at h
  | x :: y :: r, 0, _ => by rw [swp_two]; exact List.Perm.swap _ _ _
  | x :: y :: r, k + 1, h => by rw [swp_cons]; exact (swp_perm (by simpa using h)).cons _
theorem inv_swp : ∀ {l : List Int} {k : Nat}, k + 1 < l.length → l.getD k 0 ≠ l.getD (k + 1) 0 → inv (swp l k (k + 1)) + (if l.getD (k + 1) 0 < l.getD k 0 then 1 else 0) = inv l + (if l.getD (k + 1) 0 < l.getD k 0 then 0 else 1)
  | [], k, h, _ => by simp at h
  | [x], k, h, _ => by simp at h
  | x :: y :: r, 0, _, hne => by
    rw [swp_two]
    simp only [List.getD_cons_zero, List.getD_cons_succ] at hne ⊢
    simp only [inv_cons]
    have c1 : cnt x (y :: r) = cnt x r + if y < x then 1 else 0 := by unfold cnt; by_cases h : y < x <;> simp [h]
    have c2 : cnt y (x :: r) = cnt y r + if x < y then 1 else 0 := by unfold cnt; by_cases h : x < y <;> simp [h]
    rw [c1, c2]
    by_cases h : y < x
    · simp only [h, if_true, show ¬ x < y by omega, if_false]; omega
    · simp only [h, if_false, show x < y by omega, if_true]; omega
  | x :: y :: r, k + 1, h, hne => by
    have hl : k + 1 < (y :: r).length := by simpa using h
    have ih := inv_swp (l := y :: r) (k := k) hl (by simpa using hne)
    rw [swp_cons, inv_cons, inv_cons, cnt_perm (swp_perm hl)]
    simp only [List.getD_cons_succ] at ih ⊢
    omega
theorem swp_ok {p : List Int} (h : Ok p) {k : Nat} (hk : k + 1 < p.length) : Ok (swp p k (k + 1)) :=
  ok_of_perm (by rw [swp_len]; exact h.1) (by rw [swp_len]; exact (swp_perm hk).trans h.perm)
end Go.Proofs.Ytbchdnmpohnkiaa
