/- Combinations: ranks, the combination of a rank, the successor, the complement. -/
import Derived.Test.YtojoecoocbjgaaaXm
import Derived.Test.YtojoecoocbjgaaaPm
namespace Go.Proofs.Ytojoecoocbjgaaa

/-- A combination of N: strictly increasing, below N. -/
def Inc (N : Nat) (q : List Nat) : Prop := q.Pairwise (· < ·) ∧ ∀ x ∈ q, x < N
theorem inc_nil (N : Nat) : Inc N [] := ⟨List.Pairwise.nil, by simp⟩
theorem inc_snoc {N x : Nat} {q : List Nat} : Inc N (q ++ [x]) ↔ Inc x q ∧ x < N := by
  unfold Inc
  rw [List.pairwise_append]
  simp only [List.pairwise_cons, List.not_mem_nil, List.Pairwise.nil, List.mem_append, List.mem_singleton]
  constructor
  · rintro ⟨⟨h1, _, h2⟩, h3⟩
    exact ⟨⟨h1, fun y hy => h2 y hy x rfl⟩, h3 x (.inr rfl)⟩
  · rintro ⟨⟨h1, h2⟩, h3⟩
    refine ⟨⟨h1, by simp, ?_⟩, ?_⟩
    · rintro y hy z rfl; exact h2 y hy
    · rintro y (hy | rfl)
      · have := h2 y hy; omega
      · exact h3
theorem Inc.mono {N M : Nat} {q : List Nat} (h : Inc N q) (hm : N ≤ M) : Inc M q := ⟨h.1, fun x hx => Nat.lt_of_lt_of_le (h.2 x hx) hm⟩
theorem Inc.at {N : Nat} {q : List Nat} (h : Inc N q) {i : Nat} (hi : i < q.length) : q.getD i 0 < N := by
  have : q.getD i 0 = q[i] := by simp [List.getD_eq_getElem?_getD, hi]
  rw [this]; exact h.2 _ (List.getElem_mem hi)
theorem Inc.lt {N : Nat} {q : List Nat} (h : Inc N q) {i j : Nat} (hij : i < j) (hj : j < q.length) : q.getD i 0 < q.getD j 0 := by
  have e1 : q.getD i 0 = q[i]'(by omega) := by simp [List.getD_eq_getElem?_getD, show i < q.length by omega]
  have e2 : q.getD j 0 = q[j] := by simp [List.getD_eq_getElem?_getD, hj]
  rw [e1, e2]
  exact (List.pairwise_iff_getElem.1 h.1) i j (by omega) hj hij
theorem inc_of {N : Nat} {q : List Nat} (h1 : ∀ j, j + 1 < q.length → q.getD j 0 < q.getD (j + 1) 0) (h2 : ∀ j, j < q.length → q.getD j 0 < N) : Inc N q := by
  have h3 : ∀ d i, i + d + 1 < q.length → q.getD i 0 < q.getD (i + d + 1) 0 := by
    intro d
    induction d with
    | zero => intro i hi; exact h1 i hi
    | succ d ih => intro i hi; exact Nat.lt_trans (ih i (by omega)) (h1 (i + d + 1) (by omega))
  refine ⟨List.pairwise_iff_getElem.2 fun i j hi hj hij => ?_, fun x hx => ?_⟩
  · have := h3 (j - i - 1) i (by omega)
    rw [show i + (j - i - 1) + 1 = j by omega] at this
    simpa [List.getD_eq_getElem?_getD, hi, hj] using this
  · obtain ⟨k, hk, e⟩ := List.getElem_of_mem hx
    have := h2 k hk
    rw [← e]
    simpa [List.getD_eq_getElem?_getD, hk] using this
theorem Inc.len_le : ∀ {N : Nat} {q : List Nat}, Inc N q → q.length ≤ N := by
  have key : ∀ (m : Nat) (N : Nat) (q : List Nat), q.length = m → Inc N q → m ≤ N := by
    intro m
    induction m with
    | zero => intros; omega
    | succ m ih =>
      intro N q hl h
      rcases List.eq_nil_or_concat q with rfl | ⟨d, x, rfl⟩
      · simp at hl
      · rw [List.concat_eq_append] at h hl
        have := inc_snoc.1 h
        have h2 := ih x d (by simp at hl; omega) this.1
        omega
  intro N q h
  exact key _ N q rfl h
theorem inc_take {N : Nat} {q : List Nat} (h : Inc N q) (k : Nat) : Inc N (q.take k) :=
  ⟨h.1.sublist (List.take_sublist k q), fun x hx => h.2 x (List.mem_of_mem_take hx)⟩

/-- The rank: counted over the first k. -/
def rkTo (q : List Nat) : Nat → Nat
  | 0 => 0
  | k + 1 => rkTo q k + bc (q.getD k 0) (k + 1)
def rk (q : List Nat) : Nat := rkTo q q.length
theorem rkTo_congr {a b : List Nat} {k : Nat} (h : ∀ j, j < k → a.getD j 0 = b.getD j 0) : rkTo a k = rkTo b k := by
  induction k with
  | zero => rfl
  | succ k ih => rw [rkTo, rkTo, ih (fun j hj => h j (by omega)), h k (by omega)]
theorem rkTo_append (a b : List Nat) {k : Nat} (h : k ≤ a.length) : rkTo (a ++ b) k = rkTo a k :=
  rkTo_congr fun j hj => by simp [List.getD_eq_getElem?_getD, List.getElem?_append_left (show j < a.length by omega)]
theorem rk_take {q : List Nat} {k : Nat} (h : k ≤ q.length) : rk (q.take k) = rkTo q k := by
  unfold rk
  rw [List.length_take, Nat.min_eq_left h]
  exact rkTo_congr fun j hj => by simp [List.getD_eq_getElem?_getD, List.getElem?_take, hj]
theorem rk_nil : rk [] = 0 := rfl
theorem rk_snoc (q : List Nat) (x : Nat) : rk (q ++ [x]) = rk q + bc x (q.length + 1) := by
  unfold rk
  rw [List.length_append, List.length_singleton, rkTo, rkTo_append _ _ (Nat.le_refl _)]
  simp
theorem rkTo_mono {q : List Nat} {k m : Nat} (h : k ≤ m) : rkTo q k ≤ rkTo q m := by
  induction m with
  | zero => obtain rfl : k = 0 := by omega
            omega
  | succ m ih =>
    rcases Nat.lt_or_ge m k with h1 | h1
    · obtain rfl : k = m + 1 := by omega
      omega
    · rw [rkTo]; have := ih h1; omega
theorem rk_lt {N : Nat} {q : List Nat} (h : Inc N q) : rk q < bc N q.length := by
  have key : ∀ (m : Nat) (N : Nat) (q : List Nat), q.length = m → Inc N q → rk q < bc N q.length := by
    intro m
    induction m with
    | zero =>
      intro N q hl _
      obtain rfl : q = [] := List.eq_nil_of_length_eq_zero hl
      show rk [] < bc N 0
      rw [rk_nil, bc_zero]; omega
    | succ m ih =>
      intro N q hl h
      rcases List.eq_nil_or_concat q with rfl | ⟨d, x, rfl⟩
      · simp at hl
      · rw [List.concat_eq_append] at h hl ⊢
        have h1 := inc_snoc.1 h
        have h2 := ih x d (by simp at hl; omega) h1.1
        rw [rk_snoc, List.length_append, List.length_singleton]
        have h3 := bc_mono (show x + 1 ≤ N by omega) (d.length + 1)
        rw [bc_succ] at h3
        omega
  exact key _ N q rfl h

/-- The combination with k elements below n of rank r. -/
def atC : Nat → Nat → Nat → List Nat
  | 0, _, _ => []
  | n + 1, k, r => if k = 0 then [] else if bc n k ≤ r then atC n (k - 1) (r - bc n k) ++ [n] else atC n k r
theorem atC_zero (n r : Nat) : atC n 0 r = [] := by cases n <;> simp [atC]
theorem atC_hit {n k r : Nat} (h : bc n (k + 1) ≤ r) : atC (n + 1) (k + 1) r = atC n k (r - bc n (k + 1)) ++ [n] := by
  rw [atC, if_neg (by omega), if_pos h, Nat.add_sub_cancel]
theorem atC_miss {n k r : Nat} (h : r < bc n (k + 1)) : atC (n + 1) (k + 1) r = atC n (k + 1) r := by
  rw [atC, if_neg (by omega), if_neg (by omega)]
theorem atC_len : ∀ (n : Nat) {k r : Nat}, r < bc n k → (atC n k r).length = k
  | n, 0, r, _ => by rw [atC_zero]; rfl
  | 0, k + 1, r, h => by rw [bc_none] at h; omega
  | n + 1, k + 1, r, h => by
    rw [bc_succ] at h
    rcases Nat.lt_or_ge r (bc n (k + 1)) with h1 | h1
    · rw [atC_miss h1, atC_len n h1]
    · rw [atC_hit h1, List.length_append, atC_len n (show r - bc n (k + 1) < bc n k by omega)]; rfl
theorem atC_inc : ∀ (n : Nat) {k r : Nat}, r < bc n k → Inc n (atC n k r)
  | n, 0, r, _ => by rw [atC_zero]; exact inc_nil _
  | 0, k + 1, r, h => by rw [bc_none] at h; omega
  | n + 1, k + 1, r, h => by
    rw [bc_succ] at h
    rcases Nat.lt_or_ge r (bc n (k + 1)) with h1 | h1
    · rw [atC_miss h1]; exact (atC_inc n h1).mono (by omega)
    · rw [atC_hit h1]; exact inc_snoc.2 ⟨atC_inc n (by omega), by omega⟩
theorem rk_atC : ∀ (n : Nat) {k r : Nat}, r < bc n k → rk (atC n k r) = r
  | n, 0, r, h => by rw [atC_zero, rk_nil]; rw [bc_zero] at h; omega
  | 0, k + 1, r, h => by rw [bc_none] at h; omega
  | n + 1, k + 1, r, h => by
    rw [bc_succ] at h
    rcases Nat.lt_or_ge r (bc n (k + 1)) with h1 | h1
    · rw [atC_miss h1]; exact rk_atC n h1
    · have h2 : r - bc n (k + 1) < bc n k := by omega
      rw [atC_hit h1, rk_snoc, rk_atC n h2, atC_len n h2]; omega
theorem atC_rk : ∀ (n : Nat) (q : List Nat), Inc n q → atC n q.length (rk q) = q
  | 0, q, h => by
    have := h.len_le
    obtain rfl : q = [] := List.eq_nil_of_length_eq_zero (by omega)
    rfl
  | n + 1, q, h => by
    rcases List.eq_nil_or_concat q with rfl | ⟨d, x, rfl⟩
    · exact atC_zero _ _
    · rw [List.concat_eq_append] at h ⊢
      have h1 := inc_snoc.1 h
      rw [List.length_append, List.length_singleton, rk_snoc]
      by_cases hx : x = n
      · subst hx
        rw [atC_hit (by omega), Nat.add_sub_cancel, atC_rk x d h1.1]
      · have h2 : Inc n (d ++ [x]) := inc_snoc.2 ⟨h1.1, by omega⟩
        have h3 := rk_lt h2
        rw [rk_snoc, List.length_append, List.length_singleton] at h3
        rw [atC_miss h3]
        have := atC_rk n (d ++ [x]) h2
        rwa [List.length_append, List.length_singleton, rk_snoc] at this

/-- Position i may grow. -/
def lim (N : Nat) (q : List Nat) (i : Nat) : Nat := if i + 1 < q.length then q.getD (i + 1) 0 else N
/-- None of the first k may grow: they lie one behind the other. -/
theorem packed {N : Nat} {q : List Nat} (h : Inc N q) : ∀ {k : Nat}, k ≤ q.length → (∀ j, j < k → ¬ q.getD j 0 + 1 < lim N q j) → ∀ j, j ≤ k → j < q.length → ∀ i, i ≤ j → q.getD i 0 + (j - i) = q.getD j 0 := by
  intro k hk hn j
  induction j with
  | zero => intro _ _ i hi; obtain rfl : i = 0 := by omega
            omega
  | succ j ih =>
    intro hj hjl i hi
    have h1 := hn j (by omega)
    unfold lim at h1
    rw [if_pos (by omega)] at h1
    have h2 := h.lt (Nat.lt_succ_self j) hjl
    rcases Nat.lt_or_ge j i with h3 | h3
    · obtain rfl : i = j + 1 := by omega
      omega
    · have h4 := ih (by omega) (by omega) i h3
      have : j.succ = j + 1 := rfl
      rw [this] at h2
      omega
theorem rk_run (a : Nat) : ∀ (q : List Nat) (k : Nat), (∀ j, j < k → q.getD j 0 = a + j) → rkTo q k + 1 = bc (a + k) k
  | q, 0, _ => by rw [rkTo, bc_zero]
  | q, k + 1, h => by
    have ih := rk_run a q k (fun j hj => h j (by omega))
    rw [rkTo, h k (by omega), show a + (k + 1) = a + k + 1 by omega, bc_succ]; omega
theorem rk_low : ∀ (q : List Nat) (k : Nat), (∀ j, j < k → q.getD j 0 = j) → rkTo q k = 0
  | q, 0, _ => rfl
  | q, k + 1, h => by rw [rkTo, rk_low q k (fun j hj => h j (by omega)), h k (by omega), bc_gt (by omega)]
/-- The last one. -/
theorem rk_last {N : Nat} {q : List Nat} (h : Inc N q) (hn : ∀ j, j < q.length → ¬ q.getD j 0 + 1 < lim N q j) : rk q + 1 = bc N q.length := by
  have hl := h.len_le
  have key := rk_run (N - q.length) q q.length (fun j hj => by
    have h1 := packed h (Nat.le_refl _) hn (q.length - 1) (by omega) (by omega) j (by omega)
    have h2 := hn (q.length - 1) (by omega)
    have h3 := h.at (i := q.length - 1) (by omega)
    unfold lim at h2
    rw [if_neg (by omega)] at h2
    omega)
  rw [show N - q.length + q.length = N by omega] at key
  exact key
/-- The successor: position k grows, and those before it start anew. -/
def bump (q : List Nat) (k : Nat) : List Nat := List.range k ++ (q.getD k 0 + 1) :: q.drop (k + 1)
theorem bump_len {q : List Nat} {k : Nat} (h : k < q.length) : (bump q k).length = q.length := by simp [bump]; omega
theorem bump_low {q : List Nat} {k j : Nat} (h : j < k) : (bump q k).getD j 0 = j := by
  simp [bump, List.getD_eq_getElem?_getD, List.getElem?_append_left, h]
theorem bump_mid (q : List Nat) (k : Nat) : (bump q k).getD k 0 = q.getD k 0 + 1 := by
  simp [bump, List.getD_eq_getElem?_getD, List.getElem?_append_right]
theorem bump_high {q : List Nat} {k j : Nat} (h : k < j) : (bump q k).getD j 0 = q.getD j 0 := by
  obtain ⟨d, rfl⟩ : ∃ d, j = k + (d + 1) := ⟨j - k - 1, by omega⟩
  simp [bump, List.getD_eq_getElem?_getD, List.getElem?_append_right, Nat.add_assoc, Nat.add_comm 1 d]
theorem Inc.ge {N : Nat} {q : List Nat} (h : Inc N q) : ∀ {i : Nat}, i < q.length → i ≤ q.getD i 0
  | 0, _ => by omega
  | i + 1, hi => by
    have h1 := h.ge (i := i) (by omega)
    have h2 := h.lt (Nat.lt_succ_self i) hi
    have : i.succ = i + 1 := rfl
    rw [this] at h2
    omega
theorem bump_inc {N : Nat} {q : List Nat} {k : Nat} (h : Inc N q) (hk : k < q.length) (hg : q.getD k 0 + 1 < lim N q k) : Inc N (bump q k) := by
  unfold lim at hg
  refine inc_of (fun j hj => ?_) (fun j hj => ?_)
  · rw [bump_len hk] at hj
    rcases Nat.lt_trichotomy (j + 1) k with h1 | h1 | h1
    · rw [bump_low (by omega), bump_low h1]; omega
    · subst h1; rw [bump_low (by omega), bump_mid]; have := h.ge hk; omega
    · rcases Nat.lt_or_ge k j with h2 | h2
      · rw [bump_high h2, bump_high h1]; exact h.lt (by omega) hj
      · obtain rfl : j = k := by omega
        rw [bump_mid, bump_high h1]
        rw [if_pos hj] at hg; exact hg
  · rw [bump_len hk] at hj
    rcases Nat.lt_trichotomy j k with h1 | h1 | h1
    · rw [bump_low h1]; have := h.ge hk; have := h.at hk; omega
    · subst h1; rw [bump_mid]
      split at hg
      · rename_i h2; have := h.at h2; omega
      · exact hg
    · rw [bump_high h1]; exact h.at hj
theorem rkTo_high {a b : List Nat} {k : Nat} (h : ∀ j, k ≤ j → a.getD j 0 = b.getD j 0) : ∀ m, rkTo a (k + m) + rkTo b k = rkTo b (k + m) + rkTo a k
  | 0 => by simp; omega
  | m + 1 => by rw [← Nat.add_assoc, rkTo, rkTo, h (k + m) (by omega)]; have := rkTo_high h m; omega
theorem rk_bump {N : Nat} {q : List Nat} {k : Nat} (h : Inc N q) (hk : k < q.length) (hn : ∀ j, j < k → ¬ q.getD j 0 + 1 < lim N q j) : rk (bump q k) = rk q + 1 := by
  have h1 := rkTo_high (a := bump q k) (b := q) (k := k + 1) (fun j hj => bump_high (by omega)) (q.length - (k + 1))
  rw [show k + 1 + (q.length - (k + 1)) = q.length by omega] at h1
  unfold rk
  rw [bump_len hk]
  have h2 : rkTo (bump q k) (k + 1) = bc (q.getD k 0 + 1) (k + 1) := by
    rw [rkTo, rk_low _ _ (fun j hj => bump_low hj), bump_mid, Nat.zero_add]
  have hge := h.ge hk
  have h3 := rk_run (q.getD k 0 - k) q (k + 1) (fun j hj => by
    have := packed h (Nat.le_of_lt hk) hn k (Nat.le_refl _) hk j (by omega)
    omega)
  rw [show q.getD k 0 - k + (k + 1) = q.getD k 0 + 1 by omega] at h3
  omega
end Go.Proofs.Ytojoecoocbjgaaa
