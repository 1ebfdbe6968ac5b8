/- Counts: how many are y, less, at most; by the sorted list. -/
import Derived.Test.YtclfimpcacoefaaQz1
namespace Go.Proofs.Ytclfimpcacoefaa

/-- How many are y. -/
def ceq (xs : List Int) (y : Int) : Int := (xs.countP (fun x => decide (x = y)) : Nat)
theorem ceq_snoc (xs : List Int) (x y : Int) : ceq (xs ++ [x]) y = ceq xs y + if x = y then 1 else 0 := by
  unfold ceq
  rw [List.countP_append, List.countP_singleton]
  by_cases h : x = y
  · rw [decide_eq_true h, if_pos h]; simp
  · rw [decide_eq_false h, if_neg h]; simp
theorem cle_parts (y : Int) : ∀ xs : List Int, cle xs y = clt xs y + ceq xs y
  | [] => rfl
  | x :: xs => by
    have ih := cle_parts y xs
    unfold cle clt ceq at *
    rw [List.countP_cons, List.countP_cons, List.countP_cons]
    by_cases h1 : x < y
    · rw [decide_eq_true (show x ≤ y by omega), decide_eq_true h1, decide_eq_false (show ¬ x = y by omega)]
      simp; omega
    · by_cases h2 : x = y
      · rw [decide_eq_true (show x ≤ y by omega), decide_eq_false h1, decide_eq_true h2]
        simp; omega
      · rw [decide_eq_false (show ¬ x ≤ y by omega), decide_eq_false h1, decide_eq_false h2]
        simp; omega
theorem ceq_pos {xs : List Int} {y : Int} (h : y ∈ xs) : 1 ≤ ceq xs y := by
  unfold ceq
  have : 0 < xs.countP (fun x => decide (x = y)) := List.countP_pos_iff.2 ⟨y, h, by simp⟩
  omega
theorem ceq_le (xs : List Int) (y : Int) : 0 ≤ ceq xs y ∧ ceq xs y ≤ xs.length := by
  unfold ceq
  have := List.countP_le_length (l := xs) (p := fun x => decide (x = y))
  omega
def imsort (xs : List Int) : List Int := xs.mergeSort fun x y => decide (x ≤ y)
theorem imsort_srt (xs : List Int) : (imsort xs).Pairwise fun a b => a ≤ b := by
  refine (List.pairwise_mergeSort (le := fun x y : Int => decide (x ≤ y)) ?_ ?_ xs).imp (fun h => by simpa using h)
  · intro a b c h1 h2; simp at *; omega
  · intro a b; simp; omega
theorem imsort_perm (xs : List Int) : (imsort xs).Perm xs := List.mergeSort_perm xs _
theorem imsort_only {L xs : List Int} (h : L.Perm xs) (hd : L.Pairwise fun a b => a ≤ b) : L = imsort xs :=
  List.Perm.eq_of_pairwise (le := fun a b : Int => a ≤ b) (fun a b _ _ h1 h2 => by omega) hd (imsort_srt xs) (h.trans (imsort_perm xs).symm)
/-- The first i are such, none behind them. -/
theorem count_first {M : List Int} {i : Nat} (q : Int → Bool) (hi : i ≤ M.length) (h1 : ∀ j, j < i → q (M.getD j 0) = true) (h2 : ∀ j, i ≤ j → j < M.length → q (M.getD j 0) = false) : M.countP q = i := by
  have e := List.take_append_drop i M
  rw [← e, List.countP_append]
  have a1 : (M.take i).countP q = i := by
    have : (M.take i).countP q = (M.take i).length := by
      rw [List.countP_eq_length]
      intro y hy
      obtain ⟨j, hj, e⟩ := List.getElem_of_mem hy
      rw [List.length_take] at hj
      have := h1 j (by omega)
      rw [List.getD_eq_getElem?_getD, List.getElem?_eq_getElem (by omega), Option.getD_some] at this
      rw [List.getElem_take] at e
      rw [← e]; exact this
    rw [this, List.length_take]; omega
  have a2 : (M.drop i).countP q = 0 := by
    rw [List.countP_eq_zero]
    intro y hy
    obtain ⟨j, hj, e⟩ := List.getElem_of_mem hy
    rw [List.length_drop] at hj
    have := h2 (i + j) (by omega) (by omega)
    rw [List.getD_eq_getElem?_getD, List.getElem?_eq_getElem (by omega), Option.getD_some] at this
    rw [List.getElem_drop] at e
    rw [← e, this]; simp
  omega
theorem srt_getD {M : List Int} (h : M.Pairwise fun a b => a ≤ b) {i j : Nat} (hij : i ≤ j) (hj : j < M.length) : M.getD i 0 ≤ M.getD j 0 := by
  by_cases e : i = j
  · rw [e]; exact Int.le_refl _
  · rw [List.pairwise_iff_getElem] at h
    have := h i j (by omega) hj (by omega)
    rw [List.getD_eq_getElem?_getD, List.getElem?_eq_getElem (by omega), Option.getD_some, List.getD_eq_getElem?_getD, List.getElem?_eq_getElem hj, Option.getD_some]
    exact this
theorem clt_of {xs : List Int} {N : Int} {i : Nat} (hi : i ≤ (imsort xs).length) (h1 : ∀ j, j < i → (imsort xs).getD j 0 < N) (h2 : i < (imsort xs).length → ¬ (imsort xs).getD i 0 < N) : clt xs N = i := by
  have hc := count_first (M := imsort xs) (i := i) (fun x => decide (x < N)) hi (fun j hj => decide_eq_true (h1 j hj)) (fun j hj hl => decide_eq_false (fun h => h2 (by omega) (by
    have := srt_getD (imsort_srt xs) hj hl
    omega)))
  unfold clt
  rw [← hc, (imsort_perm xs).countP_eq]
theorem cle_of {xs : List Int} {N : Int} {i t : Nat} (hit : i ≤ t) (ht : t ≤ (imsort xs).length) (h1 : ∀ j, j < i → (imsort xs).getD j 0 < N) (h2 : i < (imsort xs).length → ¬ (imsort xs).getD i 0 < N) (h3 : ∀ j, i ≤ j → j < t → (imsort xs).getD j 0 = N) (h4 : t < (imsort xs).length → (imsort xs).getD t 0 ≠ N) : cle xs N = t := by
  have hc := count_first (M := imsort xs) (i := t) (fun x => decide (x ≤ N)) ht (fun j hj => decide_eq_true (by
    by_cases e : j < i
    · have := h1 j e; omega
    · have := h3 j (by omega) hj; omega)) (fun j hj hl => decide_eq_false (fun h => by
    have h5 := srt_getD (imsort_srt xs) hj hl
    have h6 := h4 (by omega)
    have h7 := srt_getD (imsort_srt xs) hit (show t < (imsort xs).length by omega)
    have h8 := h2 (by omega)
    omega))
  unfold cle
  rw [← hc, (imsort_perm xs).countP_eq]
end Go.Proofs.Ytclfimpcacoefaa
