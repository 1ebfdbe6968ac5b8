/- stats: the median is nearest to all; who stands at a place (ahead of the code; builds by itself). -/
import Derived.Test.YtclfimpcacoefaaCq
namespace Go.Proofs.Ytclfimpcacoefaa

def fsum (f : Int → Int) : List Int → Int
  | [] => 0
  | x :: l => f x + fsum f l
theorem fsum_app (f : Int → Int) (a b : List Int) : fsum f (a ++ b) = fsum f a + fsum f b := by
  induction a with
  | nil => simp [fsum]
  | cons x l ih => simp only [List.cons_append, fsum, ih]; omega
theorem fsum_perm (f : Int → Int) {a b : List Int} (h : a.Perm b) : fsum f a = fsum f b := by
  induction h with
  | nil => rfl
  | cons x _ ih => simp only [fsum, ih]
  | swap x y l => simp only [fsum]; omega
  | trans _ _ h1 h2 => rw [h1, h2]
theorem fsum_rev (f : Int → Int) (a : List Int) : fsum f a.reverse = fsum f a := fsum_perm f (List.reverse_perm a)
theorem fsum_two (f g : Int → Int) : ∀ (A B : List Int), A.length = B.length → (∀ i, i < A.length → f (A.getD i 0) + f (B.getD i 0) ≤ g (A.getD i 0) + g (B.getD i 0)) → fsum f A + fsum f B ≤ fsum g A + fsum g B
  | [], [], _, _ => Int.le_refl _
  | a :: A, b :: B, hl, h => by
    have h0 := h 0 (by simp)
    have ih := fsum_two f g A B (by simpa using hl) (fun i hi => by have := h (i + 1) (by simpa using hi); simpa using this)
    simp only [fsum]
    simp only [List.getD_cons_zero] at h0
    omega
  | [], _ :: _, h, _ => by simp at h
  | _ :: _, [], h, _ => by simp at h
/-- Twice the median of a sorted list. -/
def smed (M : List Int) : Int := M.getD ((M.length - 1) / 2) 0 + M.getD (M.length / 2) 0
def near2 (m y : Int) : Int := max (m - 2 * y) (2 * y - m)
def far2 (x y : Int) : Int := 2 * max (x - y) (y - x)
theorem med_near {M : List Int} (h : M.Pairwise fun a b => a ≤ b) (x : Int) : fsum (near2 (smed M)) M ≤ fsum (far2 x) M := by
  have key := fsum_two (near2 (smed M)) (far2 x) M M.reverse (by simp) (fun i hi => by
    have hr : M.reverse.getD i 0 = M.getD (M.length - 1 - i) 0 := by
      rw [List.getD_eq_getElem?_getD, List.getD_eq_getElem?_getD, List.getElem?_reverse hi]
    rw [hr]
    have hm : smed M = M.getD ((M.length - 1) / 2) 0 + M.getD (M.length / 2) 0 := rfl
    by_cases hle : i ≤ M.length - 1 - i
    · have a1 := srt_getD h (show i ≤ (M.length - 1) / 2 by omega) (by omega)
      have a2 := srt_getD h (show i ≤ M.length / 2 by omega) (by omega)
      have b1 := srt_getD h (show (M.length - 1) / 2 ≤ M.length - 1 - i by omega) (by omega)
      have b2 := srt_getD h (show M.length / 2 ≤ M.length - 1 - i by omega) (by omega)
      unfold near2 far2
      generalize M.getD i 0 = a at *
      generalize M.getD (M.length - 1 - i) 0 = b at *
      omega
    · have a1 := srt_getD h (show M.length - 1 - i ≤ (M.length - 1) / 2 by omega) (by omega)
      have a2 := srt_getD h (show M.length - 1 - i ≤ M.length / 2 by omega) (by omega)
      have b1 := srt_getD h (show (M.length - 1) / 2 ≤ i by omega) (by omega)
      have b2 := srt_getD h (show M.length / 2 ≤ i by omega) (by omega)
      unfold near2 far2
      generalize M.getD i 0 = a at *
      generalize M.getD (M.length - 1 - i) 0 = b at *
      omega)
  rw [fsum_rev, fsum_rev] at key
  omega
theorem med_all (l : List Int) (x : Int) : fsum (near2 (smed (imsort l))) l ≤ fsum (far2 x) l := by
  rw [← fsum_perm _ (imsort_perm l), ← fsum_perm _ (imsort_perm l)]
  exact med_near (imsort_srt l) x
/-- Who stands at place k: so many are less, and with the same ones more. -/
theorem imsort_len (l : List Int) : (imsort l).length = l.length := by unfold imsort; exact List.length_mergeSort _
theorem countP_split (q : Int → Bool) (M : List Int) (k : Nat) : M.countP q = (M.take k).countP q + (M.drop k).countP q := by
  rw [← List.countP_append, List.take_append_drop]
theorem countP_take_le (q : Int → Bool) (M : List Int) (k : Nat) : (M.take k).countP q ≤ M.countP q := by
  have := List.take_append_drop k M
  conv => rhs; rw [← this, List.countP_append]
  omega
theorem at_place {l : List Int} {k : Nat} (hk : k < l.length) : (imsort l).getD k 0 ∈ l ∧ clt l ((imsort l).getD k 0) ≤ k ∧ (k : Int) < cle l ((imsort l).getD k 0) := by
  have hl := imsort_len l
  have hs := imsort_srt l
  have hp := imsort_perm l
  have hm : (imsort l).getD k 0 ∈ imsort l := by
    rw [List.getD_eq_getElem?_getD, List.getElem?_eq_getElem (by omega)]; exact List.getElem_mem _
  refine ⟨hp.mem_iff.1 hm, ?_, ?_⟩
  · unfold clt
    rw [← hp.countP_eq]
    have h2 : (imsort l).countP (fun x => decide (x < (imsort l).getD k 0)) = ((imsort l).take k).countP (fun x => decide (x < (imsort l).getD k 0)) := by
      rw [countP_split _ (imsort l) k]
      have : ((imsort l).drop k).countP (fun x => decide (x < (imsort l).getD k 0)) = 0 := by
        rw [List.countP_eq_zero]
        intro y hy
        obtain ⟨j, hj, ey⟩ := List.getElem_of_mem hy
        rw [List.length_drop] at hj
        rw [List.getElem_drop] at ey
        have := srt_getD hs (show k ≤ k + j by omega) (by omega)
        rw [show (imsort l).getD (k + j) 0 = y by rw [List.getD_eq_getElem?_getD, List.getElem?_eq_getElem (by omega), Option.getD_some, ey]] at this
        rw [decide_eq_true_eq]; omega
      rw [this, Nat.add_zero]
    rw [h2]
    have := List.countP_le_length (l := (imsort l).take k) (p := fun x => decide (x < (imsort l).getD k 0))
    rw [List.length_take] at this
    omega
  · unfold cle
    rw [← hp.countP_eq]
    have h1 := countP_take_le (fun x => decide (x ≤ (imsort l).getD k 0)) (imsort l) (k + 1)
    have h2 : ((imsort l).take (k + 1)).countP (fun x => decide (x ≤ (imsort l).getD k 0)) = ((imsort l).take (k + 1)).length := by
      rw [List.countP_eq_length]
      intro y hy
      obtain ⟨j, hj, ey⟩ := List.getElem_of_mem hy
      rw [List.length_take] at hj
      rw [List.getElem_take] at ey
      have := srt_getD hs (show j ≤ k by omega) (by omega)
      rw [show (imsort l).getD j 0 = y by rw [List.getD_eq_getElem?_getD, List.getElem?_eq_getElem (by omega), Option.getD_some, ey]] at this
      rw [decide_eq_true_eq]; exact this
    rw [h2, List.length_take] at h1
    omega
/-- None else stands there. -/
theorem at_only {l : List Int} {k : Nat} {v w : Int} (h1 : clt l v ≤ k) (h2 : (k : Int) < cle l v) (h3 : clt l w ≤ k) (h4 : (k : Int) < cle l w) : v = w := by
  have key : ∀ a b : Int, a < b → cle l a ≤ clt l b := fun a b hab => by
    unfold cle clt
    have := List.countP_mono_left (l := l) (p := fun x => decide (x ≤ a)) (q := fun x => decide (x < b)) (fun x _ hx => by simp only [decide_eq_true_eq] at *; omega)
    omega
  apply Classical.byContradiction
  intro hne
  rcases Int.lt_or_gt_of_ne hne with h | h
  · have := key v w h; omega
  · have := key w v h; omega
end Go.Proofs.Ytclfimpcacoefaa
