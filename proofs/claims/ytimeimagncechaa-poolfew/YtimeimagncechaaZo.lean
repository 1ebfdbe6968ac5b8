/- What a stream leaves in a reservoir: the mathematics. -/
import Derived.Test.YtimeimagncechaaZa
namespace Go.Proofs.Ytimeimagncechaa

theorem count_set_le (xs : List Int) (i : Nat) (x a : Int) : (xs.set i x).count a ≤ xs.count a + [x].count a := by
  induction xs generalizing i with
  | nil => simp
  | cons y r ih =>
    cases i with
    | zero => simp only [List.set_cons_zero, List.count_cons, List.count_nil]; split <;> split <;> omega
    | succ i => have := ih i; simp only [List.set_cons_succ, List.count_cons, List.count_nil] at *; omega
theorem count_nx_le (r : Int) (xs : List Int) (x d a : Int) : (nx r xs x d).count a ≤ xs.count a + [x].count a := by
  unfold nx
  split
  · rw [List.count_append]; exact Nat.le_refl _
  · split
    · exact count_set_le _ _ _ _
    · omega
/-- What comes of a stream. -/
structure GoIs (r c : Int) (xs l : List Int) (ys : List Int) : Prop where
  cnt : ∀ a, ys.count a ≤ xs.count a + l.count a
  pr : PR r c xs → PR r (c + l.length) ys
  few : c + (l.length : Int) ≤ r → (xs.length : Int) = c → ys = xs ++ l
  low : c ≤ 1099511627776 → c + (l.length : Int) ≤ 1099511627776
theorem goR_cases (r : Int) : ∀ (l ds : List Int) (c : Int) (xs : List Int), l.length = ds.length → (∃ e, e ≠ 0 ∧ goR r c xs l ds = (pz, e)) ∨ ∃ ys, goR r c xs l ds = ((r, c + (l.length : Int), ys), 0) ∧ GoIs r c xs l ys
  | [], [], c, xs, _ => by
    right
    refine ⟨xs, by rw [goR_nil]; simp, ⟨fun a => by simp, fun h => by simpa using h, fun _ _ => by simp, fun h => by simpa using h⟩⟩
  | x :: l, d :: ds, c, xs, h => by
    rw [goR]
    by_cases h1 : c = 1099511627776
    · rw [if_pos h1]; exact .inl ⟨4, by omega, rfl⟩
    · rw [if_neg h1]
      by_cases h2 : d < 0 ∨ c < d
      · rw [if_pos h2]; exact .inl ⟨2, by omega, rfl⟩
      · rw [if_neg h2]
        rcases goR_cases r l ds (c + 1) (nx r xs x d) (by simpa using h) with ⟨e, he, hg⟩ | ⟨ys, hg, hi⟩
        · exact .inl ⟨e, he, hg⟩
        · refine .inr ⟨ys, by rw [hg]; simp only [List.length_cons]; congr 3; omega, ⟨fun a => ?_, fun hp => ?_, fun hc hl => ?_, fun hc => ?_⟩⟩
          · have h3 := hi.cnt a
            have h4 := count_nx_le r xs x d a
            have h5 : (x :: l).count a = [x].count a + l.count a := by rw [← List.count_append]; rfl
            omega
          · have := hi.pr (pr_nx hp h1)
            simp only [List.length_cons]
            rw [show c + ((l.length + 1 : Nat) : Int) = c + 1 + (l.length : Int) by omega]
            exact this
          · simp only [List.length_cons] at hc
            have h3 : (xs.length : Int) < r := by omega
            have := hi.few (by omega) (by rw [nx_room h3]; simp; omega)
            rw [this, nx_room h3]; simp
          · have := hi.low (by omega)
            simp only [List.length_cons]; omega
  | [], _ :: _, _, _, h => by simp at h
  | _ :: _, [], _, _, h => by simp at h
theorem allR_cases (r : Int) (l ds : List Int) : (∃ e, e ≠ 0 ∧ allR r l ds = (pz, e)) ∨ ∃ ys, allR r l ds = ((r, (l.length : Int), ys), 0) ∧ GoIs r 0 [] l ys ∧ PR r l.length ys ∧ l.length = ds.length ∧ 1 ≤ r ∧ r ≤ 400 := by
  unfold allR
  by_cases h1 : r < 1 ∨ 400 < r
  · rw [if_pos h1]; exact .inl ⟨2, by omega, rfl⟩
  · rw [if_neg h1]
    by_cases h2 : l.length ≠ ds.length
    · rw [if_pos h2]; exact .inl ⟨1, by omega, rfl⟩
    · rw [if_neg h2]
      rcases goR_cases r l ds 0 [] (by omega) with ⟨e, he, hg⟩ | ⟨ys, hg, hi⟩
      · exact .inl ⟨e, he, hg⟩
      · refine .inr ⟨ys, by rw [hg]; simp, hi, ?_, by omega, by omega, by omega⟩
        have := hi.pr (pr_new (by omega) (by omega))
        simpa using this

theorem count_erase (u : List Int) (k : Nat) (h : k < u.length) (a : Int) : (u.eraseIdx k).count a + [u.getD k 0].count a = u.count a := by
  induction u generalizing k with
  | nil => simp at h
  | cons y r ih =>
    cases k with
    | zero => simp only [List.eraseIdx_cons_zero, List.getD_cons_zero, List.count_cons, List.count_nil]; omega
    | succ k =>
      have := ih k (by simpa using h)
      simp only [List.eraseIdx_cons_succ, List.getD_cons_succ, List.count_cons, List.count_nil] at *
      omega
end Go.Proofs.Ytimeimagncechaa
