/- What slices.Compact leaves of a row in order: each one once. -/
import Derived.Test.YtnihcpaakbhpcaaGa
import Derived.Lib.SlicesCompact
namespace Go.Proofs.Ytnihcpaakbhpcaa
open Go.Lib

theorem getB {α : Type} [Inhabited α] (l : List α) {i : Nat} (hi : i < l.length) : l.toArray[i]! = l[i] := by simp [hi]
/-- Those that stay of the first m. -/
theorem compact_upto {r : W64 → Nat} (hr : ∀ x y, r x = r y → x = y) {l : List W64} (hl : l.Pairwise fun x y => r x ≤ r y) : ∀ m, m ≤ l.length →
    Ra r (compactUpTo l.toArray m) ∧ (∀ x, x ∈ compactUpTo l.toArray m ↔ x ∈ l.take m) ∧ ∀ x ∈ compactUpTo l.toArray m, ∀ h : m - 1 < l.length, r x ≤ r l[m - 1]
  | 0, _ => by
    have e : compactUpTo l.toArray 0 = [] := rfl
    rw [e]
    exact ⟨List.Pairwise.nil, by simp, by simp⟩
  | m + 1, hm => by
    obtain ⟨h1, h2, h3⟩ := compact_upto hr hl m (by omega)
    have hml : m < l.length := by omega
    rw [compactUpTo_succ, getB l hml]
    have htk : l.take (m + 1) = l.take m ++ [l[m]] := by rw [List.take_add_one]; simp [hml]
    have hle : ∀ i (h : i < m), r l[i] ≤ r l[m] := fun i h => List.pairwise_iff_getElem.1 hl i m (by omega) hml h
    have hall : ∀ x ∈ compactUpTo l.toArray m, r x ≤ r l[m] := fun x hx => by
      rw [h2] at hx
      obtain ⟨i, hi, e⟩ := List.getElem_of_mem hx
      rw [List.getElem_take] at e
      rw [← e]
      exact hle i (by rw [List.length_take] at hi; omega)
    cases hk : keeps l.toArray m
    · rw [if_neg (by simp), List.append_nil, htk]
      have hm0 : 0 < m := by
        rcases Nat.eq_zero_or_pos m with h | h
        · subst h; simp [keeps] at hk
        · exact h
      have he : l[m] = l[m - 1] := by
        simp [keeps, getB l hml, getB l (show m - 1 < l.length by omega)] at hk
        have := hk.2
        simpa [hml, show m - 1 < l.length by omega] using this
      refine ⟨h1, fun x => ?_, fun x hx h => hall x hx⟩
      rw [h2, List.mem_append, List.mem_singleton]
      constructor
      · exact Or.inl
      · rintro (h | h)
        · exact h
        · rw [h, he, List.mem_take_iff_getElem]
          exact ⟨m - 1, by omega, rfl⟩
    · rw [if_pos rfl, htk]
      have hlt : ∀ x ∈ compactUpTo l.toArray m, r x < r l[m] := fun x hx => by
        rcases Nat.eq_zero_or_pos m with h | h
        · subst h
          have e : compactUpTo l.toArray 0 = [] := rfl
          rw [e] at hx; simp at hx
        · have h4 := h3 x hx (by omega)
          have h5 := hle (m - 1) (by omega)
          have h6 : l[m] ≠ l[m - 1] := by
            simp [keeps, getB l hml, getB l (show m - 1 < l.length by omega)] at hk
            rcases hk with hk | hk
            · omega
            · simpa [hml, show m - 1 < l.length by omega] using hk
          have h7 : r l[m - 1] ≠ r l[m] := fun e => h6 (hr _ _ e).symm
          omega
      refine ⟨?_, fun x => ?_, fun x hx h => ?_⟩
      · refine List.pairwise_append.2 ⟨h1, List.pairwise_singleton _ _, fun x hx y hy => ?_⟩
        rw [List.mem_singleton] at hy
        subst hy
        exact hlt x hx
      · rw [List.mem_append, List.mem_append, h2]
      · rcases List.mem_append.1 hx with h | h
        · exact hall x h
        · rw [List.mem_singleton] at h
          subst h
          exact Nat.le_refl _
theorem compact_ful {r : W64 → Nat} (hr : ∀ x y, r x = r y → x = y) {l ds : List W64} (hl : l.Pairwise fun x y => r x ≤ r y) (hp : ∀ x, x ∈ l ↔ x ∈ ds) : compact l = ful r ds := by
  obtain ⟨h1, h2, _⟩ := compact_upto hr hl l.length (Nat.le_refl _)
  refine ful_of r hr h1 fun x => ?_
  rw [compact, h2, List.take_length, hp]
end Go.Proofs.Ytnihcpaakbhpcaa
