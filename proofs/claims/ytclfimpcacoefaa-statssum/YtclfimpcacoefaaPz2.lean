/- stats: one run alone: all the same. -/
import Derived.Test.YtclfimpcacoefaaPz0
import Derived.Lib.SlicesCompact
namespace Go.Proofs.Ytclfimpcacoefaa
open Go.Lib

theorem cpt_len (d : Array Int) : ∀ m : Nat, ((compactUpTo d m).length ≤ 1 ↔ ∀ j, j < m → d[j]! = d[0]!) ∧ (0 < m → 1 ≤ (compactUpTo d m).length)
  | 0 => ⟨⟨fun _ j hj => by omega, fun _ => by simp [compactUpTo]⟩, fun h => by omega⟩
  | m + 1 => by
    have ih := cpt_len d m
    rw [compactUpTo_succ, List.length_append]
    by_cases h0 : m = 0
    · subst h0
      have : keeps d 0 = true := keeps_lt_one d 0 (by omega)
      rw [if_pos this]
      have e : compactUpTo d 0 = [] := rfl
      rw [e]
      exact ⟨⟨fun _ j hj => by rw [show j = 0 by omega], fun _ => by simp⟩, fun _ => by simp⟩
    · have h1 := ih.2 (by omega)
      by_cases hk : d[m]! = d[m - 1]!
      · rw [keeps_neg (by omega) hk]
        refine ⟨⟨fun h j hj => ?_, fun h => ?_⟩, fun _ => by simp; omega⟩
        · have h2 := ih.1.1 (by simpa using h)
          by_cases e : j = m
          · rw [e, hk]; exact h2 _ (by omega)
          · exact h2 _ (by omega)
        · have := ih.1.2 (fun j hj => h j (by omega))
          simpa using this
      · rw [keeps_pos hk]
        refine ⟨⟨fun h j hj => ?_, fun h => ?_⟩, fun _ => by simp⟩
        · rw [if_pos rfl, List.length_singleton] at h; omega
        · exact absurd ((h m (by omega)).trans (h (m - 1) (by omega)).symm) hk
theorem compact_one (l : List Int) : (compact l).length ≤ 1 ↔ ∀ x ∈ l, ∀ y ∈ l, x = y := by
  have h := (cpt_len l.toArray l.length).1
  unfold compact
  rw [h]
  have ea : ∀ (j : Nat) (hj : j < l.length), l.toArray[j]! = l[j] := fun j hj => by simp [hj]
  constructor
  · intro h x hx y hy
    obtain ⟨i, hi, rfl⟩ := List.getElem_of_mem hx
    obtain ⟨j, hj, rfl⟩ := List.getElem_of_mem hy
    rw [← ea i hi, ← ea j hj, h i hi, h j hj]
  · intro h j hj
    rw [ea j hj, ea 0 (by omega)]
    exact h _ (List.getElem_mem _) _ (List.getElem_mem _)
theorem spr_compact (l : List Int) : decide (spr l = 0) = decide ((compact l).length ≤ 1) := by
  apply decide_eq_decide.2
  rw [spr_zero, compact_one]
end Go.Proofs.Ytclfimpcacoefaa
