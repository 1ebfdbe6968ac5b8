/- quant: Right's parts. -/
import Derived.Test.YtimcbeblmicioaaQm0
namespace Go.Proofs.Ytimcbeblmicioaa
open Go.RowKit Go.Deep

/-- Entry i is right, and stands right behind the one ahead of it. -/
def qE (S : List Rk) (i : Nat) : Prop := 1 ≤ (rat S i).g ∧ (rat S i).g ≤ 1099511627776 ∧ 0 ≤ (rat S i).m ∧ (rat S i).m ≤ 1099511627776 ∧ (i = 0 ∨ (rat S (i - 1)).n ≤ (rat S i).n)
/-- The first k are. -/
def qP (p : Int) (S : List Rk) (k : Nat) : Prop := (1 ≤ p ∧ p ≤ 100 ∧ S.length ≤ 400) ∧ ∀ i, i < k → qE S i
theorem qP_step {p : Int} {S : List Rk} {k : Nat} : qP p S (k + 1) ↔ qP p S k ∧ qE S k := by
  unfold qP
  constructor
  · rintro ⟨h, h2⟩
    exact ⟨⟨h, fun i hi => h2 i (by omega)⟩, h2 k (by omega)⟩
  · rintro ⟨⟨h, h2⟩, h3⟩
    refine ⟨h, fun i hi => ?_⟩
    by_cases e : i = k
    · rw [e]; exact h3
    · exact h2 i (by omega)
theorem rat_of_mem {S : List Rk} {r : Rk} (h : r ∈ S) : ∃ i, i < S.length ∧ rat S i = r := by
  obtain ⟨i, hi, e⟩ := List.getElem_of_mem h
  exact ⟨i, hi, by unfold rat; simp [List.getD_eq_getElem?_getD, hi, e]⟩
theorem rat_get {S : List Rk} {i : Nat} (h : i < S.length) : S[i] = rat S i := by
  unfold rat; simp [List.getD_eq_getElem?_getD, h]
theorem qsrt_adj {S : List Rk} (h : ∀ i, i < S.length → i = 0 ∨ (rat S (i - 1)).n ≤ (rat S i).n) : qsrt S := by
  have key : ∀ (d i : Nat), i + d < S.length → (rat S i).n ≤ (rat S (i + d)).n := fun d => by
    induction d with
    | zero => intro i _; exact Int.le_refl _
    | succ d ih =>
      intro i hi
      have h1 := ih i (by omega)
      rcases h (i + (d + 1)) hi with h2 | h2
      · omega
      · rw [show i + (d + 1) - 1 = i + d by omega] at h2
        exact Int.le_trans h1 h2
  unfold qsrt
  rw [List.pairwise_iff_getElem]
  intro i j hi hj hij
  have := key (j - i) i (by omega)
  rw [show i + (j - i) = j by omega] at this
  rw [rat_get hi, rat_get hj]
  exact this
theorem qsrt_le {S : List Rk} (h : qsrt S) {i j : Nat} (hij : i < j) (hj : j < S.length) : (rat S i).n ≤ (rat S j).n := by
  unfold qsrt at h
  rw [List.pairwise_iff_getElem] at h
  have := h i j (by omega) hj hij
  rw [rat_get (by omega), rat_get hj] at this
  exact this
/-- Entry i is over the bound. -/
def qOver (p : Int) (S : List Rk) (i : Nat) : Prop := 1 < (rat S i).g + (rat S i).m ∧ 2 * qtot S < ((rat S i).g + (rat S i).m) * p
theorem QR_iff {p : Int} {S : List Rk} : QR p S ↔ qP p S S.length ∧ qtot S ≤ 1099511627776 ∧ ∀ i, i < S.length → ¬ qOver p S i := by
  constructor
  · intro h
    refine ⟨⟨⟨h.p1, h.p2, h.len⟩, fun i hi => ?_⟩, h.tot, fun i hi ho => ?_⟩
    · obtain ⟨a, b, c, d⟩ := h.each _ (rat_mem hi)
      refine ⟨a, b, c, d, ?_⟩
      by_cases e : i = 0
      · exact .inl e
      · exact .inr (qsrt_le h.srt (by omega) hi)
    · obtain ⟨o1, o2⟩ := ho
      rcases h.fit _ (rat_mem hi) with h1 | h1
      · omega
      · have := (Int.le_ediv_iff_mul_le (by have := h.p1; omega)).1 h1
        omega
  · rintro ⟨⟨⟨h1, h2, h3⟩, h4⟩, h5, h6⟩
    refine ⟨h1, h2, h3, fun r hr => ?_, qsrt_adj (fun i hi => (h4 i hi).2.2.2.2), h5, fun r hr => ?_⟩
    · obtain ⟨i, hi, rfl⟩ := rat_of_mem hr
      obtain ⟨a, b, c, d, _⟩ := h4 i hi
      exact ⟨a, b, c, d⟩
    · obtain ⟨i, hi, rfl⟩ := rat_of_mem hr
      have := h6 i hi
      unfold qOver at this
      by_cases h7 : (rat S i).g + (rat S i).m ≤ 1
      · exact .inl h7
      · refine .inr ((Int.le_ediv_iff_mul_le (by omega)).2 ?_)
        apply Classical.byContradiction
        intro h8
        exact this ⟨by omega, by omega⟩
theorem qP_tot {p : Int} {S : List Rk} {k : Nat} (h : qP p S k) (hk : k ≤ S.length) : 0 ≤ qtot (S.take k) ∧ qtot (S.take k) ≤ k * 1099511627776 := by
  induction k with
  | zero => simp [qtot]
  | succ k ih =>
    obtain ⟨h1, h2⟩ := qP_step.1 h
    have := ih h1 (by omega)
    rw [qtot_take (by omega)]
    have := h2.1
    have := h2.2.1
    omega
end Go.Proofs.Ytimcbeblmicioaa
