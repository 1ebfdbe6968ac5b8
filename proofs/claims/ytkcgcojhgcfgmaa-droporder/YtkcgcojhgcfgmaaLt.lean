/- The level knows no order; with more room it is no higher. -/
import Derived.Test.YtkcgcojhgcfgmaaLk
namespace Go.Proofs.Ytkcgcojhgcfgmaa

theorem wd_perm {V W : List Int} {m : Int} (h : V.Perm W) : WD V m ↔ WD W m := by
  unfold WD
  rw [h.length_eq]
  constructor
  · rintro ⟨h1, h2, h3, h4⟩
    exact ⟨h1, h2, h3, fun x hx => h4 x (h.mem_iff.2 hx)⟩
  · rintro ⟨h1, h2, h3, h4⟩
    exact ⟨h1, h2, h3, fun x hx => h4 x (h.mem_iff.1 hx)⟩
theorem levF_perm {V W : List Int} {m : Int} (h : V.Perm W) : levF V m = levF W m := by
  unfold levF
  rw [h.length_eq, dsc_of_perm h, sumW_perm h]
theorem levC_perm {V W : List Int} {m : Int} (h : V.Perm W) : levC V m = levC W m := by
  rcases Classical.em (WD W m) with hd | hd
  · rw [levC_ok hd, levC_ok ((wd_perm h).2 hd), levF_perm h]
  · rw [levC_no hd, levC_no (fun e => hd ((wd_perm h).1 e))]
/-- Whatever goes on from here is not above s0 through n0. -/
theorem lv_lower : ∀ (d : List Int) (s n s0 n0 : Int), 1 ≤ n0 → 0 ≤ s0 → 1 ≤ n → s * n0 ≤ s0 * n → (lv d s n).1 * n0 ≤ s0 * (lv d s n).2
  | [], s, n, s0, n0, _, _, _, h => h
  | x :: r, s, n, s0, n0, h1, h2, h3, h => by
    by_cases hs : n < 2 ∨ x * n ≤ s
    · rw [lv_stop _ hs]; exact h
    · rw [lv_go _ hs]
      rw [not_or] at hs
      refine lv_lower r (s - x) (n - 1) s0 n0 h1 h2 (by omega) ?_
      have e1 : (s - x) * n ≤ s * (n - 1) := by rw [Int.sub_mul, Int.mul_sub, Int.mul_one]; omega
      have e2 : (s - x) * n * n0 ≤ s * (n - 1) * n0 := Int.mul_le_mul_of_nonneg_right e1 (by omega)
      have e3 : s * n0 * (n - 1) ≤ s0 * n * (n - 1) := Int.mul_le_mul_of_nonneg_right h (by omega)
      have e4 : (s - x) * n0 * n ≤ s0 * (n - 1) * n := by
        have a1 : (s - x) * n0 * n = (s - x) * n * n0 := by rw [Int.mul_assoc, Int.mul_comm n0 n, ← Int.mul_assoc]
        have a2 : s * (n - 1) * n0 = s * n0 * (n - 1) := by rw [Int.mul_assoc, Int.mul_comm (n - 1) n0, ← Int.mul_assoc]
        have a3 : s0 * n * (n - 1) = s0 * (n - 1) * n := by rw [Int.mul_assoc, Int.mul_comm n (n - 1), ← Int.mul_assoc]
        omega
      exact Int.le_of_mul_le_mul_right e4 (by omega)
theorem lv_mono : ∀ (d : List Int) (n : Int), (∀ x ∈ d, 1 ≤ x) → 1 ≤ n → (lv d (sumW d) (n + 1)).1 * (lv d (sumW d) n).2 ≤ (lv d (sumW d) n).1 * (lv d (sumW d) (n + 1)).2
  | [], n, _, h => by simp [lv, sumW]
  | x :: r, n, hx, h => by
    have hge := (sumW_ge (W := x :: r) (fun y hy => by have := hx y hy; omega)).1
    have h1 := hx x List.mem_cons_self
    by_cases hs : n < 2 ∨ x * n ≤ sumW (x :: r)
    · rw [show lv (x :: r) (sumW (x :: r)) n = (sumW (x :: r), n) from lv_stop _ hs]
      refine lv_lower _ _ _ _ _ h hge (by omega) ?_
      show sumW (x :: r) * n ≤ sumW (x :: r) * (n + 1)
      rw [Int.mul_add, Int.mul_one]
      omega
    · have hs2 : ¬ (n + 1 < 2 ∨ x * (n + 1) ≤ sumW (x :: r)) := by
        rw [not_or] at hs ⊢
        rw [Int.mul_add, Int.mul_one]
        omega
      rw [lv_go _ hs, lv_go _ hs2]
      rw [not_or] at hs
      have ih := lv_mono r (n - 1) (fun y hy => hx y (List.mem_cons_of_mem _ hy)) (by omega)
      rw [show sumW (x :: r) - x = sumW r by rw [sumW]; omega, show n + 1 - 1 = n - 1 + 1 by omega]
      exact ih
theorem lev_mono {W : List Int} {m N D N3 D3 : Int} (h : WD W m) (L : LF W m N D) (L3 : LF W (m + 1) N3 D3) (hl : m + 1 < W.length) : N3 * D ≤ N * D3 := by
  have e := L.e
  have e3 := L3.e
  rw [levF_more (by omega)] at e e3
  have := lv_mono (dsc W) m (fun x hx => (h.2.2.2 x ((dsc_perm W).mem_iff.1 hx)).1) h.2.1
  rw [sumW_perm (dsc_perm W), e, e3] at this
  exact this
/-- With one more: too many, few, or more than are kept. -/
theorem lev_next {W : List Int} {m : Int} (h : WD W m) : (levC W (m + 1) = ((0, 0), 2)) ∨ (levC W (m + 1) = ((0, 0), 0)) ∨ ∃ N D N3 D3, levC W m = ((N, D), 0) ∧ levC W (m + 1) = ((N3, D3), 0) ∧ N3 * D ≤ N * D3 ∧ (0 ≤ N ∧ N ≤ 419430400) ∧ (0 ≤ N3 ∧ N3 ≤ 419430400) ∧ (1 ≤ D ∧ D ≤ 400) ∧ (1 ≤ D3 ∧ D3 ≤ 400) := by
  rcases levC_three W (m + 1) with ⟨h1, _⟩ | ⟨h1, _⟩ | ⟨N3, D3, h1, hW3, L3, hl3⟩
  · exact .inl h1
  · exact .inr (.inl h1)
  · obtain ⟨N, D, L⟩ := levF_is h (show m < W.length by omega)
    have a1 := L.n1
    have a2 := L.n2
    have a3 := L3.n1
    have a4 := L3.n2
    exact .inr (.inr ⟨N, D, N3, D3, by rw [levC_ok h, L.e], h1, lev_mono h L L3 hl3, by omega, by omega, ⟨L.d1, L.bounds h⟩, ⟨L3.d1, L3.bounds hW3⟩⟩)
end Go.Proofs.Ytkcgcojhgcfgmaa
