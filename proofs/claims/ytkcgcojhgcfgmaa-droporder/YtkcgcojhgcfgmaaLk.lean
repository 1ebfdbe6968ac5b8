/- Sums over heavy and light ones. -/
import Derived.Test.YtkcgcojhgcfgmaaLh
namespace Go.Proofs.Ytkcgcojhgcfgmaa

/-- None, few, or more than are kept. -/
theorem levC_three (W : List Int) (m : Int) : (levC W m = ((0, 0), 2) ∧ ¬ WD W m) ∨ (levC W m = ((0, 0), 0) ∧ WD W m ∧ levF W m = (0, 0) ∧ (W.length : Int) ≤ m) ∨ ∃ N D, levC W m = ((N, D), 0) ∧ WD W m ∧ LF W m N D ∧ m < W.length := by
  rcases Classical.em (WD W m) with h | h
  · refine .inr ?_
    rcases Int.lt_or_le m W.length with hl | hl
    · obtain ⟨N, D, L⟩ := levF_is h hl
      exact .inr ⟨N, D, by rw [levC_ok h, L.e], h, L, hl⟩
    · exact .inl ⟨by rw [levC_ok h, levF_few hl], h, levF_few hl, hl⟩
  · exact .inl ⟨levC_no h, h⟩
theorem pre_map {f : Int → Int} {W : List Int} {k : Nat} (h : k < W.length) : pre (W.map f) (k + 1) = pre (W.map f) k + f (W.getD k 0) := by
  rw [pre_succ (by rw [List.length_map]; exact h)]
  simp [List.getD_eq_getElem?_getD, h]
theorem pre_map_all (f : Int → Int) (W : List Int) : pre (W.map f) W.length = sumW (W.map f) := by
  have := pre_all (W.map f)
  rwa [List.length_map] at this
theorem pre_map_bound {f : Int → Int} {W : List Int} {C : Int} (h : ∀ x ∈ W, 0 ≤ f x ∧ f x ≤ C) : ∀ {k : Nat}, k ≤ W.length → 0 ≤ pre (W.map f) k ∧ pre (W.map f) k ≤ (k : Int) * C
  | 0, _ => by rw [pre_zero]; simp
  | k + 1, hk => by
    have ih := pre_map_bound h (k := k) (by omega)
    have h1 := h _ (memV (show k < W.length by omega))
    rw [pre_map (by omega)]
    push_cast
    rw [Int.add_mul]
    omega
def wF (D x : Int) : Int := x * D
def vF (N D x : Int) : Int := if hvF N D x then x * D else 0
def cF (N D x : Int) : Int := if hvF N D x then 1 else 0
theorem vF_yes {N D x : Int} (h : hvF N D x = true) : vF N D x = x * D := by unfold vF; rw [if_pos h]
theorem vF_no {N D x : Int} (h : hvF N D x = false) : vF N D x = 0 := by unfold vF; rw [if_neg (by rw [h]; decide)]
theorem cF_yes {N D x : Int} (h : hvF N D x = true) : cF N D x = 1 := by unfold cF; rw [if_pos h]
theorem cF_no {N D x : Int} (h : hvF N D x = false) : cF N D x = 0 := by unfold cF; rw [if_neg (by rw [h]; decide)]
theorem gF_yes {N D x : Int} (h : hvF N D x = true) : gF N D x = N := by
  unfold hvF at h; rw [decide_eq_true_iff] at h; unfold gF; omega
theorem gF_no {N D x : Int} (h : hvF N D x = false) : gF N D x = x * D := by
  unfold hvF at h; rw [decide_eq_false_iff_not] at h; unfold gF; omega
theorem heavy_sum (N D : Int) : ∀ W : List Int, sumW (W.map (gF N D)) + sumW (W.map (vF N D)) = sumW (W.map (cF N D)) * N + sumW (W.map (wF D))
  | [] => by simp [sumW]
  | x :: r => by
    have ih := heavy_sum N D r
    simp only [List.map_cons, sumW, Int.add_mul]
    cases h : hvF N D x
    · rw [gF_no h, vF_no h, cF_no h]; unfold wF at *; omega
    · rw [gF_yes h, vF_yes h, cF_yes h]; unfold wF at *; omega
theorem heavy_le (N D : Int) (hD : 0 ≤ D) : ∀ W : List Int, (∀ x ∈ W, 1 ≤ x ∧ x ≤ 1048576) → sumW (W.map (vF N D)) ≤ sumW (W.map (wF D))
  | [], _ => by simp [sumW]
  | x :: r, hx => by
    have ih := heavy_le N D hD r (fun y hy => hx y (List.mem_cons_of_mem _ hy))
    have h1 := hx x List.mem_cons_self
    have h2 : 0 ≤ x * D := Int.mul_nonneg (by omega) hD
    simp only [List.map_cons, sumW]
    cases h : hvF N D x
    · rw [vF_no h]; unfold wF at *; omega
    · rw [vF_yes h]; unfold wF at *; omega
/-- Heavy ones as they are, the others as the level. -/
theorem drop_sum {W : List Int} {m N D : Int} (hW : WD W m) (L : LF W m N D) : sumW (W.map (cF N D)) ≤ m ∧ sumW (W.map (vF N D)) + (m - sumW (W.map (cF N D))) * N = sumW (W.map (wF D)) := by
  have h1 := heavy_sum N D W
  have h2 := heavy_le N D (by have := L.d1; omega) W hW.2.2.2
  rw [L.g] at h1
  have h3 := Int.sub_mul m (sumW (W.map (cF N D))) N
  have h4 : 0 ≤ (m - sumW (W.map (cF N D))) * N := by omega
  refine ⟨?_, by omega⟩
  rcases Int.lt_or_le m (sumW (W.map (cF N D))) with h | h
  · have := L.n1
    have h5 : (m - sumW (W.map (cF N D))) * N ≤ -1 * N := Int.mul_le_mul_of_nonneg_right (by omega) (by omega)
    omega
  · exact h
theorem wF_bound {D x : Int} (hx : 1 ≤ x ∧ x ≤ 1048576) (h1 : 0 ≤ D) (h2 : D ≤ 400) : 0 ≤ wF D x ∧ wF D x ≤ 419430400 := mulD (N := 0) hx.1 hx.2 h1 h2
theorem vF_bound {N D x : Int} (hx : 1 ≤ x ∧ x ≤ 1048576) (h1 : 0 ≤ D) (h2 : D ≤ 400) : 0 ≤ vF N D x ∧ vF N D x ≤ 419430400 := by
  have := mulD (N := 0) hx.1 hx.2 h1 h2
  unfold vF
  split <;> omega
theorem cF_bound (N D x : Int) : 0 ≤ cF N D x ∧ cF N D x ≤ 1 := by unfold cF; split <;> omega
theorem gF_bound {N D x : Int} (hx : 1 ≤ x ∧ x ≤ 1048576) (h1 : 0 ≤ D) (h2 : D ≤ 400) (h3 : 0 ≤ N) : 0 ≤ gF N D x ∧ gF N D x ≤ 419430400 := by
  have := mulD (N := 0) hx.1 hx.2 h1 h2
  unfold gF
  omega
end Go.Proofs.Ytkcgcojhgcfgmaa
