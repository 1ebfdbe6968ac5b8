/- What follows from a level: who is kept always, and the parts of a draw. -/
import Derived.Test.YtkcgcojhgcfgmaaLa
import Derived.Test.YtkcgcojhgcfgmaaVb
namespace Go.Proofs.Ytkcgcojhgcfgmaa

theorem levC_cases (W : List Int) (m : Int) : (levC W m = ((0, 0), 2) ∧ ¬ WD W m) ∨ ∃ N D, levC W m = ((N, D), 0) ∧ WD W m ∧ levF W m = (N, D) ∧ 0 ≤ N ∧ N ≤ 419430400 ∧ 0 ≤ D ∧ D ≤ 400 := by
  rcases Classical.em (WD W m) with h | h
  · refine .inr ?_
    rcases Int.lt_or_le m W.length with hl | hl
    · obtain ⟨N, D, L⟩ := levF_is h hl
      have := L.bounds h
      have h1 := L.n1
      have h2 := L.n2
      have h3 := L.d1
      exact ⟨N, D, by rw [levC_ok h, L.e], h, L.e, by omega, by omega, by omega, by omega⟩
    · exact ⟨0, 0, by rw [levC_ok h, levF_few hl], h, levF_few hl, by omega, by omega, by omega, by omega⟩
  · exact .inl ⟨levC_no h, h⟩

/-- Who is kept always. -/
def hvF (N D x : Int) : Bool := decide (N ≤ x * D)
def hvL (N D : Int) (W : List Int) : List Bool := W.map (hvF N D)
theorem hvL_len (N D : Int) (W : List Int) : (hvL N D W).length = W.length := by simp [hvL]
theorem hvL_at {N D : Int} {W : List Int} {k : Nat} (h : k < W.length) : (hvL N D W).getD k false = hvF N D (W.getD k 0) := by
  simp [hvL, List.getD_eq_getElem?_getD, h]
open Classical in
noncomputable def hvC (W : List Int) (m : Int) : List Bool × Int := if WD W m then (hvL (levF W m).1 (levF W m).2 W, 0) else ([], 2)
theorem hvC_ok {W : List Int} {m N D : Int} (h : WD W m) (e : levF W m = (N, D)) : hvC W m = (hvL N D W, 0) := by
  unfold hvC; rw [if_pos h, e]
theorem hvC_no {W : List Int} {m : Int} (h : ¬ WD W m) : hvC W m = ([], 2) := if_neg h
/-- The first k of them; the others are false yet. -/
def hvT (N D : Int) (W : List Int) (k : Nat) : List Bool := (List.range W.length).map fun j => if j < k then hvF N D (W.getD j 0) else false
theorem hvT_len (N D : Int) (W : List Int) (k : Nat) : (hvT N D W k).length = W.length := by simp [hvT]
theorem hvT_zero (N D : Int) (W : List Int) : hvT N D W 0 = List.replicate W.length false := by
  apply List.ext_getElem?
  intro j
  by_cases h : j < W.length
  · simp [hvT, h]
  · simp [hvT, h]
theorem hvT_step {N D : Int} {W : List Int} {k : Nat} (h : k < W.length) : (hvT N D W k).set k (hvF N D (W.getD k 0)) = hvT N D W (k + 1) := by
  apply List.ext_getElem?
  intro j
  by_cases hj : j < W.length
  · by_cases e : k = j
    · subst e
      rw [List.getElem?_set_self (by rw [hvT_len]; exact hj)]
      simp [hvT, hj]
    · rw [List.getElem?_set_ne e]
      have e2 : (j < k) ↔ (j < k + 1) := by omega
      simp [hvT, hj, e2]
  · rw [List.getElem?_eq_none (by simp [hvT_len]; omega), List.getElem?_eq_none (by rw [hvT_len]; omega)]
theorem hvT_all (N D : Int) (W : List Int) : hvT N D W W.length = hvL N D W := by
  apply List.ext_getElem?
  intro j
  by_cases h : j < W.length
  · simp [hvT, hvL, h, List.getD_eq_getElem?_getD]
  · simp [hvT, hvL, h]

/-- How many draws leave x out. -/
def sgF (N D x : Int) : Int := max 0 (N - x * D)
def sgL (N D : Int) (W : List Int) : List Int := W.map (sgF N D)
theorem sgL_len (N D : Int) (W : List Int) : (sgL N D W).length = W.length := by simp [sgL]
theorem sgL_at {N D : Int} {W : List Int} {k : Nat} (h : k < W.length) : (sgL N D W).getD k 0 = sgF N D (W.getD k 0) := by
  simp [sgL, List.getD_eq_getElem?_getD, h]
theorem sgF_bound {N D x : Int} (hN : 0 ≤ N) (h : 0 ≤ x * D) : 0 ≤ sgF N D x ∧ sgF N D x ≤ N := by unfold sgF; omega
theorem mulD {N x D : Int} (h1 : 1 ≤ x) (h2 : x ≤ 1048576) (h3 : 0 ≤ D) (h4 : D ≤ 400) : 0 ≤ x * D ∧ x * D ≤ 419430400 := by
  refine ⟨Int.mul_nonneg (by omega) h3, ?_⟩
  have : x * D ≤ 1048576 * 400 := Int.mul_le_mul h2 h4 h3 (by omega)
  omega
theorem sgL_wf {W : List Int} {m N D : Int} (h : WD W m) (hN : 0 ≤ N) (hN2 : N ≤ 419430400) (hD : 0 ≤ D) (hD2 : D ≤ 400) : WF (sgL N D W) := by
  refine ⟨by rw [sgL_len]; exact h.1, fun y hy => ?_⟩
  obtain ⟨x, hx, rfl⟩ := List.mem_map.1 hy
  have h1 := h.2.2.2 x hx
  have h2 := mulD (N := N) h1.1 h1.2 hD hD2
  have := sgF_bound hN h2.1
  omega
theorem sumW_seg (N D : Int) : ∀ (W : List Int), sumW (sgL N D W) = W.length * N - sumW (W.map (gF N D))
  | [] => by simp [sgL, sumW]
  | x :: r => by
    have ih := sumW_seg N D r
    unfold sgL at ih ⊢
    rw [List.map_cons, sumW, ih, List.map_cons, sumW, List.length_cons]
    push_cast
    rw [Int.add_mul]
    unfold sgF gF
    omega
/-- All the draws that leave out one are as many as the level's number. -/
theorem seg_sum {W : List Int} {N D : Int} (h : LF W ((W.length : Int) - 1) N D) : sumW (sgL N D W) = N := by
  rw [sumW_seg, h.g, Int.sub_mul]
  omega
/-- The parts of the first k; the others are 0 yet. -/
def sgT (N D : Int) (W : List Int) (k : Nat) : List Int := (List.range W.length).map fun j => if j < k then sgF N D (W.getD j 0) else 0
theorem sgT_len (N D : Int) (W : List Int) (k : Nat) : (sgT N D W k).length = W.length := by simp [sgT]
theorem sgT_zero (N D : Int) (W : List Int) : sgT N D W 0 = List.replicate W.length 0 := by
  apply List.ext_getElem?
  intro j
  by_cases h : j < W.length
  · simp [sgT, h]
  · simp [sgT, h]
theorem sgT_step {N D : Int} {W : List Int} {k : Nat} (h : k < W.length) : (sgT N D W k).set k (sgF N D (W.getD k 0)) = sgT N D W (k + 1) := by
  apply List.ext_getElem?
  intro j
  by_cases hj : j < W.length
  · by_cases e : k = j
    · subst e
      rw [List.getElem?_set_self (by rw [sgT_len]; exact hj)]
      simp [sgT, hj]
    · rw [List.getElem?_set_ne e]
      have e2 : (j < k) ↔ (j < k + 1) := by omega
      simp [sgT, hj, e2]
  · rw [List.getElem?_eq_none (by simp [sgT_len]; omega), List.getElem?_eq_none (by rw [sgT_len]; omega)]
theorem sgT_all (N D : Int) (W : List Int) : sgT N D W W.length = sgL N D W := by
  apply List.ext_getElem?
  intro j
  by_cases h : j < W.length
  · simp [sgT, sgL, h, List.getD_eq_getElem?_getD]
  · simp [sgT, sgL, h]
open Classical in
/-- Who is left out. -/
noncomputable def oneC (W : List Int) (n : Int) : Int × Int := if WD W ((W.length : Int) - 1) then fnd (sgL (levF W ((W.length : Int) - 1)).1 (levF W ((W.length : Int) - 1)).2 W) n else (0, 2)
theorem oneC_ok {W : List Int} {n N D : Int} (h : WD W ((W.length : Int) - 1)) (e : levF W ((W.length : Int) - 1) = (N, D)) : oneC W n = fnd (sgL N D W) n := by
  unfold oneC; rw [if_pos h, e]
theorem oneC_no {W : List Int} {n : Int} (h : ¬ WD W ((W.length : Int) - 1)) : oneC W n = (0, 2) := if_neg h
end Go.Proofs.Ytkcgcojhgcfgmaa
