/- What those that are kept weigh then, over all draws. -/
import Derived.Test.YtkcgcojhgcfgmaaLk
namespace Go.Proofs.Ytkcgcojhgcfgmaa

def sN (g : Nat → Int) : Nat → Int
  | 0 => 0
  | k + 1 => sN g k + g k
theorem sN_congr {f g : Nat → Int} : ∀ {k : Nat}, (∀ j, j < k → f j = g j) → sN f k = sN g k
  | 0, _ => rfl
  | k + 1, h => by rw [sN, sN, sN_congr (k := k) (fun j hj => h j (by omega)), h k (by omega)]
theorem sN_add (f g : Nat → Int) : ∀ k : Nat, sN f k + sN g k = sN (fun j => f j + g j) k
  | 0 => rfl
  | k + 1 => by rw [sN, sN, sN, ← sN_add f g k]; omega
theorem sN_bound {g : Nat → Int} {C : Int} : ∀ {k : Nat}, (∀ j, j < k → 0 ≤ g j ∧ g j ≤ C) → 0 ≤ sN g k ∧ sN g k ≤ (k : Int) * C
  | 0, _ => by simp [sN]
  | k + 1, h => by
    have ih := sN_bound (g := g) (C := C) (k := k) (fun j hj => h j (by omega))
    have h1 := h k (by omega)
    rw [sN]
    push_cast
    rw [Int.add_mul]
    omega
/-- What one that is kept weighs then. -/
def mxF (N D x : Int) : Int := max (x * D) N
def tlF (W : List Int) (T : List Bool) (N D n : Int) (j : Nat) : Int := if T.getD j false then (n - cntJ (sgL N D W) n j) * mxF N D (W.getD j 0) else 0
def ptF (W : List Int) (T : List Bool) (N D : Int) (q j : Nat) : Int := if T.getD j false && decide (j ≠ q) then mxF N D (W.getD j 0) else 0
def weF (W : List Int) (T : List Bool) (N D : Int) (j : Nat) : Int := if T.getD j false then W.getD j 0 * D * N else 0
theorem fair_start {W : List Int} (T : List Bool) {N D : Int} (h : WF (sgL N D W)) : sN (tlF W T N D 0) W.length = 0 := by
  have e : ∀ j, j < W.length → tlF W T N D 0 j = (fun _ => (0 : Int)) j := fun j hj => by
    unfold tlF
    rw [cntJ_zero h (by rw [sgL_len]; omega)]
    split <;> simp
  rw [sN_congr e]
  have : ∀ k : Nat, sN (fun _ => (0 : Int)) k = 0 := fun k => by
    induction k with
    | zero => rfl
    | succ k ih => rw [sN, ih]; rfl
  exact this _
theorem fair_step {W : List Int} (T : List Bool) {N D : Int} (h : WF (sgL N D W)) {n q : Nat} (hq : q < W.length) (h1 : pre (sgL N D W) q ≤ n) (h2 : (n : Int) < pre (sgL N D W) (q + 1)) :
    sN (tlF W T N D n) W.length + sN (ptF W T N D q) W.length = sN (tlF W T N D ((n : Int) + 1)) W.length := by
  rw [sN_add]
  refine sN_congr fun j hj => ?_
  have e := cntJ_step h (n := n) (k := q) (q := j) (by rw [sgL_len]; exact hq) h1 h2 (by rw [sgL_len]; exact hj)
  unfold tlF ptF
  rw [e]
  cases T.getD j false
  · simp
  · by_cases hjq : j = q
    · subst hjq
      simp only [if_true, ne_eq, not_true_eq_false, decide_false, Bool.and_false, Bool.false_eq_true, if_false]
      rw [show (n : Int) + 1 - (cntJ (sgL N D W) n j + 1) = n - cntJ (sgL N D W) n j by omega]
      omega
    · simp only [if_true, ne_eq, hjq, not_false_eq_true, decide_true, Bool.and_true, if_false]
      rw [show (n : Int) + 1 - (cntJ (sgL N D W) n j + 0) = (n - cntJ (sgL N D W) n j) + 1 by omega, Int.add_mul, Int.one_mul]
theorem fair_all {W : List Int} (T : List Bool) {N D : Int} (h : WF (sgL N D W)) (hs : sumW (sgL N D W) = N) (hN : 0 ≤ N) (hx : ∀ x ∈ W, 0 ≤ x * D) : sN (tlF W T N D N) W.length = sN (weF W T N D) W.length := by
  refine sN_congr fun j hj => ?_
  have e := cntJ_all h (k := j) (by rw [sgL_len]; exact hj)
  rw [hs, sgL_at hj] at e
  unfold tlF weF
  rw [e]
  split
  · have h1 := hx _ (memV hj)
    unfold sgF mxF
    generalize W.getD j 0 * D = y at *
    rcases Int.le_total y N with hy | hy
    · rw [show max 0 (N - y) = N - y by omega, show max y N = N by omega, show N - (N - y) = y by omega]
    · rw [show max 0 (N - y) = 0 by omega, show max y N = y by omega, Int.sub_zero, Int.mul_comm]
  · rfl
theorem cntJ_le {W : List Int} (h : WF W) {n : Int} (hn : 0 ≤ n) {k : Nat} (hk : k ≤ W.length) : cntJ W n k ≤ n := by
  have := pre_bound h hk
  unfold cntJ
  omega
theorem mxF_bound {N D x : Int} (hx : 1 ≤ x ∧ x ≤ 1048576) (h1 : 0 ≤ D) (h2 : D ≤ 400) (h3 : 0 ≤ N) (h4 : N ≤ 419430400) : 0 ≤ mxF N D x ∧ mxF N D x ≤ 419430400 := by
  have := mulD (N := 0) hx.1 hx.2 h1 h2
  unfold mxF
  omega
theorem ptF_bound {W : List Int} {T : List Bool} {N D : Int} {q j : Nat} (h : 0 ≤ mxF N D (W.getD j 0) ∧ mxF N D (W.getD j 0) ≤ 419430400) : 0 ≤ ptF W T N D q j ∧ ptF W T N D q j ≤ 419430400 := by
  unfold ptF
  split <;> omega
theorem tlF_bound {W : List Int} {T : List Bool} {N D : Int} (hF : WF (sgL N D W)) {n : Int} (hn : 0 ≤ n) (hn6 : n ≤ 600) {j : Nat} (hj : j < W.length) (h : 0 ≤ mxF N D (W.getD j 0) ∧ mxF N D (W.getD j 0) ≤ 419430400) : 0 ≤ tlF W T N D n j ∧ tlF W T N D n j ≤ 600 * 419430400 := by
  have h1 := cntJ_le hF hn (k := j) (by rw [sgL_len]; omega)
  have h2 := (cntJ_bound hF n j).1
  unfold tlF
  split
  · exact ⟨Int.mul_nonneg (by omega) h.1, Int.mul_le_mul (by omega) h.2 h.1 (by omega)⟩
  · omega
theorem weF_bound {W : List Int} {T : List Bool} {N D : Int} (hN : 0 ≤ N) (hN6 : N ≤ 600) {j : Nat} (h : 0 ≤ W.getD j 0 * D ∧ W.getD j 0 * D ≤ 419430400) : 0 ≤ weF W T N D j ∧ weF W T N D j ≤ 419430400 * 600 := by
  unfold weF
  split
  · exact ⟨Int.mul_nonneg h.1 hN, Int.mul_le_mul h.2 hN6 hN (by omega)⟩
  · omega
end Go.Proofs.Ytkcgcojhgcfgmaa
