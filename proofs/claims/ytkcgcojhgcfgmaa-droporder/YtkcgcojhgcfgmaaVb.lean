/- Picking over all numbers: how often each index comes; and pairs. -/
import Derived.Test.YtkcgcojhgcfgmaaVa
namespace Go.Proofs.Ytkcgcojhgcfgmaa

/-- How often k was picked by the numbers below n. -/
def cntJ (W : List Int) (n : Int) (k : Nat) : Int := max 0 (min (W.getD k 0) (n - pre W k))
theorem cntJ_bound {W : List Int} (h : WF W) (n : Int) (k : Nat) : 0 ≤ cntJ W n k ∧ cntJ W n k ≤ W.getD k 0 := by
  have := h.at k
  unfold cntJ
  omega
theorem cntJ_zero {W : List Int} (h : WF W) {k : Nat} (hk : k ≤ W.length) : cntJ W 0 k = 0 := by
  have := pre_bound h hk
  unfold cntJ
  omega
theorem cntJ_step {W : List Int} (h : WF W) {n k q : Nat} (hk : k < W.length) (h1 : pre W k ≤ n) (h2 : (n : Int) < pre W (k + 1)) (hq : q < W.length) : cntJ W ((n : Int) + 1) q = cntJ W n q + (if q = k then 1 else 0) := by
  have e := pre_succ hk
  have eq := pre_succ hq
  by_cases e1 : q = k
  · subst e1
    rw [if_pos rfl]
    unfold cntJ
    omega
  · rw [if_neg e1]
    by_cases e2 : q < k
    · have := pre_mono h (i := q + 1) (k := k) (by omega) (by omega)
      have := h.at q
      unfold cntJ
      omega
    · have := pre_mono h (i := k + 1) (k := q) (by omega) (by omega)
      have := h.at q
      unfold cntJ
      omega
theorem cntJ_all {W : List Int} (h : WF W) {k : Nat} (hk : k < W.length) : cntJ W (sumW W) k = W.getD k 0 := by
  have := pre_mono h (i := k + 1) (k := W.length) (by omega) (Nat.le_refl _)
  rw [pre_all, pre_succ hk] at this
  have := h.at k
  unfold cntJ
  omega
def rowJ (W : List Int) (n : Int) : List Int := (List.range W.length).map (cntJ W n)
theorem rowJ_len (W : List Int) (n : Int) : (rowJ W n).length = W.length := by simp [rowJ]
theorem rowJ_at {W : List Int} {n : Int} {k : Nat} (h : k < W.length) : (rowJ W n).getD k 0 = cntJ W n k := by
  simp [rowJ, List.getD_eq_getElem?_getD, h]
theorem rowJ_zero {W : List Int} (h : WF W) : rowJ W 0 = List.replicate W.length 0 := by
  apply List.ext_getElem?
  intro k
  by_cases hk : k < W.length
  · simp [rowJ, hk, cntJ_zero h (show k ≤ W.length by omega)]
  · simp [rowJ, hk]
theorem rowJ_step {W : List Int} (h : WF W) {n k : Nat} (hk : k < W.length) (h1 : pre W k ≤ n) (h2 : (n : Int) < pre W (k + 1)) : (rowJ W n).set k (cntJ W n k + 1) = rowJ W ((n : Int) + 1) := by
  apply List.ext_getElem?
  intro q
  by_cases hq : q < W.length
  · have e1 : (rowJ W ((n : Int) + 1))[q]? = some (cntJ W ((n : Int) + 1) q) := by simp [rowJ, hq]
    rw [e1, cntJ_step h hk h1 h2 hq]
    by_cases e : k = q
    · subst e
      rw [if_pos rfl, List.getElem?_set_self (by rw [rowJ_len]; exact hq)]
    · rw [List.getElem?_set_ne e, if_neg (fun e2 => e e2.symm)]
      simp [rowJ, hq]
  · rw [List.getElem?_eq_none (by simp [rowJ_len]; omega), List.getElem?_eq_none (by rw [rowJ_len]; omega)]
theorem rowJ_all {W : List Int} (h : WF W) : rowJ W (sumW W) = W := by
  apply List.ext_getElem?
  intro k
  by_cases hk : k < W.length
  · have e1 : (rowJ W (sumW W))[k]? = some (cntJ W (sumW W) k) := by simp [rowJ, hk]
    rw [e1, cntJ_all h hk, List.getD_eq_getElem?_getD, List.getElem?_eq_getElem hk]
    rfl
  · rw [List.getElem?_eq_none (by rw [rowJ_len]; omega), List.getElem?_eq_none (by omega)]
theorem sum_nonneg {W : List Int} (h : WF W) : 0 ≤ sumW W := by
  have := (pre_bound h (Nat.le_refl W.length)).1
  rw [pre_all] at this
  exact this
theorem sum_ge {W : List Int} (h : WF W) {k : Nat} (hk : k < W.length) : W.getD k 0 ≤ sumW W := by
  have := cntJ_all h hk
  have h1 := pre_mono h (i := k + 1) (k := W.length) (by omega) (Nat.le_refl _)
  rw [pre_all, pre_succ hk] at h1
  have := pre_bound h (show k ≤ W.length by omega)
  omega

/-- How often i and then j were drawn: all b for each number below a, and at the number a the b below b. -/
def pairT (W : List Int) (a b : Int) (h : Nat) (i j : Nat) : Int := cntJ W a i * (W.set i 0).getD j 0 + (if i = h then cntJ (W.set h 0) b j else 0)
theorem pairT_zero {W : List Int} (h : WF W) {i : Nat} (hi : i < W.length) {q j : Nat} (hj : j < W.length) (hq : q < W.length) : pairT W 0 0 q i j = 0 := by
  unfold pairT
  rw [cntJ_zero h (by omega), Int.zero_mul]
  split
  · rw [cntJ_zero (h.set q) (by rw [List.length_set]; omega)]; rfl
  · rfl
/-- At no b it is the same for each number. -/
theorem pairT_any {W : List Int} (h : WF W) {a : Int} {i j q r : Nat} (hj : j < W.length) : pairT W a 0 q i j = pairT W a 0 r i j := by
  unfold pairT
  have e : ∀ t : Nat, (if i = t then cntJ (W.set t 0) 0 j else 0) = 0 := fun t => by
    split
    · exact cntJ_zero (h.set t) (by rw [List.length_set]; omega)
    · rfl
  rw [e q, e r]
/-- One more b. -/
theorem pairT_step {W : List Int} (h : WF W) {a : Int} {b q d : Nat} (hq : q < W.length) (hd : d < W.length) (h1 : pre (W.set q 0) d ≤ b) (h2 : (b : Int) < pre (W.set q 0) (d + 1)) {i j : Nat} (hi : i < W.length) (hj : j < W.length) :
    pairT W a ((b : Int) + 1) q i j = if i = q ∧ j = d then pairT W a b q q d + 1 else pairT W a b q i j := by
  have hl : (W.set q 0).length = W.length := List.length_set
  have e := cntJ_step (h.set q) (n := b) (k := d) (q := j) (by omega) h1 h2 (by omega)
  unfold pairT
  by_cases e1 : i = q
  · subst e1
    rw [if_pos rfl, if_pos rfl, if_pos rfl, e]
    by_cases e2 : j = d
    · subst e2
      rw [if_pos rfl, if_pos ⟨rfl, rfl⟩]
      omega
    · rw [if_neg e2, if_neg (fun h => e2 h.2)]
      omega
  · rw [if_neg e1, if_neg e1, if_neg (fun h => e1 h.1)]
/-- All b of a number. -/
theorem pairT_next {W : List Int} (h : WF W) {a q : Nat} (hq : q < W.length) (h1 : pre W q ≤ a) (h2 : (a : Int) < pre W (q + 1)) {i j r : Nat} (hi : i < W.length) (hj : j < W.length) :
    pairT W a (sumW (W.set q 0)) q i j = pairT W ((a : Int) + 1) 0 r i j := by
  have hl : (W.set q 0).length = W.length := List.length_set
  have e := cntJ_step h hq h1 h2 hi
  have e0 : (if i = r then cntJ (W.set r 0) 0 j else 0) = 0 := by
    split
    · rename_i e3
      subst e3
      rw [cntJ_zero (h.set i) (by rw [List.length_set]; omega)]
    · rfl
  unfold pairT
  rw [e0, e]
  by_cases e1 : i = q
  · subst e1
    rw [if_pos rfl, if_pos rfl, cntJ_all (h.set i) (by omega), Int.add_mul]
    omega
  · rw [if_neg e1, if_neg e1]
    simp
/-- All of them. -/
theorem pairT_all {W : List Int} (h : WF W) {i j r : Nat} (hi : i < W.length) (hj : j < W.length) (hne : i ≠ j) : pairT W (sumW W) 0 r i j = W.getD i 0 * W.getD j 0 := by
  unfold pairT
  have e0 : (if i = r then cntJ (W.set r 0) 0 j else 0) = 0 := by
    split
    · rename_i e3
      subst e3
      rw [cntJ_zero (h.set i) (by rw [List.length_set]; omega)]
    · rfl
  rw [e0, cntJ_all h hi, getD_setV' hne]
  omega
theorem sumW_out {W : List Int} {q : Nat} (hq : q < W.length) : sumW (W.set q 0) = sumW W - W.getD q 0 := by
  rw [sumW_set 0 hq]; omega
/-- Both are drawn. -/
theorem draw_two {W : List Int} {a b : Int} {q d : Nat} (h1 : pk W a = (q : Int)) (h2 : pk (W.set q 0) b = (d : Int)) : drF W [a, b] [] = ([(q : Int), (d : Int)], 0) := by
  rw [drF, if_neg (by omega), h1, Int.toNat_natCast, drF, if_neg (by omega), h2]
  rfl
theorem pairT_bound {W : List Int} (h : WF W) (hs : sumW W ≤ 60) {a b : Int} {q i j : Nat} (hi : i < W.length) (hj : j < W.length) (hq : q < W.length) : 0 ≤ pairT W a b q i j ∧ pairT W a b q i j ≤ 10000 := by
  have b1 := cntJ_bound h a i
  have b2 := sum_ge h hi
  have b3 := (h.set i).at j
  have b4 := sum_ge (h.set i) (k := j) (by rw [List.length_set]; exact hj)
  rw [sumW_out hi] at b4
  have b5 := h.at i
  have b6 : 0 ≤ (if i = q then cntJ (W.set q 0) b j else 0) ∧ (if i = q then cntJ (W.set q 0) b j else 0) ≤ 60 := by
    split
    · have c1 := cntJ_bound (h.set q) b j
      have c2 := sum_ge (h.set q) (k := j) (by rw [List.length_set]; exact hj)
      rw [sumW_out hq] at c2
      have c3 := h.at q
      omega
    · omega
  have b7 : 0 ≤ cntJ W a i * (W.set i 0).getD j 0 := Int.mul_nonneg b1.1 b3.1
  have b8 : cntJ W a i * (W.set i 0).getD j 0 ≤ 60 * 60 := Int.mul_le_mul (by omega) (by omega) b3.1 (by omega)
  unfold pairT
  omega
end Go.Proofs.Ytkcgcojhgcfgmaa
