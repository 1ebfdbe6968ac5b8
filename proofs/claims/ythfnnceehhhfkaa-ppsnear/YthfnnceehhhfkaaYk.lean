/- Systematic sampling: counts. -/
import Derived.Test.YthfnnceehhhfkaaYa
namespace Go.Proofs.Ythfnnceehhhfkaa

/-- A row out of a function. -/
def rowF (n : Nat) (F : Nat → Int) : List Int := (List.range n).map F
theorem rowF_len (n : Nat) (F : Nat → Int) : (rowF n F).length = n := by simp [rowF]
theorem rowF_at {n k : Nat} (F : Nat → Int) (h : k < n) : (rowF n F).getD k 0 = F k := by simp [rowF, List.getD_eq_getElem?_getD, h]
theorem rowF_congr {n : Nat} {F G : Nat → Int} (h : ∀ k, k < n → F k = G k) : rowF n F = rowF n G := by
  unfold rowF
  refine List.map_congr_left fun k hk => ?_
  rw [List.mem_range] at hk
  exact h k hk
theorem rowF_zero {n : Nat} {F : Nat → Int} (h : ∀ k, k < n → F k = 0) : rowF n F = List.replicate n 0 := by
  rw [rowF_congr (G := fun _ => 0) h]
  apply List.ext_getElem?
  intro j
  by_cases hj : j < n <;> simp [rowF, hj]
theorem rowF_set {n q : Nat} {F G : Nat → Int} {x : Int} (hq : q < n) (h0 : G q = x) (h : ∀ k, k < n → k ≠ q → G k = F k) : (rowF n F).set q x = rowF n G := by
  apply List.ext_getElem?
  intro j
  by_cases hj : j < n
  · by_cases e : q = j
    · subst e
      rw [List.getElem?_set_self (by rw [rowF_len]; exact hj)]
      simp [rowF, hj, h0]
    · rw [List.getElem?_set_ne e]
      simp [rowF, hj, h j hj (fun h => e h.symm)]
  · rw [List.getElem?_eq_none (by simp [rowF_len]; omega), List.getElem?_eq_none (by rw [rowF_len]; omega)]

/-- How often index k comes among the first j that are taken. -/
def cT (W : List Int) (m : Nat) (s : Int) : Nat → Nat → Int
  | 0, _ => 0
  | j + 1, k => cT W m s j k + if ow W (m : Int) (stp s (sumW W) j) = (k : Int) then 1 else 0
theorem cT_bound (W : List Int) (m : Nat) (s : Int) (k : Nat) : ∀ j : Nat, 0 ≤ cT W m s j k ∧ cT W m s j k ≤ (j : Int)
  | 0 => by simp [cT]
  | j + 1 => by
    have := cT_bound W m s k j
    rw [cT]
    push_cast
    split <;> omega
/-- How many of the first j lie below x. -/
def lo (s S x : Int) : Nat → Nat
  | 0 => 0
  | j + 1 => lo s S x j + if stp s S j < x then 1 else 0
theorem lo_le (s S x : Int) : ∀ j, lo s S x j ≤ j
  | 0 => Nat.le_refl _
  | j + 1 => by have := lo_le s S x j; rw [lo]; split <;> omega
theorem lo_place {s S x : Int} (h0 : 0 ≤ s) (h1 : s < S) (hx : 0 ≤ x) : ∀ j, (lo s S x j = j ∧ stp s S j < x + S) ∨ (x ≤ stp s S (lo s S x j) ∧ stp s S (lo s S x j) < x + S)
  | 0 => .inl ⟨rfl, by rw [stp_zero]; omega⟩
  | j + 1 => by
    have hl := lo_le s S x j
    have hs := stp_succ s S j
    have hm := stp_mono (s := s) (S := S) (by omega) hl
    rw [lo]
    rcases lo_place h0 h1 hx j with ⟨a, b⟩ | ⟨a, b⟩
    · by_cases e : stp s S j < x
      · rw [if_pos e]; exact .inl ⟨by omega, by omega⟩
      · rw [if_neg e, Nat.add_zero, a]; exact .inr ⟨by omega, by omega⟩
    · rw [if_neg (by omega), Nat.add_zero]; exact .inr ⟨a, b⟩
theorem lo_end {s S x : Int} (h0 : 0 ≤ s) (h1 : s < S) (hx : 0 ≤ x) {m : Nat} (hm : x ≤ S * (m : Int)) : x ≤ stp s S (lo s S x m) ∧ stp s S (lo s S x m) < x + S := by
  rcases lo_place h0 h1 hx m with ⟨a, b⟩ | h
  · rw [a]
    have := stp_ge (S := S) (m := m) h0
    exact ⟨by omega, b⟩
  · exact h
theorem cT_lo {W : List Int} {m : Nat} {s : Int} (hW : WP W (m : Int)) (h0 : 0 ≤ s) (h1 : s < sumW W) {k : Nat} (hk : k < W.length) : ∀ j, j ≤ m → cT W m s j k = (lo s (sumW W) (pre W (k + 1) * m) j : Int) - (lo s (sumW W) (pre W k * m) j : Int)
  | 0, _ => rfl
  | j + 1, hj => by
    have ih := cT_lo hW h0 h1 hk j (by omega)
    obtain ⟨q, e, q1, q2, q3, _⟩ := ow_some hW (stp_nonneg h0 (by omega) j) (stp_lt (m := m) h1 (by omega) (by omega))
    have hab := preM_mono hW (i := k) (k := k + 1) (by omega) (by omega)
    rw [cT, ih, lo, lo, e]
    push_cast
    by_cases g : q = k
    · subst g
      rw [if_pos rfl, if_pos q3, if_neg (by omega)]
      omega
    · rw [if_neg (by omega)]
      rcases Nat.lt_or_ge q k with l | l
      · have := preM_mono hW (i := q + 1) (k := k) (by omega) (by omega)
        rw [if_pos (by omega), if_pos (by omega)]
        omega
      · have := preM_mono hW (i := k + 1) (k := q) (by omega) (by omega)
        rw [if_neg (by omega), if_neg (by omega)]
        omega
/-- As often as its part, rounded down or up. -/
theorem cT_near {W : List Int} {m : Nat} {s : Int} (hW : WP W (m : Int)) (h0 : 0 ≤ s) (h1 : s < sumW W) {k : Nat} (hk : k < W.length) :
    cT W m s m k * sumW W ≤ W.getD k 0 * m + sumW W - 1 ∧ W.getD k 0 * m < (cT W m s m k + 1) * sumW W := by
  have hS : ∀ i, i ≤ W.length → pre W i * m ≤ sumW W * m := fun i hi => by
    have := preM_mono hW hi (Nat.le_refl _)
    rw [pre_all] at this
    exact this
  have ha := lo_end h0 h1 (Int.mul_nonneg (hW.bound (k := k) (by omega)).1 (by omega : (0 : Int) ≤ (m : Int))) (hS k (by omega))
  have hb := lo_end h0 h1 (Int.mul_nonneg (hW.bound (k := k + 1) (by omega)).1 (by omega : (0 : Int) ≤ (m : Int))) (hS (k + 1) (by omega))
  have hp : pre W (k + 1) * m = pre W k * m + W.getD k 0 * m := by rw [pre_succ hk, Int.add_mul]
  rw [cT_lo hW h0 h1 hk m (Nat.le_refl _), Int.add_mul, Int.sub_mul, Int.one_mul]
  unfold stp at ha hb
  omega
/-- Sums. -/
def sm (f : Nat → Int) : Nat → Int
  | 0 => 0
  | n + 1 => sm f n + f n
theorem sm_add (f g : Nat → Int) : ∀ n, sm (fun i => f i + g i) n = sm f n + sm g n
  | 0 => rfl
  | n + 1 => by rw [sm, sm_add f g n, sm, sm]; omega
theorem sm_sub (f g : Nat → Int) : ∀ n, sm (fun i => f i - g i) n = sm f n - sm g n
  | 0 => rfl
  | n + 1 => by rw [sm, sm_sub f g n, sm, sm]; omega
theorem sm_congr {f g : Nat → Int} : ∀ n, (∀ i, i < n → f i = g i) → sm f n = sm g n
  | 0, _ => rfl
  | n + 1, h => by rw [sm, sm, sm_congr n (fun i hi => h i (by omega)), h n (by omega)]
theorem sm_below (S x : Int) (j : Nat) : ∀ n : Nat, sm (fun s => if stp (s : Int) S j < x then 1 else 0) n = (if x - (j : Int) * S ≤ 0 then 0 else if (n : Int) ≤ x - (j : Int) * S then (n : Int) else x - (j : Int) * S)
  | 0 => by
    show (0 : Int) = _
    generalize (j : Int) * S = y
    split
    · rfl
    · rw [if_pos (by omega)]; rfl
  | n + 1 => by
    rw [sm, sm_below S x j n]
    unfold stp
    generalize (j : Int) * S = y
    push_cast
    repeat' split
    all_goals omega
/-- Over all starts, so many below x. -/
theorem sm_lo {S : Nat} {x : Int} (hx : 0 ≤ x) : ∀ m : Nat, sm (fun s => (lo (s : Int) (S : Int) x m : Int)) S = (if x ≤ (m : Int) * (S : Int) then x else (m : Int) * (S : Int))
  | 0 => by
    have : ∀ n, sm (fun s => (lo (s : Int) (S : Int) x 0 : Int)) n = 0 := by
      intro n
      induction n with
      | zero => rfl
      | succ n ih => rw [sm, ih]; rfl
    rw [this]
    simp only [Int.natCast_zero, Int.zero_mul]
    split <;> omega
  | m + 1 => by
    have e : (fun s : Nat => (lo (s : Int) (S : Int) x (m + 1) : Int)) = fun s : Nat => (lo (s : Int) (S : Int) x m : Int) + (if stp (s : Int) (S : Int) m < x then 1 else 0) := by
      funext s
      rw [lo]
      push_cast
      split <;> rfl
    rw [e, sm_add, sm_lo hx m, sm_below]
    push_cast
    rw [Int.add_mul, Int.one_mul]
    generalize (m : Int) * (S : Int) = y
    repeat' split
    all_goals omega
/-- How often in all: s starts whole, and j of the next. -/
def dT (W : List Int) (m s j k : Nat) : Int := sm (fun i => cT W m (i : Int) m k) s + cT W m (s : Int) j k
theorem dT_zero (W : List Int) (m k : Nat) : dT W m 0 0 k = 0 := rfl
theorem dT_next (W : List Int) (m s k : Nat) : dT W m s m k = dT W m (s + 1) 0 k := by
  unfold dT; rw [sm]; simp [cT]
theorem dT_step (W : List Int) (m s j k : Nat) : dT W m s (j + 1) k = dT W m s j k + if ow W (m : Int) (stp (s : Int) (sumW W) j) = (k : Int) then 1 else 0 := by
  unfold dT; rw [cT]; omega
theorem dT_bound (W : List Int) (m k : Nat) : ∀ (s : Nat) {j : Nat}, j ≤ m → 0 ≤ dT W m s j k ∧ dT W m s j k ≤ (s : Int) * (m : Int) + j
  | 0, j, h => by have := cT_bound W m (0 : Nat) k j; unfold dT; rw [sm]; simp; omega
  | s + 1, j, h => by
    have ih := dT_bound W m k s (j := m) (Nat.le_refl _)
    have h2 := cT_bound W m ((s + 1 : Nat) : Int) k j
    rw [dT_next] at ih
    unfold dT at ih ⊢
    simp only [cT] at ih
    push_cast at h2 ⊢
    rw [Int.add_mul]
    omega
/-- In all just its share. -/
theorem dT_all {W : List Int} {m S k : Nat} (hW : WP W (m : Int)) (hS : sumW W = (S : Int)) (hk : k < W.length) : dT W m S 0 k = W.getD k 0 * m := by
  unfold dT
  rw [cT, Int.add_zero]
  rw [sm_congr S (g := fun i => (lo (i : Int) (S : Int) (pre W (k + 1) * m) m : Int) - (lo (i : Int) (S : Int) (pre W k * m) m : Int)) (fun i hi => by rw [cT_lo hW (by omega) (by omega) hk m (Nat.le_refl _), hS])]
  rw [sm_sub]
  have hp : pre W (k + 1) * m = pre W k * m + W.getD k 0 * m := by rw [pre_succ hk, Int.add_mul]
  have h1 := preM_mono hW (i := k) (k := W.length) (by omega) (Nat.le_refl _)
  have h2 := preM_mono hW (i := k + 1) (k := W.length) (by omega) (Nat.le_refl _)
  rw [pre_all, hS, Int.mul_comm (S : Int)] at h1 h2
  rw [sm_lo (Int.mul_nonneg (hW.bound (k := k) (by omega)).1 (by omega)), sm_lo (Int.mul_nonneg (hW.bound (k := k + 1) (by omega)).1 (by omega))]
  rw [if_pos h1, if_pos h2]
  omega
theorem cT_row0 (W : List Int) (m : Nat) (s : Int) (n : Nat) : rowF n (cT W m s 0) = List.replicate n 0 := rowF_zero fun _ _ => rfl
theorem dT_row0 (W : List Int) (m n : Nat) : rowF n (dT W m 0 0) = List.replicate n 0 := rowF_zero fun _ _ => rfl
end Go.Proofs.Ythfnnceehhhfkaa
