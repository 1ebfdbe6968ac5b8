/- stats: moments, pairs, Cauchy (written ahead of the code; builds by itself). -/
import Derived.Test.YtclfimpcacoefaaB0
namespace Go.Proofs.Ytclfimpcacoefaa

theorem sqn (a : Int) : 0 ≤ a * a := by
  rcases Int.le_total 0 a with h | h
  · exact Int.mul_nonneg h h
  · exact Int.mul_nonneg_of_nonpos_of_nonpos h h
/-- Sums: of the numbers, of their squares, of products. -/
def ssum : List Int → Int
  | [] => 0
  | x :: l => x + ssum l
def ssq : List Int → Int
  | [] => 0
  | x :: l => x * x + ssq l
def sxy : List Int → List Int → Int
  | x :: l, y :: m => x * y + sxy l m
  | _, _ => 0
theorem ssum_app (a b : List Int) : ssum (a ++ b) = ssum a + ssum b := by
  induction a with
  | nil => simp [ssum]
  | cons x l ih => simp only [List.cons_append, ssum, ih]; omega
theorem ssq_app (a b : List Int) : ssq (a ++ b) = ssq a + ssq b := by
  induction a with
  | nil => simp [ssq]
  | cons x l ih => simp only [List.cons_append, ssq, ih]; omega
theorem sxy_app : ∀ (a b c d : List Int), a.length = b.length → sxy (a ++ c) (b ++ d) = sxy a b + sxy c d
  | [], [], c, d, _ => by simp [sxy]
  | x :: a, y :: b, c, d, h => by
    simp only [List.cons_append, sxy, sxy_app a b c d (by simpa using h)]; omega
  | [], _ :: _, _, _, h => by simp at h
  | _ :: _, [], _, _, h => by simp at h
theorem sxy_self (l : List Int) : sxy l l = ssq l := by
  induction l with
  | nil => rfl
  | cons x l ih => simp only [sxy, ssq, ih]
theorem sxy_comm : ∀ (a b : List Int), sxy a b = sxy b a
  | [], [] => rfl
  | [], _ :: _ => rfl
  | _ :: _, [] => rfl
  | x :: a, y :: b => by simp only [sxy, sxy_comm a b, Int.mul_comm x y]
/-- Spread, and what both have in common. -/
def spr (l : List Int) : Int := (l.length : Int) * ssq l - ssum l * ssum l
def cov (x y : List Int) : Int := (x.length : Int) * sxy x y - ssum x * ssum y
theorem cov_self (l : List Int) : cov l l = spr l := by unfold cov spr; rw [sxy_self]
/-- One against those ahead of it. -/
def prow (x : Int) : List Int → Int
  | [] => 0
  | y :: l => (x - y) * (x - y) + prow x l
def prow2 (x y : Int) : List Int → List Int → Int
  | a :: l, b :: m => (x - a) * (y - b) + prow2 x y l m
  | _, _ => 0
theorem prow_eq (x : Int) : ∀ l : List Int, prow x l = (l.length : Int) * (x * x) - 2 * x * ssum l + ssq l
  | [] => by simp [prow, ssum, ssq]
  | y :: l => by
    have ih := prow_eq x l
    simp only [prow, ssum, ssq, List.length_cons, Int.natCast_add, Int.natCast_one, ih]
    grind
theorem prow2_eq (x y : Int) : ∀ a b : List Int, a.length = b.length → prow2 x y a b = (a.length : Int) * (x * y) - x * ssum b - y * ssum a + sxy a b
  | [], [], _ => by simp [prow2, ssum, sxy]
  | p :: a, q :: b, h => by
    have ih := prow2_eq x y a b (by simpa using h)
    simp only [prow2, ssum, sxy, List.length_cons, Int.natCast_add, Int.natCast_one, ih]
    grind
  | [], _ :: _, h => by simp at h
  | _ :: _, [], h => by simp at h
theorem spr_snoc (l : List Int) (x : Int) : spr (l ++ [x]) = spr l + prow x l := by
  unfold spr
  rw [prow_eq, ssq_app, ssum_app]
  simp only [List.length_append, List.length_cons, List.length_nil, ssq, ssum, Int.natCast_add, Int.natCast_one]
  grind
theorem cov_snoc (a b : List Int) (x y : Int) (h : a.length = b.length) : cov (a ++ [x]) (b ++ [y]) = cov a b + prow2 x y a b := by
  unfold cov
  rw [prow2_eq x y a b h, sxy_app a b [x] [y] h, ssum_app, ssum_app]
  simp only [List.length_append, List.length_cons, List.length_nil, sxy, ssum, Int.natCast_add, Int.natCast_one]
  grind
theorem prow_nonneg (x : Int) : ∀ l : List Int, 0 ≤ prow x l
  | [] => Int.le_refl _
  | y :: l => by
    have ih := prow_nonneg x l
    have : 0 ≤ (x - y) * (x - y) := sqn _
    simp only [prow]; omega
theorem spr_take (l : List Int) {k : Nat} (h : k < l.length) : spr (l.take (k + 1)) = spr (l.take k) + prow (l.getD k 0) (l.take k) := by
  have e : l.take (k + 1) = l.take k ++ [l.getD k 0] := by
    rw [List.take_succ_eq_append_getElem h]
    simp [List.getD_eq_getElem?_getD, h]
  rw [e, spr_snoc]
theorem cov_take (x y : List Int) {k : Nat} (hl : x.length = y.length) (h : k < x.length) : cov (x.take (k + 1)) (y.take (k + 1)) = cov (x.take k) (y.take k) + prow2 (x.getD k 0) (y.getD k 0) (x.take k) (y.take k) := by
  have e : x.take (k + 1) = x.take k ++ [x.getD k 0] := by
    rw [List.take_succ_eq_append_getElem h]
    simp [List.getD_eq_getElem?_getD, h]
  have e2 : y.take (k + 1) = y.take k ++ [y.getD k 0] := by
    rw [List.take_succ_eq_append_getElem (by omega)]
    simp [List.getD_eq_getElem?_getD, show k < y.length by omega]
  rw [e, e2, cov_snoc]
  rw [List.length_take, List.length_take]; omega
theorem spr_nonneg (l : List Int) : 0 ≤ spr l := by
  have key : ∀ k, k ≤ l.length → 0 ≤ spr (l.take k) := fun k => by
    induction k with
    | zero => intro _; simp [spr, ssq, ssum]
    | succ k ih =>
      intro h
      rw [spr_take l (by omega)]
      have := ih (by omega)
      have := prow_nonneg (l.getD k 0) (l.take k)
      omega
  have := key l.length (Nat.le_refl _)
  rwa [List.take_length] at this

/-! bounds, parity -/
def sin (l : List Int) : Prop := ∀ x ∈ l, -1048576 ≤ x ∧ x ≤ 1048576
theorem sq_bd {x : Int} (h : -1048576 ≤ x ∧ x ≤ 1048576) : 0 ≤ x * x ∧ x * x ≤ 1099511627776 := by
  refine ⟨sqn x, ?_⟩
  have h1 : 0 ≤ (1048576 - x) * (1048576 + x) := Int.mul_nonneg (by omega) (by omega)
  have h2 : (1048576 - x) * (1048576 + x) = 1099511627776 - x * x := by grind
  omega
theorem ssum_bd : ∀ {l : List Int}, sin l → -((l.length : Int) * 1048576) ≤ ssum l ∧ ssum l ≤ (l.length : Int) * 1048576
  | [], _ => by simp [ssum]
  | x :: l, h => by
    have ih := ssum_bd (l := l) (fun y hy => h y (List.mem_cons_of_mem _ hy))
    have hx := h x (List.mem_cons_self ..)
    simp only [ssum, List.length_cons, Int.natCast_add, Int.natCast_one]
    omega
theorem ssq_bd : ∀ {l : List Int}, sin l → 0 ≤ ssq l ∧ ssq l ≤ (l.length : Int) * 1099511627776
  | [], _ => by simp [ssq]
  | x :: l, h => by
    have ih := ssq_bd (l := l) (fun y hy => h y (List.mem_cons_of_mem _ hy))
    have hx := sq_bd (h x (List.mem_cons_self ..))
    simp only [ssq, List.length_cons, Int.natCast_add, Int.natCast_one]
    omega
theorem sq_par (x : Int) : (x - x * x) % 2 = 0 := by
  rcases Int.emod_two_eq x with h | h
  · rw [Int.sub_emod, Int.mul_emod, h]; rfl
  · rw [Int.sub_emod, Int.mul_emod, h]; rfl
theorem ssum_par : ∀ l : List Int, (ssum l - ssq l) % 2 = 0
  | [] => rfl
  | x :: l => by
    have ih := ssum_par l
    have hx := sq_par x
    simp only [ssum, ssq]
    omega

/-! all the same -/
theorem prow_zero {x : Int} : ∀ {l : List Int}, prow x l = 0 → ∀ y ∈ l, y = x
  | [], _ => fun y hy => by simp at hy
  | a :: l, h => by
    have h1 := prow_nonneg x l
    have h2 : 0 ≤ (x - a) * (x - a) := sqn _
    simp only [prow] at h
    have h3 : (x - a) * (x - a) = 0 := by omega
    have h4 : x - a = 0 := by
      rcases Int.mul_eq_zero.1 h3 with h | h <;> exact h
    intro y hy
    rcases List.mem_cons.1 hy with rfl | hy
    · omega
    · exact prow_zero (l := l) (by omega) y hy
theorem prow_same {x : Int} : ∀ {l : List Int}, (∀ y ∈ l, y = x) → prow x l = 0
  | [], _ => rfl
  | a :: l, h => by
    simp only [prow, prow_same (l := l) (fun y hy => h y (List.mem_cons_of_mem _ hy)), h a (List.mem_cons_self ..)]
    simp
theorem spr_zero {l : List Int} : spr l = 0 ↔ ∀ x ∈ l, ∀ y ∈ l, x = y := by
  constructor
  · intro h
    have key : ∀ k, k ≤ l.length → spr (l.take k) = 0 → ∀ x ∈ l.take k, ∀ y ∈ l.take k, x = y := fun k => by
      induction k with
      | zero => intro _ _ x hx; simp at hx
      | succ k ih =>
        intro hk h0
        rw [spr_take l (by omega)] at h0
        have h1 := spr_nonneg (l.take k)
        have h2 := prow_nonneg (l.getD k 0) (l.take k)
        have i1 := ih (by omega) (by omega)
        have i2 := prow_zero (show prow (l.getD k 0) (l.take k) = 0 by omega)
        have e : l.take (k + 1) = l.take k ++ [l.getD k 0] := by
          rw [List.take_succ_eq_append_getElem (by omega)]
          simp [List.getD_eq_getElem?_getD, show k < l.length by omega]
        rw [e]
        intro x hx y hy
        rw [List.mem_append, List.mem_singleton] at hx hy
        rcases hx with hx | hx <;> rcases hy with hy | hy
        · exact i1 x hx y hy
        · rw [i2 x hx, hy]
        · rw [i2 y hy, hx]
        · rw [hx, hy]
    have := key l.length (Nat.le_refl _)
    rw [List.take_length] at this
    exact this h
  · intro h
    have key : ∀ k, k ≤ l.length → spr (l.take k) = 0 := fun k => by
      induction k with
      | zero => intro _; simp [spr, ssq, ssum]
      | succ k ih =>
        intro hk
        rw [spr_take l (by omega), ih (by omega), prow_same]
        · rfl
        · intro y hy
          have hm : l.getD k 0 ∈ l := by
            rw [List.getD_eq_getElem?_getD, List.getElem?_eq_getElem (by omega)]; exact List.getElem_mem _
          exact h y (List.mem_of_mem_take hy) _ hm
    have := key l.length (Nat.le_refl _)
    rwa [List.take_length] at this

/-! Steiner; more, and so many times as much -/
theorem spr_join (x y : List Int) : (x.length : Int) * y.length * spr (x ++ y) = ((x.length : Int) + y.length) * (y.length * spr x + x.length * spr y) + (ssum x * y.length - ssum y * x.length) * (ssum x * y.length - ssum y * x.length) := by
  unfold spr
  rw [ssq_app, ssum_app, List.length_append, Int.natCast_add]
  grind
theorem ssum_shift (b : Int) : ∀ l : List Int, ssum (l.map (· + b)) = ssum l + l.length * b
  | [] => by simp [ssum]
  | x :: l => by
    have ih := ssum_shift b l
    simp only [List.map_cons, ssum, ih, List.length_cons, Int.natCast_add, Int.natCast_one]; grind
theorem ssq_shift (b : Int) : ∀ l : List Int, ssq (l.map (· + b)) = ssq l + 2 * b * ssum l + l.length * (b * b)
  | [] => by simp [ssum, ssq]
  | x :: l => by
    have ih := ssq_shift b l
    simp only [List.map_cons, ssum, ssq, ih, List.length_cons, Int.natCast_add, Int.natCast_one]; grind
theorem spr_shift (b : Int) (l : List Int) : spr (l.map (· + b)) = spr l := by
  unfold spr
  rw [ssum_shift, ssq_shift, List.length_map]; grind
theorem ssum_times (t : Int) : ∀ l : List Int, ssum (l.map (· * t)) = ssum l * t
  | [] => by simp [ssum]
  | x :: l => by
    have ih := ssum_times t l
    simp only [List.map_cons, ssum, ih]; grind
theorem ssq_times (t : Int) : ∀ l : List Int, ssq (l.map (· * t)) = ssq l * (t * t)
  | [] => by simp [ssq]
  | x :: l => by
    have ih := ssq_times t l
    simp only [List.map_cons, ssq, ih]; grind
theorem spr_times (t : Int) (l : List Int) : spr (l.map (· * t)) = spr l * t * t := by
  unfold spr
  rw [ssum_times, ssq_times, List.length_map]; grind

/-! Cauchy, Schwarz -/
theorem cs_step {A B C a b : Int} (hA : 0 ≤ A) (hB : 0 ≤ B) (h : C * C ≤ A * B) : (C + a * b) * (C + a * b) ≤ (A + a * a) * (B + b * b) := by
  have h1 : 0 ≤ A * (b * b) + B * (a * a) := Int.add_nonneg (Int.mul_nonneg hA (sqn b)) (Int.mul_nonneg hB (sqn a))
  -- (2Cab)² ≤ (Ab² + Ba²)²
  have h2 : (2 * C * a * b) * (2 * C * a * b) ≤ (A * (b * b) + B * (a * a)) * (A * (b * b) + B * (a * a)) := by
    have h3 : 0 ≤ (A * B - C * C) * (4 * ((a * b) * (a * b))) := Int.mul_nonneg (by omega) (by have := sqn (a * b); omega)
    have h4 : 0 ≤ (A * (b * b) - B * (a * a)) * (A * (b * b) - B * (a * a)) := sqn _
    have h5 : (A * (b * b) + B * (a * a)) * (A * (b * b) + B * (a * a)) - (2 * C * a * b) * (2 * C * a * b) = (A * B - C * C) * (4 * ((a * b) * (a * b))) + (A * (b * b) - B * (a * a)) * (A * (b * b) - B * (a * a)) := by grind
    omega
  have h6 : 2 * C * a * b ≤ A * (b * b) + B * (a * a) := by
    apply Classical.byContradiction
    intro hc
    have h7 : A * (b * b) + B * (a * a) < 2 * C * a * b := by omega
    generalize A * (b * b) + B * (a * a) = u at *
    generalize 2 * C * a * b = v at *
    have h8 : u * u < v * v := Int.lt_of_le_of_lt (Int.mul_le_mul_of_nonneg_left (Int.le_of_lt h7) h1) (Int.mul_lt_mul_of_pos_right h7 (by omega))
    omega
  have h9 : (A + a * a) * (B + b * b) - (C + a * b) * (C + a * b) = (A * B - C * C) + (A * (b * b) + B * (a * a) - 2 * C * a * b) := by grind
  omega
/-- All pairs of one against those ahead of it. -/
theorem cs_row (x y : Int) : ∀ (a b : List Int) (A B C : Int), a.length = b.length → 0 ≤ A → 0 ≤ B → C * C ≤ A * B → (C + prow2 x y a b) * (C + prow2 x y a b) ≤ (A + prow x a) * (B + prow y b)
  | [], [], A, B, C, _, _, _, h => by simpa [prow, prow2] using h
  | p :: a, q :: b, A, B, C, hl, hA, hB, h => by
    have h1 := cs_step (a := x - p) (b := y - q) hA hB h
    have h2 := cs_row x y a b (A + (x - p) * (x - p)) (B + (y - q) * (y - q)) (C + (x - p) * (y - q)) (by simpa using hl) (by have := sqn (x - p); omega) (by have := sqn (y - q); omega) h1
    simp only [prow, prow2, ← Int.add_assoc]
    exact h2
  | [], _ :: _, _, _, _, h, _, _, _ => by simp at h
  | _ :: _, [], _, _, _, h, _, _, _ => by simp at h
theorem cauchy {x y : List Int} (hl : x.length = y.length) : cov x y * cov x y ≤ spr x * spr y := by
  have key : ∀ k, k ≤ x.length → cov (x.take k) (y.take k) * cov (x.take k) (y.take k) ≤ spr (x.take k) * spr (y.take k) := fun k => by
    induction k with
    | zero => intro _; simp [cov, spr, ssum, ssq, sxy]
    | succ k ih =>
      intro hk
      rw [cov_take x y hl (by omega), spr_take x (by omega), spr_take y (by omega)]
      exact cs_row _ _ _ _ _ _ _ (by rw [List.length_take, List.length_take]; omega) (spr_nonneg _) (spr_nonneg _) (ih (by omega))
  have := key x.length (Nat.le_refl _)
  rw [List.take_length] at this
  rw [hl, List.take_length] at this
  exact this
end Go.Proofs.Ytclfimpcacoefaa
