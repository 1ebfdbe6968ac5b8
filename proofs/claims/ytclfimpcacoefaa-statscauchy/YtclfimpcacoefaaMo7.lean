/- lotdrawerref.PSpread and PBoth. -/
import Derived.Test.YtclfimpcacoefaaMo5
namespace Go.Proofs.Ytclfimpcacoefaa
open Go.RowKit Go.Deep

/-- PSpread's row so far. -/
theorem prow_succ {x : Int} {l : List Int} {j : Nat} (h : j < l.length) : prow x (l.take (j + 1)) = prow x (l.take j) + (x - l.getD j 0) * (x - l.getD j 0) := by
  rw [take_snoc h]
  generalize l.take j = M
  induction M with
  | nil => simp [prow]
  | cons a M ih => simp only [List.cons_append, prow, ih]; omega
theorem prow2_succ {x y : Int} {a b : List Int} {j : Nat} (hl : a.length = b.length) (h : j < a.length) : prow2 x y (a.take (j + 1)) (b.take (j + 1)) = prow2 x y (a.take j) (b.take j) + (x - a.getD j 0) * (y - b.getD j 0) := by
  rw [take_snoc h, take_snoc (l := b) (by omega)]
  have key : ∀ (M N : List Int) (p q : Int), M.length = N.length → prow2 x y (M ++ [p]) (N ++ [q]) = prow2 x y M N + (x - p) * (y - q) := by
    intro M
    induction M with
    | nil => intro N p q hN; cases N with
      | nil => simp [prow2]
      | cons _ _ => simp at hN
    | cons a M ih => intro N p q hN; cases N with
      | nil => simp at hN
      | cons b N => simp only [List.cons_append, prow2, ih N p q (by simpa using hN)]; omega
  exact key _ _ _ _ (by rw [List.length_take, List.length_take]; omega)
theorem dif_bd {a b c d : Int} (h1 : -1048576 ≤ a ∧ a ≤ 1048576) (h2 : -1048576 ≤ b ∧ b ≤ 1048576) (h3 : -1048576 ≤ c ∧ c ≤ 1048576) (h4 : -1048576 ≤ d ∧ d ≤ 1048576) : -4398046511104 ≤ (a - b) * (c - d) ∧ (a - b) * (c - d) ≤ 4398046511104 := by
  have := abs_mul_bd (a := a - b) (b := c - d) (A := 2097152) (B := 2097152) (by omega) (by omega) (by omega) (by omega)
  omega
theorem prow2_bd : ∀ {a b : List Int} {x y : Int}, sin a → sin b → (-1048576 ≤ x ∧ x ≤ 1048576) → (-1048576 ≤ y ∧ y ≤ 1048576) → -((a.length : Int) * 4398046511104) ≤ prow2 x y a b ∧ prow2 x y a b ≤ (a.length : Int) * 4398046511104
  | [], b, x, y, _, _, _, _ => by simp [prow2]
  | p :: a, [], x, y, _, _, _, _ => by simp only [prow2]; constructor <;> (simp only [List.length_cons]; omega)
  | p :: a, q :: b, x, y, h, h', hx, hy => by
    have ih := prow2_bd (a := a) (b := b) (x := x) (y := y) (fun z hz => h z (List.mem_cons_of_mem _ hz)) (fun z hz => h' z (List.mem_cons_of_mem _ hz)) hx hy
    have hm := dif_bd hx (h p (List.mem_cons_self ..)) hy (h' q (List.mem_cons_self ..))
    simp only [prow2, List.length_cons, Int.natCast_add, Int.natCast_one]
    omega
theorem prow_prow2 (x : Int) : ∀ l, prow x l = prow2 x x l l
  | [] => rfl
  | a :: l => by simp only [prow, prow2, prow_prow2 x l]
/-- How great the sums of the pairs get. -/
theorem cov_bd {a b : List Int} (hl : a.length = b.length) (h : sin a) (h' : sin b) (h4 : a.length ≤ 400) (k : Nat) (hk : k ≤ a.length) : -((k : Int) * 1759218604441600) ≤ cov (a.take k) (b.take k) ∧ cov (a.take k) (b.take k) ≤ (k : Int) * 1759218604441600 := by
  induction k with
  | zero => simp [cov, sxy, ssum]
  | succ k ih =>
    have ih := ih (by omega)
    rw [cov_take a b hl (by omega)]
    have h1 := prow2_bd (x := a.getD k 0) (y := b.getD k 0) (sin_take h k) (sin_take h' k) (sin_at h (by omega)) (sin_at h' (by omega))
    rw [List.length_take] at h1
    have h2 : ((min k a.length : Nat) : Int) ≤ 400 := by omega
    have h3 : 0 ≤ ((min k a.length : Nat) : Int) := by omega
    push_cast
    omega
theorem cov_bd2 {a b : List Int} (hl : a.length = b.length) (h : sin a) (h' : sin b) (h4 : a.length ≤ 400) (k : Nat) (hk : k ≤ a.length) : -703687441776640000 ≤ cov (a.take k) (b.take k) ∧ cov (a.take k) (b.take k) ≤ 703687441776640000 := by
  have := cov_bd hl h h' h4 k hk
  omega
theorem prow2_bd2 {a b : List Int} (hl : a.length = b.length) (h : sin a) (h' : sin b) (h4 : a.length ≤ 400) (k j : Nat) (hk : k < a.length) (hj : j ≤ k) : -1759218604441600 ≤ prow2 (a.getD k 0) (b.getD k 0) (a.take j) (b.take j) ∧ prow2 (a.getD k 0) (b.getD k 0) (a.take j) (b.take j) ≤ 1759218604441600 := by
  have h1 := prow2_bd (x := a.getD k 0) (y := b.getD k 0) (sin_take h j) (sin_take h' j) (sin_at h hk) (sin_at h' (by omega))
  rw [List.length_take] at h1
  omega
end Go.Proofs.Ytclfimpcacoefaa
