/- Weights in order and their sum (cut out of Hb). -/
import Derived.Test.YthfnnceehhhfkaaHa
namespace Go.Proofs.Ythfnnceehhhfkaa

/-- Weights that are in order. -/
def WR (W : List Int) : Prop := 0 < W.length ∧ W.length ≤ 400 ∧ ∀ x ∈ W, 0 ≤ x ∧ x ≤ 1048576
instance (W : List Int) : Decidable (WR W) := inferInstanceAs (Decidable (_ ∧ _ ∧ _))
/-- The sum and an error. -/
def sumC (W : List Int) : Int × Int := if WR W then (if sumW W = 0 then (0, 3) else (sumW W, 0)) else (0, 2)
theorem sumW_le : ∀ {W : List Int}, (∀ x ∈ W, 0 ≤ x ∧ x ≤ 1048576) → 0 ≤ sumW W ∧ sumW W ≤ 1048576 * (W.length : Int)
  | [], _ => by simp [sumW]
  | x :: r, h => by
    have h1 := sumW_le (W := r) (fun y hy => h y (List.mem_cons_of_mem _ hy))
    have h2 := h x List.mem_cons_self
    rw [sumW, List.length_cons]
    omega
theorem take_snocW {W : List Int} {k : Nat} (h : k < W.length) : W.take (k + 1) = W.take k ++ [W.getD k 0] := by
  rw [List.take_succ_eq_append_getElem h]
  simp [List.getD_eq_getElem?_getD, h]
theorem memW {W : List Int} {k : Nat} (h : k < W.length) : W.getD k 0 ∈ W := by
  rw [List.getD_eq_getElem?_getD, List.getElem?_eq_getElem h]
  exact List.getElem_mem h
end Go.Proofs.Ythfnnceehhhfkaa
