/- A list whose first so many are multiplied (cut out of Hs). -/
import Derived.Test.YthfnnceehhhfkaaHwr
import Derived.Test.YthfnnceehhhfkaaIv
namespace Go.Proofs.Ythfnnceehhhfkaa
open Go.RowKit

/-- The first so many are multiplied. -/
def mulTo (W : List Int) (b : Int) (k : Nat) : List Int := (W.take k).map (fun x => wrap64 (x * b)) ++ W.drop k
theorem mulTo_len (W : List Int) (b : Int) (k : Nat) : (mulTo W b k).length = W.length := by
  simp [mulTo]; omega
theorem mulTo_zero (W : List Int) (b : Int) : mulTo W b 0 = W := by simp [mulTo]
theorem mulTo_all (W : List Int) (b : Int) : mulTo W b W.length = W.map (fun x => wrap64 (x * b)) := by simp [mulTo]
theorem mulTo_at {W : List Int} {b : Int} {k : Nat} (h : k < W.length) : (mulTo W b k).getD k 0 = W.getD k 0 := by
  unfold mulTo
  rw [List.getD_eq_getElem?_getD, List.getElem?_append_right (by simp; omega)]
  simp [List.getD_eq_getElem?_getD, show min k W.length = k by omega]
theorem mulTo_set {W : List Int} {b : Int} {k : Nat} (h : k < W.length) : (mulTo W b k).set k (wrap64 (W.getD k 0 * b)) = mulTo W b (k + 1) := by
  unfold mulTo
  rw [List.set_append_right _ _ (by simp; omega), take_snocW h, List.map_append, List.append_assoc]
  congr 1
  rw [show k - (List.map (fun x => wrap64 (x * b)) (List.take k W)).length = 0 by simp; omega]
  rw [List.drop_eq_getElem_cons h, List.set_cons_zero]
  simp only [List.getD_eq_getElem?_getD, List.getElem?_eq_getElem h, Option.getD_some]
  rfl
end Go.Proofs.Ythfnnceehhhfkaa
