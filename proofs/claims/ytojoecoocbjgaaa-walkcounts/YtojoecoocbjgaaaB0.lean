/- Small facts on endings and on tests. -/
import Derived.Test.YtojoecoocbjgaaaRows
import Derived.WalkKit
import Derived.WalkSpells
import Derived.WalkLawsBesides
import Derived.Lib.Hide
namespace Go.Proofs.Ytojoecoocbjgaaa
open Go.RowKit

theorem retB {a b : Bool} (h : a = b) : Ending.returned (.bool a) = .returned (.bool b) := by rw [h]
theorem retI {k : IntKind} {a b : Int} (h : a = b) : Ending.returned (.int k a) = .returned (.int k b) := by rw [h]
theorem eqz_no {x : Nat} (h : x ≠ 0) : ((x : Int) == 0) = false := by
  rw [beq_eq_false_iff_ne]; omega
theorem nez_yes {x : Nat} (h : x ≠ 0) : ((x : Int) != 0) = true := by
  rw [bne_iff_ne]; omega
theorem retS {A : Option Addr} {a b c : Nat} (h : a = b) : Ending.returned (.slice A a c) = .returned (.slice A b c) := by rw [h]
theorem neq_no {x y : Nat} (h : x = y) : ((x : Int) != (y : Int)) = false := by subst h; simp
theorem neq_yes {x y : Nat} (h : x ≠ y) : ((x : Int) != (y : Int)) = true := by
  rw [bne_iff_ne]; omega
theorem ineq_no {x y : Int} (h : x = y) : (x != y) = false := by subst h; simp
theorem ineq_yes {x y : Int} (h : x ≠ y) : (x != y) = true := by
  rw [bne_iff_ne]; omega
end Go.Proofs.Ytojoecoocbjgaaa
