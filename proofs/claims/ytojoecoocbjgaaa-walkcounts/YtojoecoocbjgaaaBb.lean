/- Small facts on words, on an order and on worlds that grew. -/
import Derived.Test.YtojoecoocbjgaaaB0
import Derived.Laws.Bits64b
import Derived.Deep.QuietTactic
import Derived.BigQuiet
import Derived.WalkSmall
import Derived.Deep.OwnRows
import Derived.IntWalk
namespace Go.Proofs.Ytojoecoocbjgaaa
open Go.RowKit

theorem and32 (a : Nat) (ha : a < 18446744073709551616) : bits .and .u64 (a : Int) 4294967295 = ((a % 4294967296 : Nat) : Int) := by
  rw [show (4294967295 : Int) = ((4294967295 : Nat) : Int) from rfl, bits_and_u64_nat a 4294967295 ha (by omega), show (4294967295 : Nat) = 2 ^ 32 - 1 from rfl, Nat.and_two_pow_sub_one_eq_mod]
theorem shr32 (a : Nat) : (a : Int) / 4294967296 = ((a / 4294967296 : Nat) : Int) := by omega
theorem castM (a b : Nat) : (a : Int) * (b : Int) = ((a * b : Nat) : Int) := (Int.natCast_mul a b).symm
theorem castA (a b : Nat) : (a : Int) + (b : Int) = ((a + b : Nat) : Int) := (Int.natCast_add a b).symm
theorem noWrap (a : Nat) (ha : a < 18446744073709551616) : IntKind.u64.wrap (a : Int) = (a : Int) := by rw [IntKind.wrap_u64]; omega
theorem doWrap (a : Nat) : IntKind.u64.wrap (a : Int) = ((a % 18446744073709551616 : Nat) : Int) := by rw [IntKind.wrap_u64]; omega

/-- Less, equal or greater. -/
def ord (x y : Nat) : Int := if x < y then -1 else if y < x then 1 else 0
theorem ord_lt {x y : Nat} (h : x < y) : ord x y = -1 := if_pos h
theorem ord_gt {x y : Nat} (h : y < x) : ord x y = 1 := by unfold ord; rw [if_neg (by omega), if_pos h]
theorem ord_eq {x y : Nat} (h : x = y) : ord x y = 0 := by unfold ord; rw [if_neg (by omega), if_neg (by omega)]

theorem grown_drew {a b : World} {g : Option Nat} (h : a.grownBy b g) : a.grownBy b.drew g := ⟨h.os, h.tape, h.output, h.size, h.block⟩
theorem keep4 {w w1 : World} {a d e : Addr} {u y z : Value} (h : w.cell? a = some u ∧ w.cell? d = some y ∧ w.cell? e = some z ∧ w.frozen? d = false ∧ w.frozen? e = false)
    (hB : Below w.heap.size w w1) : w1.cell? a = some u ∧ w1.cell? d = some y ∧ w1.cell? e = some z ∧ w1.frozen? d = false ∧ w1.frozen? e = false := by
  obtain ⟨h1, h4, h5, h6, h7⟩ := h
  exact ⟨(hB.cell (block_lt_of_cell h1)).trans h1, (hB.cell (block_lt_of_cell h4)).trans h4, (hB.cell (block_lt_of_cell h5)).trans h5, (hB.frozen (block_lt_of_cell h4)).trans h6, (hB.frozen (block_lt_of_cell h5)).trans h7⟩
theorem below_grown {B g : Nat} {a w w' : World} (h : Below B a w) (hg : w.grownBy w' (some g)) (hB : B ≤ w.heap.size) (hgB : B ≤ g) : Below B a w' := h.grown hg hB (by intro k e; injection e; omega)
theorem set_mid {zs ds : List Nat} {off k x : Nat} (h1 : ds.length = k) (ho : off + k < zs.length) :
    (zs.take off ++ ds ++ zs.drop (off + k)).set (off + k) x = zs.take off ++ (ds ++ [x]) ++ zs.drop (off + (k + 1)) := by
  have hl : (zs.take off ++ ds).length = off + k := by simp [h1]; omega
  rw [List.set_append_right _ _ (by omega), hl, Nat.sub_self, List.drop_eq_getElem_cons ho]
  simp [Nat.add_assoc]
theorem take_of_mid {zs ds : List Nat} {i m c : Nat} (hd : ds.length = m) (hi : i + m < zs.length) :
    (zs.take i ++ ds ++ zs.drop (i + m)).set (i + m) c = zs.take i ++ (ds ++ [c]) ++ zs.drop (i + (m + 1)) := set_mid hd hi
end Go.Proofs.Ytojoecoocbjgaaa
