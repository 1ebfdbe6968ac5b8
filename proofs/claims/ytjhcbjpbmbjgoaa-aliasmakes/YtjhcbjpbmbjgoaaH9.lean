/- alias.Make, its two ways; what a table says. -/
import Derived.Test.YtjhcbjpbmbjgoaaH8
namespace Go.Proofs.Ytjhcbjpbmbjgoaa
open Go.RowKit Go.Deep

theorem make_ok (A : Option Addr) (ca : Nat) (W : List Int) (w : World) (hW : IP w A ca W) (h : (sumC W).2 = 0) :
    Calls Try.prog 15 #[.slice A W.length ca] w fun e w' => ∃ R cr, e = .returned (.tuple #[.slice R W.length cr, .int .i64 0]) ∧ AP w' R cr (makeA W) ∧ Below w.heap.size w w' := by
  refine (make_any A ca W w hW).mono ?_
  rintro e w' ⟨R, cr, rfl, hA, hb⟩
  have e : makeC W = (makeA W, 0) := if_pos h
  rw [e] at hA ⊢
  refine ⟨R, cr, ?_, hA, hb⟩
  rw [makeA_len (sumC_ok h).1.nonneg]
theorem make_err (A : Option Addr) (ca : Nat) (W : List Int) (w : World) (hW : IP w A ca W) {x : Int} (h : (sumC W).2 = x) (hx : x ≠ 0) :
    Calls Try.prog 15 #[.slice A W.length ca] w fun e w' => ∃ R cr, e = .returned (.tuple #[.slice R 0 cr, .int .i64 x]) ∧ Below w.heap.size w w' := by
  refine (make_any A ca W w hW).mono ?_
  rintro e w' ⟨R, cr, rfl, hA, hb⟩
  have e : makeC W = ([], x) := by unfold makeC; rw [if_neg (by rw [h]; exact hx), h]
  rw [e]
  exact ⟨R, cr, rfl, hb⟩
/-- What a table says at a place. -/
theorem tabA {W : List Int} (hR : WR W) {k : Nat} (hk : k < W.length) :
    0 ≤ lev (makeA W) k ∧ lev (makeA W) k ≤ sumW W ∧ 0 ≤ too (makeA W) k ∧ too (makeA W) k < (W.length : Int) ∧ (lev (makeA W) k = sumW W → too (makeA W) k = k) ∧ (W.getD k 0 = 0 → lev (makeA W) k ≤ 0) := by
  have hi := makeA_inv hR.nonneg
  have hl := makeA_len hR.nonneg
  have hk2 : k < (makeA W).length := by omega
  have ho := makeA_open hR.nonneg k hk
  have hc := hi.cl k hk2
  have ht := hi.to0 k hk2
  have hu := hi.up k hk2
  refine ⟨hi.lo k hk2, ?_, ht.1, by omega, fun e => ?_, fun e => ?_⟩
  · by_cases e : too (makeA W) k = k
    · have := ho e; omega
    · have := hc e; omega
  · by_cases e2 : too (makeA W) k = k
    · exact e2
    · have := hc e2; omega
  · rw [e] at hu; omega
end Go.Proofs.Ytjhcbjpbmbjgoaa
