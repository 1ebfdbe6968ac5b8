/- Sizes, behind names (cut out of Nb and Da). -/
import Derived.Test.YtclfimpcacoefaaNn
namespace Go.Proofs.Ytclfimpcacoefaa
open Go.RowKit Go.Deep

theorem pow_up {n a b : Nat} (h : n < Bh ^ a) (hab : a ≤ b) : n < Bh ^ b := Nat.lt_of_lt_of_le h (Nat.pow_le_pow_right (by decide) hab)
theorem small_up {n : Nat} (h : n < Bh ^ 400000) : n < Bh ^ 900000 := pow_up (a := 400000) (b := 900000) h (by decide)
theorem small1 {n : Nat} (h : n < Bw) : n < Bh ^ 100000 := pow_up (a := 2) (b := 100000) (by exact h) (by decide)
/-- Sizes, behind names. -/
structure Sz5 (n : Nat) : Prop where
  out : n < Bh ^ 100000
structure Sz4 (n : Nat) : Prop where
  out : n < Bh ^ 400000
structure Sz9 (n : Nat) : Prop where
  out : n < Bh ^ 900000
structure S64 (n : Nat) : Prop where
  out : n < Bw ^ 64
theorem Sz5.four {n : Nat} (h : Sz5 n) : Sz4 n := ⟨pow_up (a := 100000) (b := 400000) h.out (by decide)⟩
theorem Sz5.nine {n : Nat} (h : Sz5 n) : Sz9 n := ⟨pow_up (a := 100000) (b := 900000) h.out (by decide)⟩
theorem sz_word {n : Nat} (h : n < Bw) : Sz5 n := ⟨small1 h⟩
end Go.Proofs.Ytclfimpcacoefaa
