/- Add and Mul at every argument, in one contract each. -/
import Derived.Test.YtfhbnolppahfhaaKa
namespace Go.Proofs.Ytfhbnolppahfhaa
open Go.RowKit Go.Deep

/-- What a call answers that makes the number n out of xs and ys: its words, 'no room', or 'not a number'. -/
def ansL (xs ys : List Nat) (n : Nat) : List Nat := if (rt xs && rt ys) = true then fitL n else []
def ansE (xs ys : List Nat) (n : Nat) : Int := if (rt xs && rt ys) = true then fitE n else 1

theorem add_tot (A B : Option Addr) (ca cb : Nat) (xs ys : List Nat) (w : World) (ha : Wd w A xs) (hb : Wd w B ys) (hla : xs.length ≤ 9223372036854775807) (hlb : ys.length ≤ 9223372036854775807) :
    Calls Try.prog 10 #[.slice A xs.length ca, .slice B ys.length cb] w fun e w' => ∃ R c, e = .returned (.tuple #[.slice R (ansL xs ys (val xs + val ys)).length c, .int .i64 (ansE xs ys (val xs + val ys))]) ∧
      Wd w' R (ansL xs ys (val xs + val ys)) ∧ Below w.heap.size w w' := by
  unfold ansL ansE
  by_cases h : (rt xs && rt ys) = true
  · rw [if_pos h, if_pos h]
    have h' := h
    rw [Bool.and_eq_true] at h'
    refine (add_any A B ca cb xs ys w ha hb h'.1 h'.2).mono ?_
    rintro e w' ⟨R, c, rfl, h1, _, h3⟩
    exact ⟨R, c, rfl, h1, h3⟩
  · rw [if_neg h, if_neg h]
    refine (add_bad A B ca cb xs ys w ha hb hla hlb (by simpa using h)).mono ?_
    rintro e w' ⟨rfl, rfl⟩
    exact ⟨none, 0, rfl, Wd.nil, Below.refl _ _⟩
theorem mul_tot (A B : Option Addr) (ca cb : Nat) (xs ys : List Nat) (w : World) (ha : Wd w A xs) (hb : Wd w B ys) (hla : xs.length ≤ 9223372036854775807) (hlb : ys.length ≤ 9223372036854775807) :
    Calls Try.prog 12 #[.slice A xs.length ca, .slice B ys.length cb] w fun e w' => ∃ R c, e = .returned (.tuple #[.slice R (ansL xs ys (val xs * val ys)).length c, .int .i64 (ansE xs ys (val xs * val ys))]) ∧
      Wd w' R (ansL xs ys (val xs * val ys)) ∧ Below w.heap.size w w' := by
  unfold ansL ansE
  by_cases h : (rt xs && rt ys) = true
  · rw [if_pos h, if_pos h]
    have h' := h
    rw [Bool.and_eq_true] at h'
    refine (mul_any A B ca cb xs ys w ha hb h'.1 h'.2).mono ?_
    rintro e w' ⟨R, c, rfl, h1, _, h3⟩
    exact ⟨R, c, rfl, h1, h3⟩
  · rw [if_neg h, if_neg h]
    refine (mul_bad A B ca cb xs ys w ha hb hla hlb (by simpa using h)).mono ?_
    rintro e w' ⟨rfl, rfl⟩
    exact ⟨none, 0, rfl, Wd.nil, Below.refl _ _⟩
theorem ans_cases (xs ys : List Nat) (n : Nat) :
    (rt xs = true ∧ rt ys = true ∧ n < Bw ^ 64 ∧ ansL xs ys n = words n ∧ ansE xs ys n = 0) ∨ (ansL xs ys n = [] ∧ (ansE xs ys n = 1 ∨ ansE xs ys n = 4) ∧ ¬ ((rt xs && rt ys) = true ∧ n < Bw ^ 64)) := by
  unfold ansL ansE
  by_cases h : (rt xs && rt ys) = true
  · rw [if_pos h, if_pos h]
    unfold fitL fitE
    by_cases h2 : n < Bw ^ 64
    · rw [if_pos h2, if_pos h2]
      rw [Bool.and_eq_true] at h
      exact .inl ⟨h.1, h.2, h2, rfl, rfl⟩
    · rw [if_neg h2, if_neg h2]
      exact .inr ⟨rfl, .inr rfl, fun k => h2 k.2⟩
  · rw [if_neg h, if_neg h]
    exact .inr ⟨rfl, .inl rfl, fun k => h k.1⟩
theorem ans_ok {xs ys : List Nat} {n : Nat} (h1 : rt xs = true) (h2 : rt ys = true) (h3 : n < Bw ^ 64) : ansL xs ys n = words n ∧ ansE xs ys n = 0 := by
  unfold ansL ansE
  rw [if_pos (by rw [h1, h2]; rfl), if_pos (by rw [h1, h2]; rfl)]
  exact ⟨if_pos h3, if_pos h3⟩
theorem ans_comm (xs ys : List Nat) (n : Nat) : ansL xs ys n = ansL ys xs n ∧ ansE xs ys n = ansE ys xs n := by
  unfold ansL ansE
  rw [Bool.and_comm]
  exact ⟨rfl, rfl⟩
theorem mul_comm_ans (xs ys : List Nat) : ansL ys xs (val ys * val xs) = ansL xs ys (val xs * val ys) ∧ ansE ys xs (val ys * val xs) = ansE xs ys (val xs * val ys) := by
  rw [Nat.mul_comm (val ys)]
  exact ⟨(ans_comm _ _ _).1.symm, (ans_comm _ _ _).2.symm⟩
theorem add_comm_ans (xs ys : List Nat) : ansL ys xs (val ys + val xs) = ansL xs ys (val xs + val ys) ∧ ansE ys xs (val ys + val xs) = ansE xs ys (val xs + val ys) := by
  rw [Nat.add_comm (val ys)]
  exact ⟨(ans_comm _ _ _).1.symm, (ans_comm _ _ _).2.symm⟩
end Go.Proofs.Ytfhbnolppahfhaa
