/- StatsParts' walk: where both parts are taken. -/
import Derived.Test.YtclfimpcacoefaaMw1
import Derived.Test.YtclfimpcacoefaaCo2
namespace Go.Proofs.Ytclfimpcacoefaa
open Go.RowKit Go.Deep

theorem okl_app {x y : List Int} : okl (y ++ x) ↔ (okl x ∧ okl y ∧ x.length + y.length ≤ 400) := by
  unfold okl sin
  constructor
  · intro h
    rw [List.length_append] at h
    exact ⟨⟨by omega, fun z hz => h.2 z (List.mem_append_right _ hz)⟩, ⟨by omega, fun z hz => h.2 z (List.mem_append_left _ hz)⟩, by omega⟩
  · intro h
    refine ⟨by rw [List.length_append]; omega, fun z hz => ?_⟩
    rcases List.mem_append.1 hz with h1 | h1
    · exact h.2.1.2 z h1
    · exact h.1.2 z h1
theorem ofT_ex (l : List Int) : ∃ n s q e : Int, ofT l = .tuple #[.agg #[.int .i64 n, .int .i64 s, .int .i64 q], .int .i64 e] ∧ (e = 0 ↔ okl l) := by
  by_cases h : okl l
  · exact ⟨_, _, _, _, ofT_ok h, by simp [h]⟩
  · exact ⟨_, _, _, _, ofT_no h, by simp [h]⟩
theorem ssum_app' (x y : List Int) : ssum (y ++ x) = ssum x + ssum y := by rw [ssum_app]; omega
theorem ssq_app' (x y : List Int) : ssq (y ++ x) = ssq x + ssq y := by rw [ssq_app]; omega
theorem spr_join' (x y : List Int) : (x.length : Int) * y.length * spr (y ++ x) = ((x.length : Int) + y.length) * (y.length * spr x + x.length * spr y) + (ssum x * y.length - ssum y * x.length) * (ssum x * y.length - ssum y * x.length) := by
  rw [← spr_join]
  unfold spr
  rw [ssq_app, ssum_app, ssq_app, ssum_app, List.length_append, List.length_append, Int.add_comm (ssq y), Int.add_comm (ssum y), Nat.add_comm y.length]
/-- How great the numbers of Steiner's theorem get. -/
theorem spr_le {l : List Int} (h : okl l) (h3 : l.length ≤ 60) : 0 ≤ spr l ∧ spr l ≤ l.length * (l.length * 1099511627776) := by
  refine ⟨spr_nonneg l, ?_⟩
  have h1 := ssq_bd h.2
  have h2 := sqn (ssum l)
  have h4 : (l.length : Int) * ssq l ≤ l.length * (l.length * 1099511627776) := Int.mul_le_mul_of_nonneg_left h1.2 (by omega)
  unfold spr; omega
theorem spr_le2 {l : List Int} (h : okl l) {n : Int} (h3 : (l.length : Int) ≤ n) (h0 : n ≤ 60) : 0 ≤ spr l ∧ spr l ≤ n * n * 1099511627776 := by
  have h1 := spr_le h (by omega)
  have h2 := abs_mul_bd (a := (l.length : Int)) (b := (l.length : Int)) (A := n) (B := n) (by omega) h3 (by omega) h3
  have h4 : (l.length : Int) * (l.length * 1099511627776) = (l.length : Int) * l.length * 1099511627776 := by rw [Int.mul_assoc]
  omega

theorem max2_if (x y : Int) : (if y > x then y else x) = max x y := by
  by_cases h : y > x
  · rw [if_pos h]; omega
  · rw [if_neg h]; omega
def max4 (a b c d : Int) : Int := max (max (max a b) c) d
theorem run_max4 (w : World) (ts : Array TypeId) (t : TypeId) (a b c d : Int) : (Builtin.max_ ts t #[.int .i64 a, .int .i64 b, .int .i64 c, .int .i64 d]).run Try.prog w = .ok (.int .i64 (max4 a b c d)) w := by
  have e : (if d > (if c > (if b > a then b else a) then c else (if b > a then b else a)) then d else (if c > (if b > a then b else a) then c else (if b > a then b else a))) = max4 a b c d := by
    rw [max2_if a b, max2_if (max a b) c, max2_if]; rfl
  simp [Builtin.max_, Builtin.max2, e]
end Go.Proofs.Ytclfimpcacoefaa
