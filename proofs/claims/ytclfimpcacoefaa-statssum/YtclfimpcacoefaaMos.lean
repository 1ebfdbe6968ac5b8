/- Shapes of what stats answers. -/
import Derived.Test.YtclfimpcacoefaaMo2
namespace Go.Proofs.Ytclfimpcacoefaa
open Go.RowKit Go.Deep

theorem ofT_ex2 (l : List Int) : ∃ n s q e : Int, ofT l = .tuple #[.agg #[.int .i64 n, .int .i64 s, .int .i64 q], .int .i64 e] ∧ (e = 0 ↔ okl l) ∧ (okl l → n = (l.length : Int) ∧ s = ssum l ∧ q = ssq l) := by
  by_cases h : okl l
  · exact ⟨_, _, _, _, ofT_ok h, by simp [h], fun _ => ⟨rfl, rfl, rfl⟩⟩
  · exact ⟨_, _, _, _, ofT_no h, by simp [h], fun h' => absurd h' h⟩
theorem shape2 {a b c d : Int} (h : Value.tuple #[.int .i64 a, .int .i64 b] = .tuple #[.int .i64 c, .int .i64 d]) : a = c ∧ b = d := by
  injection h with h
  simpa using h
end Go.Proofs.Ytclfimpcacoefaa
