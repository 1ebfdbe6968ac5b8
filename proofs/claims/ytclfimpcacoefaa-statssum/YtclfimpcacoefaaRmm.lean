/- Moments that came in by value: opened and shut. -/
import Derived.Test.YtclfimpcacoefaaRi
import Derived.Lib.SmallJoins
import Derived.OpenShut
namespace Go.Proofs.Ytclfimpcacoefaa
open Go.RowKit Go.ChangeShapes Go.WideShapes Go.ChangeAt Go.Deep Go.Joins

theorem i64_bds {n : Int} (h : (Lit.int .i64 n).wf = true) : -9223372036854775808 ≤ n ∧ n ≤ 9223372036854775807 := by
  simp [Lit.wf, IntKind.min, IntKind.max, IntKind.signed, IntKind.bits] at h
  omega
theorem cells_mom : Try.prog.cellsOf 24 = 3 := by kernel_rfl
theorem open_mom {H : Type} {enc : TypeId × Value → H} {W : World} {base : Nat} {v : Value} {d : DataW H} {p : List MemPlace}
    (hv : Value.okWide Try.prog W .any base 24 v) (h : DataW.Trod enc Try.prog W 0 (fun _ => true) true 24 v d p) :
    ∃ a b c : Int, v = .agg #[.int .i64 a, .int .i64 b, .int .i64 c] ∧ d = .agg [.lit (.int .i64 a), .lit (.int .i64 b), .lit (.int .i64 c)] ∧ p = [] ∧ (Lit.int .i64 a).wf = true ∧ (Lit.int .i64 b).wf = true ∧ (Lit.int .i64 c).wf = true := by
  obtain ⟨q0, q1, q2, y0, y1, y2, m, rfl, rfl, rfl, z0, z1, z2⟩ := open_agg3 Try.underlying24 (by kernel_rfl) cells_mom hv h
  obtain ⟨a, e0, rfl, wa⟩ := DataW.trod_int Try.underlying3 z0
  obtain ⟨b, e1, rfl, wb⟩ := DataW.trod_int Try.underlying3 z1
  obtain ⟨c, e2, rfl, wc⟩ := DataW.trod_int Try.underlying3 z2
  simp only [List.cons.injEq, and_true] at e0 e1 e2
  subst e0 e1 e2
  exact ⟨a, b, c, rfl, rfl, rfl, wa, wb, wc⟩
theorem shut_mom {H : Type} {enc : TypeId × Value → H} {W : World} {sp : Nat → Bool} {a b c : Int} (wa : (Lit.int .i64 a).wf = true) (wb : (Lit.int .i64 b).wf = true) (wc : (Lit.int .i64 c).wf = true) :
    DataW.Trod enc Try.prog W 0 sp true 24 (.agg #[.int .i64 a, .int .i64 b, .int .i64 c]) (.agg [.lit (.int .i64 a), .lit (.int .i64 b), .lit (.int .i64 c)]) [] :=
  shut_agg3 (y0 := (.lit (.int .i64 a), [])) (y1 := (.lit (.int .i64 b), [])) (y2 := (.lit (.int .i64 c), [])) Try.underlying24 (by kernel_rfl) cells_mom ⟨1, by simp [DataW.trod, Try.underlying3, wa]⟩ ⟨1, by simp [DataW.trod, Try.underlying3, wb]⟩ ⟨1, by simp [DataW.trod, Try.underlying3, wc]⟩
end Go.Proofs.Ytclfimpcacoefaa
