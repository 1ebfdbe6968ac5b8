/- A state of the mixer that came in by value: opened and shut. -/
import Derived.Test.YtcfiigodefkncaaXq
import Derived.Test.YtcfiigodefkncaaRw
import Derived.Laws.IdiomArrays
import Derived.ProofKit
import Derived.OpenShut
import Derived.WalkArith
namespace Go.Proofs.Ytcfiigodefkncaa
open Go.RowKit Go.ChangeShapes Go.WideShapes Go.ChangeAt Go.Deep

theorem cells_mx : Try.prog.cellsOf 24 = 4 := by kernel_rfl
theorem mx_list4 {α : Type} (l : List α) (h : (⟨l⟩ : Array α).size = 4) : ∃ a b c d, l = [a, b, c, d] := by
  match l, h with
  | [a, b, c, d], _ => exact ⟨a, b, c, d, rfl⟩
theorem wf_w64 (x : W64) : (Lit.int .u64 (x.toNat : Int)).wf = true := by
  have := x.isLt
  exact Go.WalkArith.wf_u64 ⟨by omega, by omega⟩
theorem open_mx {H : Type} {enc : TypeId × Value → H} {W : World} {base : Nat} {v : Value} {d : DataW H} {p : List MemPlace}
    (hv : Value.okWide Try.prog W .any base 24 v) (h : DataW.Trod enc Try.prog W 0 (fun _ => true) true 24 v d p) :
    ∃ m : Mx, v = mxv m ∧ d = .agg [.lit (.int .u64 (m.a.toNat : Int)), .lit (.int .u64 (m.b.toNat : Int)), .lit (.int .u64 (m.c.toNat : Int)), .lit (.int .u64 (m.d.toNat : Int))] ∧ p = [] := by
  obtain ⟨cs, rfl, hsz, _⟩ : ∃ cs, v = .agg cs ∧ cs.size = Try.prog.cellsOf 24 ∧ Row.okWide Try.prog W .any base 24 cs := by
    simpa [Value.okWide, Try.underlying24] using hv
  rw [cells_mx] at hsz
  obtain ⟨l⟩ := cs
  obtain ⟨c0, c1, c2, c3, rfl⟩ := mx_list4 l hsz
  obtain ⟨fuel, hf⟩ := h
  obtain ⟨y0, y1, y2, y3, m, hx, hy0, hy1, hy2, hy3⟩ := trod_array4 Try.underlying24 cells_u64 hf
  obtain ⟨x0, e0, rfl, w0⟩ := DataW.trod_int Try.underlying22 hy0
  obtain ⟨x1, e1, rfl, w1⟩ := DataW.trod_int Try.underlying22 hy1
  obtain ⟨x2, e2, rfl, w2⟩ := DataW.trod_int Try.underlying22 hy2
  obtain ⟨x3, e3, rfl, w3⟩ := DataW.trod_int Try.underlying22 hy3
  simp at e0 e1 e2 e3
  subst e0 e1 e2 e3
  obtain ⟨a, rfl⟩ := w64_of w0
  obtain ⟨b, rfl⟩ := w64_of w1
  obtain ⟨c, rfl⟩ := w64_of w2
  obtain ⟨d', rfl⟩ := w64_of w3
  simp only [Prod.mk.injEq] at hx
  obtain ⟨rfl, rfl⟩ := hx
  exact ⟨⟨a, b, c, d'⟩, rfl, rfl, rfl⟩
theorem shut_mx {H : Type} {enc : TypeId × Value → H} {W : World} {sp : Nat → Bool} (m : Mx) :
    DataW.Trod enc Try.prog W 0 sp true 24 (mxv m) (.agg [.lit (.int .u64 (m.a.toNat : Int)), .lit (.int .u64 (m.b.toNat : Int)), .lit (.int .u64 (m.c.toNat : Int)), .lit (.int .u64 (m.d.toNat : Int))]) [] :=
  ⟨2, by simp [mxv, DataW.trod, Value.cells, Try.underlying24, Try.underlying22, cells_mx, cells_u64, wf_w64, show List.range 4 = [0, 1, 2, 3] from rfl]⟩
end Go.Proofs.Ytcfiigodefkncaa
