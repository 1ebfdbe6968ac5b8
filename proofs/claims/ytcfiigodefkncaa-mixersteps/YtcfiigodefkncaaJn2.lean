import Derived.Test.YtcfiigodefkncaaU0
import Derived.ProofKit
import Derived.SizedLaws
import Derived.Deep.Grids
import Derived.Test.YtcfiigodefkncaaXq
import Derived.Laws.IdiomArrays
import Derived.OpenShut
import Derived.WalkArith
/- Slices of words that came in, as the row's opening tells of them; with the form's own reach. -/
namespace Go.Proofs.Ytcfiigodefkncaa
open Go.RowKit Go.ChangeShapes Go.WideShapes Go.ChangeAt Go.Deep

theorem w64_of {n : Int} (h : (Lit.int .u64 n).wf = true) : ∃ X : W64, n = (X.toNat : Int) := by
  have hw := bounds_u64 h
  refine ⟨BitVec.ofNat 64 n.toNat, ?_⟩
  rw [BitVec.toNat_ofNat, Nat.mod_eq_of_lt (by omega), Int.toNat_of_nonneg (by omega)]
theorem bytes_u64 : Try.prog.bytesOf 22 = 8 := by kernel_rfl

theorem up_of_arg {H : Type} {enc : TypeId × Value → H} {W : World} {a : Option Addr} {len cap : Nat} {d : DataW H} {p : List MemPlace} {ts : List TypeId} {ds : List (DataW H)} {j : Nat}
    (hsz : (DataW.weightsEach Try.prog ts ds).all (· ≤ reachBytes) = true) (ht : ts[j]? = some 30) (hd : ds[j]? = some d)
    (h : DataW.Trod enc Try.prog W 0 (fun _ => true) true 30 (.slice a len cap) d p) : ∃ l : List W64, l.length = len ∧ UP W a cap l ∧ cap * 8 ≤ 140737488351232 := by
  obtain ⟨fuel, hf⟩ := h
  rcases open_ints Try.underlying30 Try.underlying22 (by kernel_rfl) hf with ⟨hcs, _⟩ | ⟨x, l, c, zs, hcs, _, hl, hm, hz, hx, hcell, hwz⟩
  · simp [Value.cells] at hcs
    obtain ⟨rfl, rfl, rfl⟩ := hcs
    exact ⟨[], rfl, ⟨Ul.nil, by simp, by omega, fun _ => rfl⟩, by omega⟩
  · simp [Value.cells] at hcs
    obtain ⟨rfl, rfl, rfl⟩ := hcs
    have hz' : zs.length = cap := by simpa using hz
    have hb : cap * 8 ≤ 140737488351232 := by
      simp only [Prod.mk.injEq] at hx
      obtain ⟨rfl, _⟩ := hx
      have := sized_slice hsz ht hd Try.underlying30
      rw [bytes_u64] at this
      simp only [lits, List.length_map, List.length_take, List.length_drop, reachBytes] at this
      omega
    refine ⟨(zs.take len).map (fun n => BitVec.ofNat 64 n.toNat), by simp; omega, ⟨?_, by simp; omega, by omega, fun h => by cases h⟩, hb⟩
    intro h0
    have h0' : 0 < len := by simp [uvs] at h0; omega
    obtain ⟨b, off, rfl, hc⟩ := ints_at hcell (by omega)
    refine ⟨b, off, rfl, block_lt_of_cell (hc 0 (by omega)), fun j hj => ?_⟩
    have hj2 : j < len := by simp [uvs] at hj; omega
    rw [hc j (by omega), uvs_at (by simp; omega)]
    have hm : zs.getD j 0 ∈ zs := by
      rw [List.getD_eq_getElem?_getD, List.getElem?_eq_getElem (by omega)]
      exact List.getElem_mem _
    have hw := bounds_u64 (hwz _ hm)
    have hjz : j < zs.length := by omega
    have e : ((zs.take len).map (fun n => BitVec.ofNat 64 n.toNat)).getD j 0 = BitVec.ofNat 64 (zs.getD j 0).toNat := by
      simp [List.getD_eq_getElem?_getD, List.getElem?_take, hj2, hjz]
    rw [e, BitVec.toNat_ofNat, Nat.mod_eq_of_lt (by omega), Int.toNat_of_nonneg (by omega)]
end Go.Proofs.Ytcfiigodefkncaa

/- A state of the mixer that came in by value: opened and shut. -/
namespace Go.Proofs.Ytcfiigodefkncaa
open Go.RowKit Go.ChangeShapes Go.WideShapes Go.ChangeAt Go.Deep

theorem cells_mx : Try.prog.cellsOf 24 = 4 := by kernel_rfl
theorem mx_list4 {α : Type} (l : List α) (h : (⟨l⟩ : Array α).size = 4) : ∃ a b c d, l = [a, b, c, d] := by
  match l, h with
  | [a, b, c, d], _ => exact ⟨a, b, c, d, rfl⟩
theorem wf_w64 (x : W64) : (Lit.int .u64 (x.toNat : Int)).wf = true := by
  have := x.isLt
  exact Go.WalkArith.wf_u64 ⟨by omega, by omega⟩
theorem open_mx {H : Type} {enc : TypeId × Value → H} {W : World} {base : Nat} {v : Value} {d : DataW H} {p : List MemPlace}
    (hv : Value.okWide Try.prog W .any base 24 v) (h : DataW.Trod enc Try.prog W 0 (fun _ => true) true 24 v d p) :
    ∃ m : Mx, v = mxv m ∧ d = .agg [.lit (.int .u64 (m.a.toNat : Int)), .lit (.int .u64 (m.b.toNat : Int)), .lit (.int .u64 (m.c.toNat : Int)), .lit (.int .u64 (m.d.toNat : Int))] ∧ p = [] := by
  obtain ⟨cs, rfl, hsz, _⟩ : ∃ cs, v = .agg cs ∧ cs.size = Try.prog.cellsOf 24 ∧ Row.okWide Try.prog W .any base 24 cs := by
    simpa [Value.okWide, Try.underlying24] using hv
  rw [cells_mx] at hsz
  obtain ⟨l⟩ := cs
  obtain ⟨c0, c1, c2, c3, rfl⟩ := mx_list4 l hsz
  obtain ⟨fuel, hf⟩ := h
  obtain ⟨y0, y1, y2, y3, m, hx, hy0, hy1, hy2, hy3⟩ := trod_array4 Try.underlying24 cells_u64 hf
  obtain ⟨x0, e0, rfl, w0⟩ := DataW.trod_int Try.underlying22 hy0
  obtain ⟨x1, e1, rfl, w1⟩ := DataW.trod_int Try.underlying22 hy1
  obtain ⟨x2, e2, rfl, w2⟩ := DataW.trod_int Try.underlying22 hy2
  obtain ⟨x3, e3, rfl, w3⟩ := DataW.trod_int Try.underlying22 hy3
  simp at e0 e1 e2 e3
  subst e0 e1 e2 e3
  obtain ⟨a, rfl⟩ := w64_of w0
  obtain ⟨b, rfl⟩ := w64_of w1
  obtain ⟨c, rfl⟩ := w64_of w2
  obtain ⟨d', rfl⟩ := w64_of w3
  simp only [Prod.mk.injEq] at hx
  obtain ⟨rfl, rfl⟩ := hx
  exact ⟨⟨a, b, c, d'⟩, rfl, rfl, rfl⟩
theorem shut_mx {H : Type} {enc : TypeId × Value → H} {W : World} {sp : Nat → Bool} (m : Mx) :
    DataW.Trod enc Try.prog W 0 sp true 24 (mxv m) (.agg [.lit (.int .u64 (m.a.toNat : Int)), .lit (.int .u64 (m.b.toNat : Int)), .lit (.int .u64 (m.c.toNat : Int)), .lit (.int .u64 (m.d.toNat : Int))]) [] :=
  ⟨2, by simp [mxv, DataW.trod, Value.cells, Try.underlying24, Try.underlying22, cells_mx, cells_u64, wf_w64, show List.range 4 = [0, 1, 2, 3] from rfl]⟩
end Go.Proofs.Ytcfiigodefkncaa
