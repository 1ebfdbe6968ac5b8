/- A reservoir that came in by value: opened. -/
import Derived.Test.YtgmbhlkjnamjhaaRi
import Derived.Lib.SmallJoins
namespace Go.Proofs.Ytgmbhlkjnamjhaa
open Go.RowKit Go.ChangeShapes Go.WideShapes Go.ChangeAt Go.Deep Go.Joins

theorem cells_pool : Try.prog.cellsOf 24 = 3 := by kernel_rfl
theorem open_pool {H : Type} {enc : TypeId × Value → H} {W : World} {base : Nat} {v : Value} {d : DataW H} {p : List MemPlace}
    (hv : Value.okWide Try.prog W .any base 24 v) (h : DataW.Trod enc Try.prog W 0 (fun _ => true) true 24 v d p) :
    ∃ (r c : Int) (A : Option Addr) (ca : Nat) (xs : List Int), v = .agg #[.int .i64 r, .int .i64 c, .slice A xs.length ca] ∧ IP W A ca xs := by
  obtain ⟨q0, q1, q2, y0, y1, y2, m, rfl, rfl, rfl, z0, z1, z2⟩ := open_agg3 Try.underlying24 (by kernel_rfl) cells_pool hv h
  obtain ⟨a, e0, rfl, wa⟩ := DataW.trod_int Try.underlying3 z0
  obtain ⟨b, e1, rfl, wb⟩ := DataW.trod_int Try.underlying3 z1
  simp only [List.cons.injEq, and_true] at e0 e1
  subst e0 e1
  rcases open_ints Try.underlying22 Try.underlying3 (by kernel_rfl) z2 with ⟨hcs, _⟩ | ⟨x, l, c, zs, hcs, _, hl, hm, hz, hx, hcell, hwz⟩
  · simp only [List.cons.injEq, and_true] at hcs
    subst hcs
    exact ⟨a, b, none, 0, [], rfl, Il.nil, by simp, by omega, fun _ => rfl⟩
  · simp only [List.cons.injEq, and_true] at hcs
    subst hcs
    have hz' : zs.length = c := by simpa using hz
    have hlen : (zs.take l).length = l := by simp; omega
    have hm2 : c ≤ 9223372036854775807 := by unfold maxLen at hm; omega
    refine ⟨a, b, some x, c, zs.take l, by rw [hlen], ?_, by rw [hlen]; omega, hm2, fun h => by cases h⟩
    intro h0
    have h0' : 0 < l := by simp [ivs] at h0; omega
    obtain ⟨b, off, rfl, hc⟩ := ints_at hcell (by omega)
    refine ⟨b, off, rfl, block_lt_of_cell (hc 0 (by omega)), fun j hj => ?_⟩
    have hj2 : j < l := by simp [ivs] at hj; omega
    rw [hc j (by omega), ivs_at (by simp; omega)]
    simp [List.getD_eq_getElem?_getD, List.getElem?_take, hj2]
end Go.Proofs.Ytgmbhlkjnamjhaa
