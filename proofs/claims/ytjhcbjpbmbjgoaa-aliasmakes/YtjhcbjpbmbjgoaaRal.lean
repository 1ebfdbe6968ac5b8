/- Slices of alias entries that came in. -/
import Derived.Test.YtjhcbjpbmbjgoaaHb
import Derived.ProofKit
import Derived.OpenShut
import Derived.Deep.SlicePairs
namespace Go.Proofs.Ytjhcbjpbmbjgoaa
open Go.RowKit Go.ChangeShapes Go.WideShapes Go.ChangeAt Go.Deep

def numOf : Value → Int
  | .int _ q => q
  | _ => 0
theorem al_of_arg {H : Type} {enc : TypeId × Value → H} {W : World} {a : Option Addr} {len cap : Nat} {d : DataW H} {p : List MemPlace}
    (h : DataW.Trod enc Try.prog W 0 (fun _ => true) true 32 (.slice a len cap) d p) : ∃ l : AT, l.length = len ∧ AP W a cap l := by
  obtain ⟨fuel, hf⟩ := h
  rcases open_slice_pairs Try.underlying32 Try.underlying41 (by kernel_rfl) rfl rfl (by kernel_rfl) (by kernel_rfl) hf with ⟨hcs, _⟩ | ⟨x, l, c, m, n, V0, V1, D0, D1, P0, P1, hcs, _, hl, hm, hmm, hx, hc⟩
  · simp [Value.cells] at hcs
    obtain ⟨rfl, rfl, rfl⟩ := hcs
    exact ⟨[], rfl, ⟨fun h => by simp at h, by simp, by omega, fun _ => rfl⟩⟩
  · simp [Value.cells] at hcs
    obtain ⟨rfl, rfl, rfl⟩ := hcs
    have hmc : m = cap := by simpa using hmm
    subst hmc
    have hv : ∀ i, i < m → V0 i = .int .i64 (numOf (V0 i)) ∧ V1 i = .int .i64 (numOf (V1 i)) := fun i hi => by
      obtain ⟨_, _, h0, h1⟩ := hc i hi
      obtain ⟨q0, e0, _⟩ := DataW.trod_int Try.underlying3 h0
      obtain ⟨q1, e1, _⟩ := DataW.trod_int Try.underlying3 h1
      simp only [List.cons.injEq, and_true] at e0 e1
      rw [e0, e1]
      exact ⟨rfl, rfl⟩
    have hll : ((List.range len).map fun i => (numOf (V0 i), numOf (V1 i))).length = len := by simp
    refine ⟨(List.range len).map fun i => (numOf (V0 i), numOf (V1 i)), hll, ⟨fun h0 => ?_, by rw [hll]; exact hl, by unfold maxLen at hm; omega, fun h => by cases h⟩⟩
    rw [hll] at h0
    obtain ⟨b, off, spot⟩ := x
    have hspot : spot = none := by simpa [Addr.add] using World.cell?_spot (hc 0 (by omega)).1
    subst hspot
    refine ⟨b, off, rfl, ?_, fun i hi => ?_⟩
    · have := (hc 0 (by omega)).1
      rw [Addr.add_lit] at this
      exact block_lt_of_cell this
    · rw [hll] at hi
      obtain ⟨h0, h1, _, _⟩ := hc i (by omega)
      obtain ⟨e0, e1⟩ := hv i (by omega)
      rw [Addr.add_lit] at h0 h1
      have el : lev ((List.range len).map fun i => (numOf (V0 i), numOf (V1 i))) i = numOf (V0 i) := by simp [lev, List.getD_eq_getElem?_getD, hi]
      have et : too ((List.range len).map fun i => (numOf (V0 i), numOf (V1 i))) i = numOf (V1 i) := by simp [too, List.getD_eq_getElem?_getD, hi]
      rw [el, et, ← e0, ← e1]
      exact ⟨h0, h1⟩
end Go.Proofs.Ytjhcbjpbmbjgoaa
