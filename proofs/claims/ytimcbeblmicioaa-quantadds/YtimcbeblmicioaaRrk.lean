/- Slices of summary entries that came in. -/
import Derived.Test.YtimcbeblmicioaaQm0
import Derived.ProofKit
import Derived.OpenShut
import Derived.Deep.Slices
import Derived.ChangeSame
namespace Go.Proofs.Ytimcbeblmicioaa
open Go.RowKit Go.ChangeShapes Go.WideShapes Go.ChangeAt Go.Deep

theorem rk_of_arg {H : Type} {enc : TypeId × Value → H} {W : World} {a : Option Addr} {len cap : Nat} {d : DataW H} {p : List MemPlace}
    (h : DataW.Trod enc Try.prog W 0 (fun _ => true) true 22 (.slice a len cap) d p) : ∃ l : List Rk, l.length = len ∧ RP W a cap l := by
  obtain ⟨fuel, hf⟩ := h
  have ce : Try.prog.cellsOf 33 = 3 := by kernel_rfl
  have ci : Try.prog.cellsOf 3 = 1 := by kernel_rfl
  rcases open_slice Try.underlying22 hf with ⟨hcs, _⟩ | ⟨x, l, c, m, n, D, Pl, hcs, _, hl, hm, hmm, hx, hc⟩
  · simp [Value.cells] at hcs
    obtain ⟨rfl, rfl, rfl⟩ := hcs
    exact ⟨[], rfl, RP.nil W⟩
  · simp [Value.cells] at hcs
    obtain ⟨rfl, rfl, rfl⟩ := hcs
    have hmc : m = cap := by simpa using hmm
    subst hmc
    have each : ∀ i, i < m → ∃ r : Rk, W.cell? (x.add (i * 3)) = some (.int .i64 r.n) ∧ W.cell? (x.add (i * 3 + 1)) = some (.int .i64 r.g) ∧ W.cell? (x.add (i * 3 + 2)) = some (.int .i64 r.m) := by
      intro i hi
      obtain ⟨cs', h1, h2⟩ := hc i hi
      rw [ce] at h1
      obtain ⟨_, hlen, hcell⟩ := World.cells?_some h1
      obtain ⟨xs, k, hk, hxy, _, hxl, hfs⟩ := DataW.trod_struct Try.underlying33 h2
      match xs, hxl, cs', hlen with
      | [y0, y1, y2], _, [v0, v1, v2], _ =>
        have g0 := hfs 0 _ rfl
        have g1 := hfs 1 _ rfl
        have g2 := hfs 2 _ rfl
        simp [ci] at g0 g1 g2
        have e0 := hcell 0 (by omega)
        have e1 := hcell 1 (by omega)
        have e2 := hcell 2 (by omega)
        rw [add_add] at e0 e1 e2
        obtain ⟨q0, z0, _⟩ := DataW.trod_int Try.underlying3 g0
        obtain ⟨q1, z1, _⟩ := DataW.trod_int Try.underlying3 g1
        obtain ⟨q2, z2, _⟩ := DataW.trod_int Try.underlying3 g2
        simp only [List.cons.injEq, and_true] at z0 z1 z2
        subst z0 z1 z2
        exact ⟨⟨q0, q1, q2⟩, by simpa using e0, by simpa using e1, by simpa using e2⟩
    obtain ⟨F, hF⟩ : ∃ F : Nat → Rk, ∀ i, i < m → W.cell? (x.add (i * 3)) = some (.int .i64 (F i).n) ∧ W.cell? (x.add (i * 3 + 1)) = some (.int .i64 (F i).g) ∧ W.cell? (x.add (i * 3 + 2)) = some (.int .i64 (F i).m) := by
      have : Inhabited Rk := ⟨rk0⟩
      exact choose_lt each
    have hll : ((List.range len).map F).length = len := by simp
    refine ⟨(List.range len).map F, hll, ⟨fun h0 => ?_, by rw [hll]; exact hl, by unfold maxLen at hm; omega, fun h => by cases h⟩⟩
    rw [hll] at h0
    obtain ⟨b, off, spot⟩ := x
    have hspot : spot = none := by simpa [Addr.add] using World.cell?_spot (hF 0 (by omega)).1
    subst hspot
    refine ⟨b, off, rfl, ?_, fun i hi => ?_⟩
    · have := (hF 0 (by omega)).1
      rw [Addr.add_lit] at this
      exact block_lt_of_cell this
    · rw [hll] at hi
      obtain ⟨h0, h1, h2⟩ := hF i (by omega)
      rw [Addr.add_lit] at h0 h1 h2
      have er : rat ((List.range len).map F) i = F i := by unfold rat; simp [List.getD_eq_getElem?_getD, hi]
      rw [er]
      exact ⟨h0, h1, h2⟩
end Go.Proofs.Ytimcbeblmicioaa
