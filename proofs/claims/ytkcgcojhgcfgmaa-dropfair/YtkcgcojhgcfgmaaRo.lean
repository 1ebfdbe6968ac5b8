/- Slices that came in, as the row's opening tells of them: tapes of bits (Ri: lists of integers); with the form's own reach. -/
import Derived.Test.YtkcgcojhgcfgmaaRi
import Derived.ProofKit
import Derived.SizedLaws
import Derived.Deep.Grids
namespace Go.Proofs.Ytkcgcojhgcfgmaa
open Go.RowKit Go.ChangeShapes Go.WideShapes Go.ChangeAt Go.Deep

theorem bytes_bool : Try.prog.bytesOf 4 = 1 := by kernel_rfl

theorem tp_of_arg {H : Type} {enc : TypeId × Value → H} {W : World} {a : Option Addr} {len cap : Nat} {d : DataW H} {p : List MemPlace} {ts : List TypeId} {ds : List (DataW H)} {j : Nat}
    (hsz : (DataW.weightsEach Try.prog ts ds).all (· ≤ reachBytes) = true) (ht : ts[j]? = some 28) (hd : ds[j]? = some d)
    (h : DataW.Trod enc Try.prog W 0 (fun _ => true) true 28 (.slice a len cap) d p) : ∃ t : List Bool, t.length = len ∧ TP W a cap t ∧ cap ≤ 140737488351232 := by
  obtain ⟨fuel, hf⟩ := h
  rcases open_bools Try.underlying28 Try.underlying4 (by kernel_rfl) hf with ⟨hcs, _⟩ | ⟨x, l, c, B, hcs, _, hl, hm, hx, hcell⟩
  · simp [Value.cells] at hcs
    obtain ⟨rfl, rfl, rfl⟩ := hcs
    exact ⟨[], rfl, ⟨Tp.nil, by simp, by omega, by simp, fun _ => rfl⟩, by omega⟩
  · simp [Value.cells] at hcs
    obtain ⟨rfl, rfl, rfl⟩ := hcs
    have hb : cap ≤ 140737488351232 := by
      simp only [boolRow, Prod.mk.injEq] at hx
      obtain ⟨rfl, _⟩ := hx
      have := sized_slice hsz ht hd Try.underlying28
      rw [bytes_bool] at this
      simp only [List.length_map, List.length_range, reachBytes] at this
      omega
    refine ⟨(List.range len).map B, by simp, ⟨?_, by simp; exact hl, by omega, by simp; omega, fun h => by cases h⟩, hb⟩
    intro h0
    have h0' : 0 < len := by simpa [bvs] using h0
    obtain ⟨b, off, rfl, hc⟩ : ∃ b off, x = ⟨b, off, none⟩ ∧ ∀ i, i < cap → W.cell? ⟨b, off + i, none⟩ = some (.bool (B i)) := by
      have h1 := hcell 0 (by omega)
      obtain ⟨b, off, sp⟩ := x
      have hs : sp = none := by
        cases sp with
        | none => rfl
        | some k => rw [addr_add_zero] at h1; simp [World.cell?] at h1; split at h1 <;> cases h1
      subst hs
      exact ⟨b, off, rfl, fun i hi => by have := hcell i hi; rwa [Addr.add_lit] at this⟩
    refine ⟨b, off, rfl, block_lt_of_cell (hc 0 (by omega)), fun j hj => ?_⟩
    have hj2 : j < len := by simpa [bvs] using hj
    rw [hc j (by omega), bvs_at (by simpa using hj2)]
    simp [List.getD_eq_getElem?_getD, hj2]

end Go.Proofs.Ytkcgcojhgcfgmaa
