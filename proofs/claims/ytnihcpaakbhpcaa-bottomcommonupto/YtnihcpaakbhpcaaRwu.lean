/- Slices of words that came in, where all that came in is small. -/
import Derived.Test.YtnihcpaakbhpcaaRw
import Derived.Test.YtnihcpaakbhpcaaRu
namespace Go.Proofs.Ytnihcpaakbhpcaa
open Go.RowKit Go.ChangeShapes Go.WideShapes Go.ChangeAt Go.Deep

theorem up_of_argU {H : Type} {enc : TypeId × Value → H} {W : World} {a : Option Addr} {len cap : Nat} {d : DataW H} {p : List MemPlace}
    (h : DataW.Trod enc Try.prog W 0 (fun _ => true) true 25 (.slice a len cap) d p) : ∃ l : List W64, l.length = len ∧ UP W a cap l ∧ cap ≤ Rows.uptoBulk d := by
  obtain ⟨fuel, hf⟩ := h
  rcases open_ints Try.underlying25 Try.underlying22 (by kernel_rfl) hf with ⟨hcs, _⟩ | ⟨x, l, c, zs, hcs, _, hl, hm, hz, hx, hcell, hwz⟩
  · simp [Value.cells] at hcs
    obtain ⟨rfl, rfl, rfl⟩ := hcs
    exact ⟨[], rfl, ⟨Ul.nil, by simp, by omega, fun _ => rfl⟩, Nat.zero_le _⟩
  · simp [Value.cells] at hcs
    obtain ⟨rfl, rfl, rfl⟩ := hcs
    have hz' : zs.length = cap := by simpa using hz
    have hm2 : cap ≤ 9223372036854775807 := by unfold maxLen at hm; omega
    have hb : cap ≤ Rows.uptoBulk d := by
      simp only [Prod.mk.injEq] at hx
      obtain ⟨rfl, _⟩ := hx
      simp only [Rows.uptoBulk]
      have h1 := bulk_many (H := H) (lits .u64 (zs.take len))
      have h2 := bulk_many (H := H) (lits .u64 (zs.drop len))
      simp only [lits, List.length_map, List.length_take, List.length_drop] at h1 h2
      simp only [lits] at *
      omega
    refine ⟨(zs.take len).map (fun n => BitVec.ofNat 64 n.toNat), by simp; omega, ⟨?_, by simp; omega, hm2, fun h => by cases h⟩, hb⟩
    intro h0
    have h0' : 0 < len := by simp [uvs] at h0; omega
    obtain ⟨b, off, rfl, hc⟩ := ints_at hcell (by omega)
    refine ⟨b, off, rfl, block_lt_of_cell (hc 0 (by omega)), fun j hj => ?_⟩
    have hj2 : j < len := by simp [uvs] at hj; omega
    rw [hc j (by omega), uvs_at (by simp; omega)]
    have hm : zs.getD j 0 ∈ zs := by
      rw [List.getD_eq_getElem?_getD, List.getElem?_eq_getElem (by omega)]
      exact List.getElem_mem _
    have hw := bounds_u64 (hwz _ hm)
    have hjz : j < zs.length := by omega
    have e : ((zs.take len).map (fun n => BitVec.ofNat 64 n.toNat)).getD j 0 = BitVec.ofNat 64 (zs.getD j 0).toNat := by
      simp [List.getD_eq_getElem?_getD, List.getElem?_take, hj2, hjz]
    rw [e, BitVec.toNat_ofNat, Nat.mod_eq_of_lt (by omega), Int.toNat_of_nonneg (by omega)]
end Go.Proofs.Ytnihcpaakbhpcaa
