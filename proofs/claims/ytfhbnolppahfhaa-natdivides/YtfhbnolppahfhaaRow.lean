/- A slice of words that came in: what the row's opening tells of it, as words. -/
import Derived.Test.YtfhbnolppahfhaaMem
import Derived.OpenShut
namespace Go.Proofs.Ytfhbnolppahfhaa
open Go.RowKit

/-- A slice of integers that came in: nil, or the numbers of a row up to its capacity. -/
def IsRow (k : IntKind) (w : World) (a : Option Addr) (len cap : Nat) (zs : List Int) : Prop :=
  (a = none ∧ len = 0 ∧ cap = 0 ∧ zs = []) ∨
  ∃ x, a = some x ∧ len ≤ cap ∧ cap ≤ maxLen ∧ zs.length = cap ∧ (∀ i, i < zs.length → w.cell? (x.add i) = some (.int k (zs.getD i 0))) ∧ ∀ n ∈ zs, (Lit.int k n).wf = true

theorem wf_u64 {n : Int} (h : (Lit.int .u64 n).wf = true) : 0 ≤ n ∧ n.toNat < Bw := by
  have := bounds_u64 h
  unfold Bw
  omega

theorem IsRow.words {w : World} {a : Option Addr} {len cap : Nat} {zs : List Int} (h : IsRow .u64 w a len cap zs) : ∃ xs : List Nat, xs.length = len ∧ Wd w a xs ∧ len ≤ 9223372036854775807 := by
  rcases h with ⟨rfl, rfl, rfl, rfl⟩ | ⟨x, rfl, h1, h2, h3, h4, h5⟩
  · exact ⟨[], rfl, Wd.nil, by omega⟩
  · refine ⟨(zs.take len).map Int.toNat, by simp; omega, ⟨?_, ?_⟩, by unfold maxLen at h2; omega⟩
    · intro y hy
      obtain ⟨n, hn, rfl⟩ := List.mem_map.1 hy
      exact (wf_u64 (h5 n (List.mem_of_mem_take hn))).2
    · intro h0
      have hl : 0 < len := by simp at h0; omega
      obtain ⟨b, off, rfl, hc⟩ := ints_at h4 (by omega)
      refine ⟨b, off, rfl, block_lt_of_cell (hc 0 (by omega)), fun j hj => ?_⟩
      have hj2 : j < len := by simp at hj; omega
      rw [hc j (by omega)]
      have e : wd ((zs.take len).map Int.toNat) j = (zs.getD j 0).toNat := by
        unfold wd
        simp only [List.getD_eq_getElem?_getD, List.getElem?_map, List.getElem?_take, if_pos hj2]
        rw [List.getElem?_eq_getElem (by omega)]
        rfl
      have hm : zs.getD j 0 ∈ zs := by
        rw [List.getD_eq_getElem?_getD, List.getElem?_eq_getElem (by omega)]
        exact List.getElem_mem _
      rw [e, Int.toNat_of_nonneg (wf_u64 (h5 _ hm)).1]
end Go.Proofs.Ytfhbnolppahfhaa
