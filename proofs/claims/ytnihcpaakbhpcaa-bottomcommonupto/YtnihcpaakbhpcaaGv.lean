/- BottomCommon: the mathematics: a sorted list made compact; counts of lists without repeats. -/
import Derived.Test.YtnihcpaakbhpcaaSo1
import Derived.Test.YtnihcpaakbhpcaaG3
namespace Go.Proofs.Ytnihcpaakbhpcaa
open Go.Sort Go.Lib

theorem toNat_inj' : ∀ x y : W64, x.toNat = y.toNat → x = y := fun _ _ h => BitVec.eq_of_toNat_eq h
theorem srt_compact {ds l : List W64} (hs : Sw 0 ds.length ds l) (ht : Srt l 0 ds.length) : compact l = ful (fun x : W64 => x.toNat) ds := by
  refine compact_ful toNat_inj' ?_ (fun x => hs.perm.mem_iff)
  have hl := hs.len
  rw [List.pairwise_iff_getElem]
  intro i j hi hj hij
  have := ht i j (Nat.zero_le _) hij (by omega)
  unfold ky at this
  simpa [List.getD_eq_getElem?_getD, hi, hj] using this
theorem nodup_len {l m : List W64} (h1 : l.Nodup) (h2 : m.Nodup) (h : ∀ x, x ∈ l ↔ x ∈ m) : l.length = m.length := ((List.perm_ext_iff_of_nodup h1 h2).2 h).length_eq
theorem nodup_le {l m : List W64} (h1 : l.Nodup) (h2 : m.Nodup) (h : ∀ x, x ∈ l → x ∈ m) : l.length ≤ m.length := by
  have e : l.length = (m.filter fun x => decide (x ∈ l)).length := nodup_len h1 (h2.filter _) (fun x => by
    rw [List.mem_filter, decide_eq_true_iff]
    exact ⟨fun hx => ⟨h x hx, hx⟩, fun hx => hx.2⟩)
  rw [e]
  exact List.length_filter_le _ _
end Go.Proofs.Ytnihcpaakbhpcaa
