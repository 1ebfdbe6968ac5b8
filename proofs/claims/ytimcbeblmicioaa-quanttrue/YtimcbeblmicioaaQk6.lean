/- slices.Delete of one entry that is not the last. -/
import Derived.Test.YtimcbeblmicioaaQk5
namespace Go.Proofs.Ytimcbeblmicioaa
open Go.RowKit Go.Deep

theorem delR_end {B g n c i : Nat} {S : List Rk} {cur : List Value} {w : World} (hb : Bs 33 w g cur) (hcl : cur.length = c * 3) (ht : cur.take (n * 3) = rvs S) (hl : S.length = n) (hi : i + 1 < n) (hnc : n ≤ c) (hc : c ≤ 9223372036854775807) (hB : B ≤ g) :
    OR ((w.drew.setCells g (i * 3) (rvs (S.drop (i + 1)))).setCells g ((i + (n - (i + 1))) * 3) zR) B (.slice (some ⟨g, 0, none⟩) (i + (n - (i + 1))) c) (S.eraseIdx i) ∧ Below B w ((w.drew.setCells g (i * 3) (rvs (S.drop (i + 1)))).setCells g ((i + (n - (i + 1))) * 3) zR) := by
  refine ⟨OR.of_parts (Bs.put _ _ (Bs.put (rvs (S.drop (i + 1))) (i * 3) (show Bs 33 w.drew g cur from hb))) (by rw [putL_len, putL_len]; exact hcl) ?_ (by rw [List.length_eraseIdx, if_pos (by omega)]; omega) (by omega) hc hB, below_put hB _ _ (below_put hB _ _ (Below.refl _ w).drew)⟩
  have hd : (rvs (S.drop (i + 1))).length = (n - (i + 1)) * 3 := by rw [rvs_len, List.length_drop, hl]
  have h1 := putL_take (rvs (S.drop (i + 1))) cur (i * 3) (by rw [hd]; omega)
  rw [hd, show i * 3 + (n - (i + 1)) * 3 = (i + (n - (i + 1))) * 3 by omega] at h1
  have h2 : (putL (putL cur (i * 3) (rvs (S.drop (i + 1)))) ((i + (n - (i + 1))) * 3) zR).take ((i + (n - (i + 1))) * 3) = (putL cur (i * 3) (rvs (S.drop (i + 1)))).take ((i + (n - (i + 1))) * 3) := by
    show (((((putL cur (i * 3) (rvs (S.drop (i + 1)))).set _ _).set _ _).set _ _)).take _ = _
    rw [List.take_set_of_le (by omega), List.take_set_of_le (by omega), List.take_set_of_le (by omega)]
  rw [h2, h1, erase_rvs, ← ht, List.take_take, show min (i * 3) (n * 3) = i * 3 by omega]

set_option maxRecDepth 1000000 in
set_option maxHeartbeats 1600000 in
theorem deleteR_any (B g n c i : Nat) (S : List Rk) (w : World) (h : OR w B (.slice (some ⟨g, 0, none⟩) n c) S) (hi : i + 1 < n) :
    Calls Try.prog 44 #[.slice (some ⟨g, 0, none⟩) n c, .int .i64 i, .int .i64 ((i : Int) + 1)] w fun e w' => e = .returned (.slice (some ⟨g, 0, none⟩) (i + (n - (i + 1))) c) ∧ OR w' B (.slice (some ⟨g, 0, none⟩) (i + (n - (i + 1))) c) (S.eraseIdx i) ∧ Below B w w' := by
  obtain ⟨i0, hi0, hz0, hz1, hz2⟩ := info_parts info_rank
  obtain ⟨cur, hb, hcl, ht, hl, hnc, hc, hB, hg⟩ := h.parts
  have E := Lib.hid (delR_end hb hcl ht hl hi hnc hc hB)
  have s0 : (rvs (S.drop (i + 1))).length = (n - (i + 1)) * 3 := by rw [rvs_len, List.length_drop, hl]
  have s1 := Lib.hid s0
  have s2 := Lib.hid (rvs_one (S := S.drop (i + 1)))
  have hnews : Hid (∀ j v, (rvs (S.drop (i + 1)))[j]? = some v → w.drew.cell? ((⟨g, (i + 1) * 3, none⟩ : Addr).add j) = some v) := fun j v hv => by
    have hj : j < (n - (i + 1)) * 3 := by
      have := (List.getElem?_eq_some_iff.1 hv).1
      omega
    rw [Addr.add_lit]
    show w.cell? _ = _
    rw [cell_take hb ht hl (by omega), ← hv, ← rvs_drop, List.getElem?_drop]
  have s3 : Hid (∀ j, j < (rvs (S.drop (i + 1))).length → (w.drew.cell? ⟨g, 0 + i * 3 + j, none⟩).isSome = true ∧ w.drew.frozen? ⟨g, 0 + i * 3 + j, none⟩ = false) := fun j hj => by
    rw [s0] at hj
    rw [Nat.zero_add]
    refine ⟨?_, hb.frozen _⟩
    show (w.cell? _).isSome = true
    rw [hb.cell (by omega), List.getElem?_eq_getElem (by omega)]; rfl
  have hb1 : Bs 33 (w.drew.setCells g (i * 3) (rvs (S.drop (i + 1)))) g (putL cur (i * 3) (rvs (S.drop (i + 1)))) := Bs.put _ (i * 3) (show Bs 33 w.drew g cur from hb)
  have hclr : ∀ ty, (Builtin.clear_ #[22] ty #[.slice (some ⟨g, (i + (n - (i + 1))) * 3, none⟩) (n - (i + (n - (i + 1)))) (c - (i + (n - (i + 1))))]).run Try.prog (w.drew.setCells g (i * 3) (rvs (S.drop (i + 1)))) = .ok (.tuple #[]) ((w.drew.setCells g (i * 3) (rvs (S.drop (i + 1)))).setCells g ((i + (n - (i + 1))) * 3) zR) := fun ty =>
    run_clearR _ ty g _ _ _ (by omega) (fun j hj => by rw [hb1.cell (by rw [putL_len]; omega), List.getElem?_eq_getElem (by rw [putL_len]; omega)]; rfl) (fun j _ => hb1.frozen _)
  have hp0 : (0 : Int) ≤ (i : Int) + 1 := by omega
  have hp1 : (i : Int) + 1 ≤ (n : Int) := by omega
  have hp2 : ((i : Int) + 1).toNat = i + 1 := by omega
  have hp3 : ((i : Int) == (i : Int) + 1) = false := by rw [beq_eq_false_iff_ne]; omega
  have hq1 : ¬ c = i + 1 := by omega
  have hq2 : ¬ c = i + (n - (i + 1)) := by omega
  have hq3 : i ≤ c := by omega
  clear hb hcl ht hb1 h s0
  go_enter Try.func44, Try.ntmps44
  go_wp2_with fail
  go_region_law (refine step_append_room rfl (.tmp 22) (.tmp 25) 22 rfl 33 i0 3 Try.underlying22 hi0 hz1 g 0 i c (by simp [Act.eval, Act.put]) ⟨g, (i + 1) * 3, none⟩ (n - (i + 1)) (c - (i + 1)) (rvs (S.drop (i + 1))) (by simp [Act.eval, Act.put]) s1.out hnews.out s2.out (by omega) s3.out ?_)
  go_wp2
  go_ret
  exact ⟨rfl, E.out⟩
end Go.Proofs.Ytimcbeblmicioaa
