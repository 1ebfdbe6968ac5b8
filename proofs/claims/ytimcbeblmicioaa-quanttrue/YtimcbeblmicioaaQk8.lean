/- slices.Insert of one entry: ahead of another one, where there is no room; the whole. -/
import Derived.Test.YtimcbeblmicioaaQk7
import Derived.Lib.AppendZerosOnto
namespace Go.Proofs.Ytimcbeblmicioaa
open Go.RowKit Go.Deep

theorem zcells_len (n : Nat) : (Builtin.zeroCells (Value.agg #[.int .i64 0, .int .i64 0, .int .i64 0]).cells n).size = n * 3 := by
  have hc : (Value.agg #[.int .i64 0, .int .i64 0, .int .i64 0]).cells = #[.int .i64 0, .int .i64 0, .int .i64 0] := by simp [Value.cells]
  rw [hc]
  unfold Builtin.zeroCells
  rw [Array.size_map, Array.size_range]
  rfl
theorem insG_take {ROW : List Value} {S : List Rk} {n G i : Nat} (y : Rk) (hcl : ROW.length = G * 3) (ht : ROW.take (i * 3) = rvs (S.take i)) (hl : S.length = n) (hi : i < n) (hG : n + 1 ≤ G) :
    (putL (putL ROW (i * 3) (yv y)) ((i + 1) * 3) (rvs (S.drop i))).take ((n + 1) * 3) = rvs (S.take i ++ y :: S.drop i) := by
  have hd : (rvs (S.drop i)).length = (n - i) * 3 := by rw [rvs_len, List.length_drop, hl]
  have hy : (yv y).length = 3 := rfl
  have h1 := putL_take (rvs (S.drop i)) (putL ROW (i * 3) (yv y)) ((i + 1) * 3) (by rw [putL_len, hd]; omega)
  have h2 := putL_take (yv y) ROW (i * 3) (by rw [hy]; omega)
  rw [hd, show (i + 1) * 3 + (n - i) * 3 = (n + 1) * 3 by omega] at h1
  rw [hy, show i * 3 + 3 = (i + 1) * 3 by omega] at h2
  rw [h1, h2, ht, rvs_app, rvs_cons, List.append_assoc]

set_option maxRecDepth 1000000 in
set_option maxHeartbeats 1600000 in
theorem insGrow_any (B g n c i H : Nat) (S : List Rk) (y : Rk) (w : World) (h : OR w B (.slice (some ⟨g, 0, none⟩) n c) S) (hi : i < n) (hr : c < n + 1) (hn : n < 1000000) (hH : Bs 33 w H (yv y)) (hBw : B ≤ w.heap.size) :
    Calls Try.prog 46 #[.slice (some ⟨g, 0, none⟩) n c, .int .i64 i, .slice (some ⟨H, 0, none⟩) 1 1] w fun e w' => ∃ v', e = .returned v' ∧ OR w' B v' (S.take i ++ y :: S.drop i) ∧ Below B w w' := by
  obtain ⟨i0, hi0, hz0, hz1, hz2⟩ := info_parts info_rank
  obtain ⟨cur, hb, hcl, ht, hl, hnc, hc, hB, hg⟩ := h.parts
  obtain ⟨N, hN⟩ : ∃ N, N = w.heap.size := ⟨_, rfl⟩
  have hd : (rvs (S.drop i)).length = (n - i) * 3 := by rw [rvs_len, List.length_drop, hl]
  have hold : (Builtin.firstCells i0.size i (.slice (some ⟨g, 0, none⟩) i c)).run Try.prog w.drew = .ok (rvs (S.take i)).toArray w.drew := by
    rw [hz1]
    exact run_firstCells_some w.drew 3 i ⟨g, 0, none⟩ i c _ (by rw [rvs_len, List.length_take]; omega) (fun j v hv => by
      have hj := (List.getElem?_eq_some_iff.1 hv).1
      rw [rvs_len, List.length_take] at hj
      rw [Addr.add_lit, Nat.zero_add]
      show w.cell? _ = _
      rw [cell_take hb ht hl (by omega), ← hv, ← rvs_take, List.getElem?_take, if_pos (by omega)])
  have hik : i + (n + 1 - i) = n + 1 := by omega
  have hrz0 : ∀ ty, (Builtin.append_ #[22, 3] ty #[.slice (some ⟨g, 0, none⟩) i c, .int .i64 ((n : Int) + 1 - (i : Int))]).run Try.prog w =
      .ok (.slice (some ⟨w.heap.size, 0, none⟩) (n + 1) (grownCap w (n + 1) c 33)) (w.drew.alloc (.cells ((rvs (S.take i)).toArray ++ Builtin.zeroCells (Value.agg #[.int .i64 0, .int .i64 0, .int .i64 0]).cells (n + 1 - i) ++ Builtin.zeroCells (Value.agg #[.int .i64 0, .int .i64 0, .int .i64 0]).cells (grownCap w (n + 1) c 33 - (n + 1))) 33)) := fun ty => by
    have h := Lib.run_append_grow_zeros w 22 3 ty 33 i0 _ .i64 .i64 Try.underlying22 Try.underlying3 hi0 hz0 (some ⟨g, 0, none⟩) i c _ hold (n + 1 - i) (by omega) (by omega) (by omega) (by omega) (by rw [hz2]; omega) (by rw [hz2, hik]; exact growslice_fits (by omega) (by omega))
    rw [hik] at h
    rw [show (n : Int) + 1 - (i : Int) = ((n + 1 - i : Nat) : Int) by omega]
    exact h
  have hGn : n + 1 ≤ grownCap w (n + 1) c 33 := grownCap_ge w _ _ _
  have hG63 : grownCap w (n + 1) c 33 ≤ 9223372036854775807 := by
    have := grownCap_le_maxLen w (n + 1) c 33 (by unfold maxLen; omega)
    unfold maxLen at this
    omega
  generalize grownCap w (n + 1) c 33 = G at *
  obtain ⟨ROW, hROW⟩ : ∃ ROW : List Value, ROW.toArray = (rvs (S.take i)).toArray ++ Builtin.zeroCells (Value.agg #[.int .i64 0, .int .i64 0, .int .i64 0]).cells (n + 1 - i) ++ Builtin.zeroCells (Value.agg #[.int .i64 0, .int .i64 0, .int .i64 0]).cells (G - (n + 1)) := ⟨_, Array.toArray_toList⟩
  rw [← hROW] at hrz0
  have hRl : ROW.length = G * 3 := by
    have := congrArg Array.size hROW
    simp only [Array.size_append, zcells_len, List.size_toArray, rvs_len, List.length_take, hl] at this
    omega
  have hRt : ROW.take (i * 3) = rvs (S.take i) := by
    have := congrArg Array.toList hROW
    simp only [Array.toList_append] at this
    have e : (rvs (S.take i)).length = i * 3 := by rw [rvs_len, List.length_take]; omega
    rw [show ROW = _ from this, List.append_assoc, ← e]
    exact List.take_left
  obtain ⟨W1, hW1⟩ : ∃ W1, W1 = w.drew.alloc (.cells ROW.toArray 33) := ⟨_, rfl⟩
  rw [← hW1, ← hN] at hrz0
  have hrz := Lib.hid hrz0
  have hB1 : Bs 33 W1 N ROW := by rw [hW1, hN]; exact heap_alloc_new w.drew _
  have hD1 : Below w.heap.size w W1 := by rw [hW1]; exact (Below.refl _ w).drew.alloc (Nat.le_refl _) _
  have hHw : H < w.heap.size := Bs.lt hH
  have hH1 : Bs 33 W1 H (yv y) := hH.below hD1 hHw
  have hb1 : Bs 33 W1 g cur := hb.below hD1 hg
  have hb2 : Bs 33 (W1.setCells N (i * 3) (yv y)).drew g cur := (put_blockR (w := W1) _ _ (by omega)).trans hb1
  have hN2 : Bs 33 (W1.setCells N (i * 3) (yv y)).drew N (putL ROW (i * 3) (yv y)) := Bs.put (w := W1) _ _ hB1
  have hcpA : ∀ ty, (Builtin.copy_ #[22, 22] ty #[.slice (some ⟨N, i * 3, none⟩) (n + 1 - i) (G - i), .slice (some ⟨H, 0, none⟩) 1 1]).run Try.prog W1 = .ok (goInt (1 : Nat)) (W1.setCells N (i * 3) (yv y)) := fun ty =>
    run_copyR _ ty N _ _ _ ⟨H, 0, none⟩ _ _ _ 1 (by show _ = min _ _; omega) rfl (fun j v hv => by
      have hj := (List.getElem?_eq_some_iff.1 hv).1
      rw [Addr.add_lit, Nat.zero_add, hH1.cell hj]; exact hv) (fun j hj => by
      have hj : j < 3 := hj
      rw [hB1.cell (by omega), List.getElem?_eq_getElem (by omega)]; rfl) (fun j _ => hB1.frozen _) (by rw [yv_rvs]; exact rvs_one)
  have hcpB : Hid (∀ ty, (Builtin.copy_ #[22, 22] ty #[.slice (some ⟨N, (i + 1) * 3, none⟩) (n + 1 - (i + 1)) (G - (i + 1)), .slice (some ⟨g, i * 3, none⟩) (n - i) (c - i)]).run Try.prog (W1.setCells N (i * 3) (yv y)).drew = .ok (goInt (n - i : Nat)) ((W1.setCells N (i * 3) (yv y)).drew.setCells N ((i + 1) * 3) (rvs (S.drop i)))) := fun ty =>
    run_copyR _ ty N _ _ _ ⟨g, i * 3, none⟩ _ _ _ (n - i) (by show _ = min _ _; omega) hd (fun j v hv => by
      have hj := (List.getElem?_eq_some_iff.1 hv).1
      rw [Addr.add_lit, cell_take hb2 ht hl (by omega), ← hv, ← rvs_drop, List.getElem?_drop]) (fun j hj => by
      rw [hN2.cell (by rw [putL_len]; omega), List.getElem?_eq_getElem (by rw [putL_len]; omega)]; rfl) (fun j _ => hN2.frozen _) rvs_one
  have E : Hid (OR ((W1.setCells N (i * 3) (yv y)).drew.setCells N ((i + 1) * 3) (rvs (S.drop i))) B (.slice (some ⟨N, 0, none⟩) (n + 1) G) (S.take i ++ y :: S.drop i) ∧ Below B w ((W1.setCells N (i * 3) (yv y)).drew.setCells N ((i + 1) * 3) (rvs (S.drop i)))) :=
    ⟨OR.of_parts (Bs.put _ _ hN2) (by rw [putL_len, putL_len]; exact hRl) (insG_take y hRl hRt hl hi hGn) (by rw [List.length_append, List.length_cons, List.length_take, List.length_drop]; omega) hGn hG63 (by omega), below_put (by omega) _ _ (below_put (by omega) _ _ (hD1.mono hBw)).drew⟩
  have hz2' : ¬ ((i : Int) = (n : Int)) := by omega
  have hz3 : (c : Int) < (n : Int) + 1 := by omega
  have hin : i ≤ n := by omega
  have hin1 : i ≤ n + 1 := by omega
  have hci : ¬ c = i := by omega
  have hGi : ¬ G = i := by omega
  have hGi1 : ¬ G = i + 1 := by omega
  have hw1 : IntKind.i64.wrap ((i : Int) + 1) = (i : Int) + 1 := by rw [IntKind.wrap_i64]; omega
  have hw2 : IntKind.i64.wrap ((n : Int) + 1) = (n : Int) + 1 := by rw [IntKind.wrap_i64]; omega
  have hw3 : IntKind.i64.wrap ((n : Int) + 1 - (i : Int)) = (n : Int) + 1 - (i : Int) := by rw [IntKind.wrap_i64]; omega
  have ht1 : ((i : Int) + 1).toNat = i + 1 := by omega
  have hp1 : (0 : Int) ≤ (i : Int) + 1 := by omega
  have hp4 : (i : Int) + 1 ≤ (n : Int) + 1 := by omega
  have hp5 : (i : Int) ≤ (n : Int) + 1 := by omega
  clear h hb hcl ht hl hd hb1 hH1 hH hrz0 hold hROW hRl hRt hB1 hD1 hb2 hN2 hW1 hik hN
  go_enter Try.func46, Try.ntmps46
  go_wp2_with (at_builtin; refine wpList_append_run rfl _ _ _ _ rfl _ _ _ rfl rfl hrz.out ?_)
  go_region_law (refine step_copy_run rfl (.tmp 50) (.tmp 53) 22 22 rfl _ _ _ (by simp [Act.eval, Act.put]) (by simp [Act.eval, Act.put]) hcpB.out ?_)
  go_wp2
  go_ret
  exact ⟨_, rfl, E.out⟩
end Go.Proofs.Ytimcbeblmicioaa
