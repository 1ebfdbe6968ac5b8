/- slices.Insert of one entry: ahead of another one, where there is room; at the end. -/
import Derived.Test.YtimcbeblmicioaaQk5
import Derived.Lib.Overlaps
import Derived.Laws.IdiomCopy
import Derived.Laws.Externs
namespace Go.Proofs.Ytimcbeblmicioaa
open Go.RowKit Go.Deep

theorem putL_eq (vs : List Value) (L : List Value) (o : Nat) (h : o + vs.length ≤ L.length) : putL L o vs = L.take o ++ (vs ++ L.drop (o + vs.length)) := by
  have h1 := putL_take vs L o h
  have h2 : ∀ (vs L : List Value) (o : Nat), o + vs.length ≤ L.length → (putL L o vs).drop (o + vs.length) = L.drop (o + vs.length) := by
    intro vs
    induction vs with
    | nil => intro L o _; rfl
    | cons v r ih =>
      intro L o h
      simp only [List.length_cons] at h
      rw [putL, List.length_cons, show o + (r.length + 1) = o + 1 + r.length by omega, ih _ _ (by rw [List.length_set]; omega), List.drop_set_of_lt (by omega)]
  rw [← List.take_append_drop (o + vs.length) (putL L o vs), h1, h2 vs L o h, List.append_assoc]
theorem put_blockR {g : Nat} (vs : List Value) : ∀ {w : World} (o : Nat) {k : Nat}, k ≠ g → (w.setCells g o vs).heap[k]? = w.heap[k]? := by
  induction vs with
  | nil => intro w o k _; rfl
  | cons v r ih => intro w o k hk; exact (ih (o + 1) hk).trans (Below.heap_setCell w _ _ _ hk)
theorem run_copyR (w : World) (ty : TypeId) (b o dLen dCap : Nat) (a : Addr) (sLen sCap : Nat) (cs : List Value) (m : Nat) (hm : m = Nat.min sLen dLen) (hn : cs.length = m * 3)
    (hsrc : ∀ j v, cs[j]? = some v → w.cell? (a.add j) = some v) (hc : ∀ j, j < cs.length → (w.cell? ⟨b, o + j, none⟩).isSome = true) (hf : ∀ j, j < cs.length → w.frozen? ⟨b, o + j, none⟩ = false) (h1 : ∀ v ∈ cs, v.oneCell' = true) :
    (Builtin.copy_ #[22, 22] ty #[.slice (some ⟨b, o, none⟩) dLen dCap, .slice (some a) sLen sCap]).run Try.prog w = .ok (goInt m) (w.setCells b o cs) := by
  obtain ⟨i0, hi0, hz0, hz1, hz2⟩ := info_parts info_rank
  have hl := run_loadCells_list (P := Try.prog) w a cs hsrc
  have hst := run_storeCells_cells (P := Try.prog) b o cs 0 w (by simpa using hc) (by simpa using hf) h1
  rw [hn] at hl
  simp [Builtin.copy_, run_underlying Try.underlying22, Builtin.lenOf, Builtin.firstCells, Go.sizeOf, typeInfo, hi0, hz1, ← hm, hl, hst]
theorem wp_copy_run {P : Program} {w w' : World} {o : Oper} {a : Act} {K : Act → World → Prop} {Q : Exit → Act → World → Prop} (d s : Operand) (t t' : TypeId)
    (ho : o.op = .call { callee := .builtin .copy, args := #[d, s], argTypes := #[t, t'] }) (v u v' : Value) (hd : a.eval d = v) (hs : a.eval s = u)
    (hr : ∀ ty, (Builtin.copy_ #[t, t'] ty #[v, u]).run P w = .ok v' w') (h : K (a.put o.dst v') w') : o.wp P a w K Q := by
  unfold Oper.wp execOp
  simp only [ho, resolve, invoke, builtin, Sem.run_bind, Sem.run_pure, Result.andThen_ok, List.map_toArray, List.map_cons, List.map_nil, hd, hs, hr]
  exact h
theorem wpList_copy_run {P : Program} {w w' : World} {ops : Array Oper} {rest : List Oper} {o : Oper} {a : Act} {Q : Exit → Act → World → Prop} (hgd : o.guard = none) (d s : Operand) (t t' : TypeId)
    (ho : o.op = .call { callee := .builtin .copy, args := #[d, s], argTypes := #[t, t'] }) (v u v' : Value) (hd : a.eval d = v) (hs : a.eval s = u)
    (hr : ∀ ty, (Builtin.copy_ #[t, t'] ty #[v, u]).run P w = .ok v' w') (h : wpList P ops Q rest (a.put o.dst v') w') : wpList P ops Q (o :: rest) a w :=
  wpList_plain hgd fun _ hK => wp_copy_run d s t t' ho v u v' hd hs hr (hK _ _ h)
theorem step_copy_run {P : Program} {w w' : World} {ops : Array Oper} {o : Oper} {a : Act} {K : Act → World → Prop} {Q : Exit → Act → World → Prop} {E : Prop}
    (hg : o.guard = none) (d x : Operand) (dT sT : TypeId) (hop : o.op = Op.call { callee := Callee.builtin Builtin.copy, args := #[d, x], argTypes := #[dT, sT] })
    (v u v' : Value) (hd : a.eval d = v) (hx : a.eval x = u) (hr : ∀ ty, (Builtin.copy_ #[dT, sT] ty #[v, u]).run P w = .ok v' w') (hK : K (a.put o.dst v') w') :
    if Region.wanted o (yielded ops a.tmps) = true then Oper.wp P o a w K Q else E := by
  have hw : Region.wanted o (yielded ops a.tmps) = true := by simp [Region.wanted, hg]
  rw [if_pos hw]
  exact wp_copy_run d x dT sT hop v u v' hd hx hr hK
theorem sizeR (w : World) : (Go.sizeOf 33).run Try.prog w = .ok 3 w := by
  obtain ⟨i0, hi0, hz0, hz1, hz2⟩ := info_parts info_rank
  simp [Go.sizeOf, typeInfo, hi0, hz1]
/-- An entry in a block of its own does not lie over a summary. -/
theorem overlapsR {w : World} {g H k lb cb : Nat} {cur ys : List Value} (hg : Bs 33 w g cur) (hH : Bs 33 w H ys) (hne : H ≠ g) (h0 : cur.length ≠ 0) :
    (callFunc 59 #[.slice (some ⟨H, 0, none⟩) 1 1, .slice (some ⟨g, k, none⟩) lb cb]).run Try.prog w = .ok (.value (.bool false)) w := by
  rw [run_callFunc_extern Try.func59 (by kernel_rfl) (by kernel_rfl) (by kernel_rfl) (e := Extern.SlicesOverlaps.overlaps #[22, 22] #[4]) (by kernel_rfl),
    Lib.run_overlaps_apart w 22 4 33 Try.underlying22 3 sizeR ⟨H, 0, none⟩ ⟨g, k, none⟩ 1 1 lb cb hne 33 33 ys.length cur.length (by
      have : w.heap[H]? = some (.cells ys.toArray 33 (0, 0)) := hH
      simp [World.shape?, this]) (by
      have : w.heap[g]? = some (.cells cur.toArray 33 (0, 0)) := hg
      simp [World.shape?, this]) h0 (hH.frozen _) (hH.frozen _)]
  rfl
/-- An entry's cells. -/
def yv (y : Rk) : List Value := [.int .i64 y.n, .int .i64 y.g, .int .i64 y.m]
theorem yv_rvs (y : Rk) : yv y = rvs [y] := rfl
theorem rvs_cons (y : Rk) (l : List Rk) : rvs (y :: l) = yv y ++ rvs l := rfl
theorem ins_take {cur : List Value} {S : List Rk} {n c i : Nat} (y : Rk) (hcl : cur.length = c * 3) (ht : cur.take (n * 3) = rvs S) (hl : S.length = n) (hi : i < n) (hr : n + 1 ≤ c) :
    (putL (putL cur ((i + 1) * 3) (rvs (S.drop i))) (i * 3) (yv y)).take ((n + 1) * 3) = rvs (S.take i ++ y :: S.drop i) := by
  have hd : (rvs (S.drop i)).length = (n - i) * 3 := by rw [rvs_len, List.length_drop, hl]
  have hy : (yv y).length = 3 := rfl
  rw [putL_eq (yv y) _ _ (by rw [putL_len, hy]; omega), putL_eq (rvs (S.drop i)) cur _ (by rw [hd]; omega), hy]
  have ha : (cur.take ((i + 1) * 3)).length = (i + 1) * 3 := by rw [List.length_take]; omega
  have e1 : (cur.take ((i + 1) * 3) ++ (rvs (S.drop i) ++ cur.drop ((i + 1) * 3 + (rvs (S.drop i)).length))).take (i * 3) = rvs (S.take i) := by
    rw [List.take_append_of_le_length (by omega), List.take_take, show min (i * 3) ((i + 1) * 3) = i * 3 by omega, ← rvs_take, ← ht, List.take_take, show min (i * 3) (n * 3) = i * 3 by omega]
  have e2 : (cur.take ((i + 1) * 3) ++ (rvs (S.drop i) ++ cur.drop ((i + 1) * 3 + (rvs (S.drop i)).length))).drop (i * 3 + 3) = rvs (S.drop i) ++ cur.drop ((i + 1) * 3 + (rvs (S.drop i)).length) := by
    rw [show i * 3 + 3 = (cur.take ((i + 1) * 3)).length by omega, List.drop_left]
  rw [e1, e2, rvs_app, rvs_cons, ← List.append_assoc (yv y), ← List.append_assoc]
  have hlen : (rvs (S.take i) ++ (yv y ++ rvs (S.drop i))).length = (n + 1) * 3 := by
    simp only [List.length_append, hd, hy, rvs_len, List.length_take, hl]
    omega
  rw [← List.append_assoc] at hlen ⊢
  rw [List.take_append_of_le_length (by omega), List.take_of_length_le (by omega)]

set_option maxRecDepth 1000000 in
set_option maxHeartbeats 1600000 in
theorem insShift_any (B g n c i H : Nat) (S : List Rk) (y : Rk) (w : World) (h : OR w B (.slice (some ⟨g, 0, none⟩) n c) S) (hi : i < n) (hr : n + 1 ≤ c) (hH : Bs 33 w H (yv y)) (hne : H ≠ g) :
    Calls Try.prog 46 #[.slice (some ⟨g, 0, none⟩) n c, .int .i64 i, .slice (some ⟨H, 0, none⟩) 1 1] w fun e w' => e = .returned (.slice (some ⟨g, 0, none⟩) (n + 1) c) ∧ OR w' B (.slice (some ⟨g, 0, none⟩) (n + 1) c) (S.take i ++ y :: S.drop i) ∧ Below B w w' := by
  obtain ⟨cur, hb, hcl, ht, hl, hnc, hc, hB, hg⟩ := h.parts
  have hd : (rvs (S.drop i)).length = (n - i) * 3 := by rw [rvs_len, List.length_drop, hl]
  have hov : ∀ k lb cb, (callFunc 59 #[.slice (some ⟨H, 0, none⟩) 1 1, .slice (some ⟨g, k, none⟩) lb cb]).run Try.prog w = .ok (.value (.bool false)) w := fun k lb cb => overlapsR hb hH hne (by omega)
  have hb1 : Bs 33 (w.drew.setCells g ((i + 1) * 3) (rvs (S.drop i))) g (putL cur ((i + 1) * 3) (rvs (S.drop i))) := Bs.put _ _ (show Bs 33 w.drew g cur from hb)
  have hH1 : Bs 33 (w.drew.setCells g ((i + 1) * 3) (rvs (S.drop i))) H (yv y) := (put_blockR _ _ hne).trans hH
  have hcp1 : Hid (∀ ty, (Builtin.copy_ #[22, 22] ty #[.slice (some ⟨g, (i + 1) * 3, none⟩) (n + 1 - (i + 1)) (c - (i + 1)), .slice (some ⟨g, i * 3, none⟩) (n + 1 - i) (c - i)]).run Try.prog w.drew = .ok (goInt (n - i : Nat)) (w.drew.setCells g ((i + 1) * 3) (rvs (S.drop i)))) := fun ty =>
    run_copyR w.drew ty g _ _ _ ⟨g, i * 3, none⟩ _ _ _ (n - i) (by show _ = min _ _; omega) hd (fun j v hv => by
      have hj := (List.getElem?_eq_some_iff.1 hv).1
      rw [Addr.add_lit]
      show w.cell? _ = _
      rw [cell_take hb ht hl (by omega), ← hv, ← rvs_drop, List.getElem?_drop]) (fun j hj => by
      show (w.cell? _).isSome = true
      rw [hb.cell (by omega), List.getElem?_eq_getElem (by omega)]; rfl) (fun j _ => hb.frozen _) rvs_one
  have hcp2 : Hid (∀ ty, (Builtin.copy_ #[22, 22] ty #[.slice (some ⟨g, i * 3, none⟩) (n + 1 - i) (c - i), .slice (some ⟨H, 0, none⟩) 1 1]).run Try.prog (w.drew.setCells g ((i + 1) * 3) (rvs (S.drop i))) = .ok (goInt (1 : Nat)) ((w.drew.setCells g ((i + 1) * 3) (rvs (S.drop i))).setCells g (i * 3) (yv y))) := fun ty =>
    run_copyR _ ty g _ _ _ ⟨H, 0, none⟩ _ _ _ 1 (by show _ = min _ _; omega) rfl (fun j v hv => by
      have hj := (List.getElem?_eq_some_iff.1 hv).1
      rw [Addr.add_lit, Nat.zero_add, hH1.cell hj]; exact hv) (fun j hj => by
      have hj : j < 3 := hj
      rw [hb1.cell (by rw [putL_len]; omega), List.getElem?_eq_getElem (by rw [putL_len]; omega)]; rfl) (fun j _ => hb1.frozen _) (by rw [yv_rvs]; exact rvs_one)
  have E : Hid (OR ((w.drew.setCells g ((i + 1) * 3) (rvs (S.drop i))).setCells g (i * 3) (yv y)) B (.slice (some ⟨g, 0, none⟩) (n + 1) c) (S.take i ++ y :: S.drop i) ∧ Below B w ((w.drew.setCells g ((i + 1) * 3) (rvs (S.drop i))).setCells g (i * 3) (yv y))) :=
    ⟨OR.of_parts (Bs.put _ _ hb1) (by rw [putL_len, putL_len]; exact hcl) (ins_take y hcl ht hl hi hr) (by rw [List.length_append, List.length_cons, List.length_take, List.length_drop]; omega) hr hc hB, below_put hB _ _ (below_put hB _ _ (Below.refl _ w).drew)⟩
  have hz2 : ¬ ((i : Int) = (n : Int)) := by omega
  have hin : i ≤ n := by omega
  have hic : ¬ c = i := by omega
  have hic1 : ¬ c = i + 1 := by omega
  have hw1 : IntKind.i64.wrap ((i : Int) + 1) = (i : Int) + 1 := by rw [IntKind.wrap_i64]; omega
  have hw2 : IntKind.i64.wrap ((n : Int) + 1) = (n : Int) + 1 := by rw [IntKind.wrap_i64]; omega
  have ht1 : ((i : Int) + 1).toNat = i + 1 := by omega
  have ht2 : ((n : Int) + 1).toNat = n + 1 := by omega
  have hp1 : (0 : Int) ≤ (i : Int) + 1 := by omega
  have hp2 : (0 : Int) ≤ (n : Int) + 1 := by omega
  have hp3 : (n : Int) + 1 ≤ (c : Int) := by omega
  have hp4 : (i : Int) + 1 ≤ (n : Int) + 1 := by omega
  have hp5 : (i : Int) ≤ (n : Int) + 1 := by omega
  clear h hb hcl ht hl hd hb1 hH1 hH
  go_enter Try.func46, Try.ntmps46
  go_wp2_with (simp only [hov])
  go_region_law (refine step_copy_run rfl (.tmp 73) (.tmp 76) 22 22 rfl _ _ _ (by simp [Act.eval, Act.put]) (by simp [Act.eval, Act.put]) hcp1.out ?_)
  have hcp3 := hcp2.out
  go_wp2
  go_ret
  exact ⟨rfl, E.out⟩
end Go.Proofs.Ytimcbeblmicioaa
