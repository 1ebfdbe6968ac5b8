import Derived.Test.YtcfiigodefkncaaJn1
import Derived.Laws.AppendOwn
import Derived.Laws.IdiomCopy
import Derived.Test.YtcfiigodefkncaaI5
import Derived.Deep.OwnRows
import Derived.Laws.OwnMore
/- An append by the equation of its run. -/
namespace Go.Proofs.Ytcfiigodefkncaa
open Go.RowKit

theorem wp_append_run {P : Program} {w w' : World} {o : Oper} {a : Act} {K : Act → World → Prop} {Q : Exit → Act → World → Prop} (s x : Operand) (t tx : TypeId)
    (ho : o.op = .call { callee := .builtin .append, args := #[s, x], argTypes := #[t, tx] }) (v vx v' : Value) (hs : a.eval s = v) (hx : a.eval x = vx)
    (hr : ∀ ty, (Builtin.append_ #[t, tx] ty #[v, vx]).run P w = .ok v' w') (h : K (a.put o.dst v') w') : o.wp P a w K Q := by
  unfold Oper.wp execOp
  simp only [ho, resolve, invoke, builtin, Sem.run_bind, Sem.run_pure, Result.andThen_ok, List.map_toArray, List.map_cons, List.map_nil, hs, hx, hr]
  exact h
theorem wpList_append_run {P : Program} {w w' : World} {ops : Array Oper} {rest : List Oper} {o : Oper} {a : Act} {Q : Exit → Act → World → Prop} (hgd : o.guard = none) (s x : Operand) (t tx : TypeId)
    (ho : o.op = .call { callee := .builtin .append, args := #[s, x], argTypes := #[t, tx] }) (v vx v' : Value) (hs : a.eval s = v) (hx : a.eval x = vx)
    (hr : ∀ ty, (Builtin.append_ #[t, tx] ty #[v, vx]).run P w = .ok v' w') (h : wpList P ops Q rest (a.put o.dst v') w') : wpList P ops Q (o :: rest) a w :=
  wpList_plain hgd fun _ hK => wp_append_run s x t tx ho v vx v' hs hx hr (hK _ _ h)

/-- A list with vs laid over it from o on. -/
def putL (cur : List Value) (o : Nat) : List Value → List Value
  | [] => cur
  | v :: r => putL (cur.set o v) (o + 1) r
theorem putL_len (vs : List Value) : ∀ (cur : List Value) (o : Nat), (putL cur o vs).length = cur.length := by
  induction vs with
  | nil => intro cur o; rfl
  | cons v r ih => intro cur o; rw [putL, ih, List.length_set]
theorem putL_take (vs : List Value) : ∀ (cur : List Value) (o : Nat), o + vs.length ≤ cur.length → (putL cur o vs).take (o + vs.length) = cur.take o ++ vs := by
  induction vs with
  | nil => intro cur o _; simp [putL]
  | cons v r ih =>
    intro cur o h
    simp only [List.length_cons] at h
    rw [putL, List.length_cons, show o + (r.length + 1) = o + 1 + r.length by omega, ih _ _ (by rw [List.length_set]; omega)]
    have e : (cur.set o v).take (o + 1) = cur.take o ++ [v] := by
      rw [List.take_succ_eq_append_getElem (by rw [List.length_set]; omega), List.take_set_of_le (Nat.le_refl _)]
      simp
    rw [e]; simp
theorem Bs.put {T g : Nat} (vs : List Value) : ∀ {w : World} {cur : List Value} (o : Nat), Bs T w g cur → Bs T (w.setCells g o vs) g (putL cur o vs) := by
  induction vs with
  | nil => intro w cur o h; exact h
  | cons v r ih => intro w cur o h; exact ih (o + 1) (h.set o v)
theorem below_put {B g : Nat} (hg : B ≤ g) (vs : List Value) : ∀ {a w : World} (o : Nat), Below B a w → Below B a (w.setCells g o vs) := by
  induction vs with
  | nil => intro a w o h; exact h
  | cons v r ih => intro a w o h; exact ih (o + 1) (h.setCell hg v)
end Go.Proofs.Ytcfiigodefkncaa

/- Rows of digits of the call's own, made by append. -/
namespace Go.Proofs.Ytcfiigodefkncaa
open Go.RowKit Go.Deep

theorem info_u32 : (Try.prog.info? 63).map (fun i => (i.zero, i.size, i.bytes)) = some (some (.int .u32 0), 1, 4) := by kernel_rfl
/-- A row of the call's own (its block is not below B) that holds these digits. -/
def OD (w : World) (B : Nat) (v : Value) (xs : List Nat) : Prop := w.ownsRow B 63 1 v xs.length (H.cellsOf xs)
theorem OD.set {w : World} {B g cap n : Nat} {xs : List Nat} (h : OD w B (.slice (some ⟨g, 0, none⟩) n cap) xs) (i x : Nat) : OD (w.setCell ⟨g, i, none⟩ (.int .u32 (x : Int))) B (.slice (some ⟨g, 0, none⟩) n cap) (xs.set i x) := by
  unfold OD
  have e : H.cellsOf (xs.set i x) = (H.cellsOf xs).set i (.int .u32 (x : Int)) := by simp [H.cellsOf, List.map_set]
  rw [List.length_set, e]
  refine ⟨by rw [List.length_set]; exact h.1, .inr ?_⟩
  rcases h.2 with ⟨h1, _⟩ | ⟨g', cap', cur, e, hB, hg, h1, h2, h3, h4⟩
  · cases h1
  · cases e
    have hb : Bs 63 w g cur.toList := by simpa [Bs] using hg
    have hs : Bs 63 (w.setCell ⟨g, i, none⟩ (.int .u32 (x : Int))) g (cur.toList.set i (.int .u32 (x : Int))) := hb.set i (.int .u32 (x : Int))
    refine ⟨g, cap, (cur.toList.set i (.int .u32 (x : Int))).toArray, rfl, hB, hs, h1, h2, by simpa using h3, ?_⟩
    rw [List.take_set, h4]
/-- Its cells, one by one: what stands there, and that each may be set. -/
theorem OD.form {w : World} {B n : Nat} {v : Value} {xs : List Nat} (h : OD w B v xs) (hn : xs.length = n) (h0 : 0 < n) : ∃ g cap : Nat, v = .slice (some ⟨g, 0, none⟩) n cap ∧ B ≤ g ∧ g < w.heap.size ∧ n ≤ cap ∧ cap ≤ 9223372036854775807 ∧
    (∀ i, i < n → w.cell? ⟨g, i, none⟩ = some (.int .u32 (H.wd xs i : Int))) ∧ (∀ i, w.frozen? ⟨g, i, none⟩ = false) ∧ OD w B (.slice (some ⟨g, 0, none⟩) n cap) xs := by
  subst hn
  rcases h.2 with ⟨rfl, h1⟩ | ⟨g, cap, cur, rfl, hB, hg, hc, hcm, hcs, ht⟩
  · omega
  · refine ⟨g, cap, rfl, hB, lt_of_block hg, hc, by unfold maxLen at hcm; omega, fun i hi => ?_, fun i => World.ownsRow.frozenAt h i, h⟩
    rw [World.ownsRow.cellAt h i (by omega), H.cellsOf_at hi]
theorem OD.wd {w : World} {B : Nat} {v : Value} {xs : List Nat} (h : OD w B v xs) (hs : H.Sm xs) : ∃ (R : Option Addr) (cr : Nat), v = .slice R xs.length cr ∧ H.Wd w R xs ∧ xs.length ≤ cr ∧ cr ≤ 9223372036854775807 := by
  rcases h.2 with ⟨rfl, h0⟩ | ⟨g, cap, cur, rfl, _, hg, hc, hcm, _, _⟩
  · have : xs = [] := List.eq_nil_of_length_eq_zero (by omega)
    subst this
    exact ⟨none, 0, rfl, H.Wd.nil, by simp, by omega⟩
  · refine ⟨some ⟨g, 0, none⟩, cap, rfl, ⟨hs, fun h0 => ⟨g, 0, rfl, ⟨lt_of_block hg, _, _, hg⟩, fun j hj => ?_⟩⟩, by omega, by unfold maxLen at hcm; omega⟩
    rw [Nat.zero_add, World.ownsRow.cellAt h j (by omega), H.cellsOf_at hj]

/-- 'append([]uint32{}, l...)'. -/
theorem wpList_copyD {wr : World} {ops : Array Oper} {rest : List Oper} {o : Oper} {a : Act} {Q : Exit → Act → World → Prop} (hgd : o.guard = none) (s x : Operand)
    (ho : o.op = .call { callee := .builtin .append, args := #[s, x], argTypes := #[51, 51] }) (A : Option Addr) (n c : Nat) (l : List Nat) (hn : l.length = n) (hs : a.eval s = .slice (some ⟨wr.heap.size, 0, none⟩) 0 0)
    (hx : a.eval x = .slice A n c) (hl : H.Wd wr A l) (hb : l.length < 17592186044416)
    (h : ∀ v' w', OD w' wr.heap.size v' l → Below wr.heap.size wr w' → wpList Try.prog ops Q rest (a.put o.dst v') w') :
    wpList Try.prog ops Q (o :: rest) a (wr.alloc (.cells #[] 63)) := by
  subst hn
  obtain ⟨i0, hi0, hz0, hz1, hz2⟩ := info_parts info_u32
  rcases Nat.eq_zero_or_pos l.length with h0 | h0
  · obtain rfl : l = [] := List.eq_nil_of_length_eq_zero h0
    have hr : ∀ ty, (Builtin.append_ #[51, 51] ty #[.slice (some ⟨wr.heap.size, 0, none⟩) 0 0, .slice A ([] : List Nat).length c]).run Try.prog (wr.alloc (.cells #[] 63)) = .ok (.slice (some ⟨wr.heap.size, 0, none⟩) 0 0) (wr.alloc (.cells #[] 63)) := fun ty => by
      simp [Builtin.append_, run_underlying Try.underlying51, Go.sizeOf, typeInfo, hi0, Builtin.lenOf, Builtin.firstCells, loadCells, loadCellsFrom]
      cases A <;> simp [loadCells, loadCellsFrom, storeCells]
    refine wpList_append_run hgd s x _ _ ho _ _ _ hs hx hr (h _ _ ?_ ((Below.refl _ _).alloc (Nat.le_refl _) _))
    exact World.ownsRow_made wr #[] 0 (Nat.le_refl _) (Nat.zero_le _) rfl
  · obtain ⟨b, off, rfl, ⟨hlt, _⟩, hc⟩ := hl.2 h0
    refine wpList_append_own _ hgd s x 51 ho wr.heap.size 63 i0 (.int .u32 0) 1 4 Try.underlying51 hi0 hz0 hz1 hz2 rfl (by decide) _ 0 [] hs (World.ownsRow_made wr #[] 0 (Nat.le_refl _) (Nat.zero_le _) rfl) ⟨b, off, none⟩ l.length c (H.cellsOf l) hx ?c0 ?c1 ?c2 ?c3 ?c4 ?c5 ?_
    case c0 => simp [H.cellsOf]
    case c1 =>
      intro j u hj
      have hj2 : j < l.length := by have := (List.getElem?_eq_some_iff.1 hj).1; rwa [H.cellsOf_len] at this
      rw [Addr.add_lit]
      have e2 : (wr.alloc (.cells #[] 63)).cell? ⟨b, off + j, none⟩ = wr.cell? ⟨b, off + j, none⟩ := World.cell?_of_block (heap_alloc_old wr _ hlt)
      rw [e2, hc j hj2, ← hj, H.cellsOf_at hj2]
    case c2 => intro u hu; obtain ⟨y, _, rfl⟩ := List.mem_map.1 hu; rfl
    case c3 => unfold maxLen; omega
    case c4 => omega
    case c5 => simp
    intro v' w' hown hgrow hnil
    refine h v' w' ?_ ?_
    · unfold OD
      rw [Nat.zero_add, List.nil_append] at hown
      exact hown
    · exact ((Below.refl _ wr).alloc (Nat.le_refl _) _).grown hgrow (by simp) (by intro k hk; simp [Value.ownBlock] at hk; omega)
end Go.Proofs.Ytcfiigodefkncaa
