/- An append by the equation of its run. -/
import Derived.Test.YtclfimpcacoefaaTe
import Derived.Laws.AppendOwn
import Derived.Laws.IdiomCopy
namespace Go.Proofs.Ytclfimpcacoefaa
open Go.RowKit

theorem wp_append_run {P : Program} {w w' : World} {o : Oper} {a : Act} {K : Act → World → Prop} {Q : Exit → Act → World → Prop} (s x : Operand) (t tx : TypeId)
    (ho : o.op = .call { callee := .builtin .append, args := #[s, x], argTypes := #[t, tx] }) (v vx v' : Value) (hs : a.eval s = v) (hx : a.eval x = vx)
    (hr : ∀ ty, (Builtin.append_ #[t, tx] ty #[v, vx]).run P w = .ok v' w') (h : K (a.put o.dst v') w') : o.wp P a w K Q := by
  unfold Oper.wp execOp
  simp only [ho, resolve, invoke, builtin, Sem.run_bind, Sem.run_pure, Result.andThen_ok, List.map_toArray, List.map_cons, List.map_nil, hs, hx, hr]
  exact h
theorem wpList_append_run {P : Program} {w w' : World} {ops : Array Oper} {rest : List Oper} {o : Oper} {a : Act} {Q : Exit → Act → World → Prop} (hgd : o.guard = none) (s x : Operand) (t tx : TypeId)
    (ho : o.op = .call { callee := .builtin .append, args := #[s, x], argTypes := #[t, tx] }) (v vx v' : Value) (hs : a.eval s = v) (hx : a.eval x = vx)
    (hr : ∀ ty, (Builtin.append_ #[t, tx] ty #[v, vx]).run P w = .ok v' w') (h : wpList P ops Q rest (a.put o.dst v') w') : wpList P ops Q (o :: rest) a w :=
  wpList_plain hgd fun _ hK => wp_append_run s x t tx ho v vx v' hs hx hr (hK _ _ h)

/-- A list with vs laid over it from o on. -/
def putL (cur : List Value) (o : Nat) : List Value → List Value
  | [] => cur
  | v :: r => putL (cur.set o v) (o + 1) r
theorem putL_len (vs : List Value) : ∀ (cur : List Value) (o : Nat), (putL cur o vs).length = cur.length := by
  induction vs with
  | nil => intro cur o; rfl
  | cons v r ih => intro cur o; rw [putL, ih, List.length_set]
theorem putL_take (vs : List Value) : ∀ (cur : List Value) (o : Nat), o + vs.length ≤ cur.length → (putL cur o vs).take (o + vs.length) = cur.take o ++ vs := by
  induction vs with
  | nil => intro cur o _; simp [putL]
  | cons v r ih =>
    intro cur o h
    simp only [List.length_cons] at h
    rw [putL, List.length_cons, show o + (r.length + 1) = o + 1 + r.length by omega, ih _ _ (by rw [List.length_set]; omega)]
    have e : (cur.set o v).take (o + 1) = cur.take o ++ [v] := by
      rw [List.take_succ_eq_append_getElem (by rw [List.length_set]; omega), List.take_set_of_le (Nat.le_refl _)]
      simp
    rw [e]; simp
theorem Bs.put {T g : Nat} (vs : List Value) : ∀ {w : World} {cur : List Value} (o : Nat), Bs T w g cur → Bs T (w.setCells g o vs) g (putL cur o vs) := by
  induction vs with
  | nil => intro w cur o h; exact h
  | cons v r ih => intro w cur o h; exact ih (o + 1) (h.set o v)
theorem below_put {B g : Nat} (hg : B ≤ g) (vs : List Value) : ∀ {a w : World} (o : Nat), Below B a w → Below B a (w.setCells g o vs) := by
  induction vs with
  | nil => intro a w o h; exact h
  | cons v r ih => intro a w o h; exact ih (o + 1) (h.setCell hg v)
end Go.Proofs.Ytclfimpcacoefaa
