/- A set of integers kept as a map[int]bool of the call's own. -/
import Derived.Test.YtomdjaidechjpaaTv
import Derived.Maps.Own
import Derived.Maps.Views
namespace Go.Proofs.Ytomdjaidechjpaa
open Go.RowKit Go.Maps

theorem lawI : Keyed Try.prog 3 := int_keyed Try.underlying3
/-- Block b is a map that says S x at each x. -/
def SetM (w : World) (b n : Nat) (S : Int → Bool) : Prop :=
  ∃ D : DataW Unit, w.ownsMap Try.prog 3 (plainElem Try.prog 4) b n D ∧ ∀ x : Int, (Lit.int .i64 x).wf = true → D.atKey (.int .i64 x) (.lit (.bool false)) = .lit (.bool (S x))
theorem SetM.made (w : World) : SetM (w.alloc (.map #[] 0)) w.heap.size 0 (fun _ => false) :=
  ⟨_, World.ownsMap_made w Try.prog 3 _, fun x _ => rfl⟩
theorem SetM.kept {w w' : World} {b n : Nat} {S : Int → Bool} {row : Option Nat} (h : SetM w b n S) (hg : w.grownBy w' row) (hne : some b ≠ row) : SetM w' b n S := by
  obtain ⟨D, hD, hS⟩ := h
  exact ⟨D, hD.kept hg hne, hS⟩
theorem SetM.alloc {w : World} {b n : Nat} {S : Int → Bool} (h : SetM w b n S) (o : Obj) : SetM (w.alloc o) b n S := by
  obtain ⟨D, hD, hS⟩ := h
  exact ⟨D, hD.alloc o, hS⟩
theorem SetM.lt {w : World} {b n : Nat} {S : Int → Bool} (h : SetM w b n S) : b < w.heap.size := by
  obtain ⟨D, hD, _⟩ := h
  exact hD.lt
theorem zeroB (w : World) : (zeroValue 4).run Try.prog w = .ok (.bool false) w := by
  obtain ⟨i0, hi0, hz0, _, _⟩ := info_parts info_bool
  simp [zeroValue, typeInfo, hi0, hz0]
theorem plainElem_bool_inv {v : Value} {z : DataW Unit × List MemPlace} (h : plainElem Try.prog 4 v = some z) : ∃ b, v = .bool b ∧ z = (.lit (.bool b), []) := by
  unfold plainElem at h
  rw [Try.underlying4] at h
  cases v <;> simp at h
  exact ⟨_, rfl, h.symm⟩
theorem SetM.look {w : World} {b n : Nat} {S : Int → Bool} (h : SetM w b n S) {x : Int} (hx : (Lit.int .i64 x).wf = true) : (Instr.lookup 33 (.map (some b)) (.int .i64 x) false).run Try.prog w = .ok (.bool (S x)) w := by
  obtain ⟨D, hD, hS⟩ := h
  obtain ⟨v, ps, hrun, hv⟩ := hD.lookup lawI Try.underlying33 (zeroB w) (plainElem_bool Try.underlying4 false) (keyOf_int_mk Try.underlying3 hx)
  obtain ⟨b', rfl, e⟩ := plainElem_bool_inv hv
  rw [hS x hx] at e
  simp only [Prod.mk.injEq, DataW.lit.injEq, Lit.bool.injEq] at e
  rw [hrun, e.1]
/-- 'm[x] = true'. -/
theorem wpList_setM {w : World} {ops : Array Oper} {rest : List Oper} {o : Oper} {a : Act} {Q : Exit → Act → World → Prop} (hg : o.guard = none) (m x v : Operand) (hop : o.op = Op.mapUpdate 33 m x v)
    (b n : Nat) (S : Int → Bool) (y : Int) (hm : a.eval m = .map (some b)) (hx : a.eval x = .int .i64 y) (hv : a.eval v = .bool true) (hy : (Lit.int .i64 y).wf = true) (hown : SetM w b n S) (hn : n < 17592186044416)
    (hK : ∀ w', SetM w' b (n + 1) (fun z => z == y || S z) → w.grownBy w' (some b) → wpList Try.prog ops Q rest (a.put o.dst undef) w') : wpList Try.prog ops Q (o :: rest) a w := by
  obtain ⟨D, hD, hS⟩ := hown
  refine wpList_mapUpdate_own w hg m x v 33 hop 3 4 lawI Try.underlying33 _ b n D hm hD (by unfold maxLen; omega) (.int .i64 y) (.bool true) (.int .i64 y) hx hv (keyOf_int_mk Try.underlying3 hy) _ [] (plainElem_bool Try.underlying4 true) ?_
  intro w' hw' hgr
  refine hK w' ⟨_, hw', fun z hz => ?_⟩ hgr
  by_cases e : z = y
  · subst e
    obtain ⟨es, clock, _, _, _, rfl⟩ := hD
    rw [atKey_put_same ⟨_, rfl⟩ (lawI.key (keyOf_int_mk Try.underlying3 hz))]
    simp
  · rw [atKey_put_other (fun h => e (by cases h; rfl)), hS z hz]
    simp [e]
end Go.Proofs.Ytomdjaidechjpaa
