/- Weights kept as a map[int]int of the call's own. -/
import Derived.Test.YtjhcbjpbmbjgoaaMc
import Derived.Test.YtjhcbjpbmbjgoaaMj
namespace Go.Proofs.Ytjhcbjpbmbjgoaa
open Go.RowKit Go.Maps

theorem wsum_none {U : List (Nat × Nat)} {s : Nat} (h : s ∉ U.map Prod.fst) : wsum U s = 0 := by
  induction U with
  | nil => rfl
  | cons p r ih =>
    rw [List.map_cons, List.mem_cons, not_or] at h
    rw [wsum, if_neg (fun e => h.1 e.symm)]
    exact ih h.2
theorem wsum_le {U : List (Nat × Nat)} (h : ∀ p ∈ U, p.2 ≤ 720720) (s : Nat) : wsum U s ≤ 720720 * U.length := by
  induction U with
  | nil => simp [wsum]
  | cons p r ih =>
    have h1 := ih (fun q hq => h q (List.mem_cons_of_mem _ hq))
    have h2 := h p List.mem_cons_self
    rw [wsum, List.length_cons, Nat.mul_add]
    split <;> omega
/-- The map reads as the weights of U. -/
structure WD (D : DataW Unit) (U : List (Nat × Nat)) : Prop where
  look : ∀ x : Nat, D.atKey (.int .i64 x) (.lit (.int .i64 0)) = .lit (.int .i64 (wsum U x : Nat))
  keys : ∀ kl, has D kl = true → ∃ x : Nat, x ∈ U.map Prod.fst ∧ kl = .int .i64 (x : Int)
  mem : ∀ x : Nat, x ∈ U.map Prod.fst → has D (.int .i64 x) = true
  sz : size D = (dd (U.map Prod.fst)).length
theorem WD.made : WD (.map []) [] := ⟨fun _ => rfl, fun _ h => by simp [has_eq] at h, fun _ h => by simp at h, rfl⟩
theorem WD.put {D : DataW Unit} {U : List (Nat × Nat)} (h : WD D U) (ht : Tidy D) {y k : Nat} (hk : WideAt.IsKeyLit (.int .i64 (y : Int))) : WD (D.put (.int .i64 (y : Int)) (.lit (.int .i64 ((wsum U y : Nat) + (k : Nat) : Int)))) ((y, k) :: U) := by
  have hne : ∀ x : Nat, x ≠ y → (Lit.int .i64 (x : Int)) ≠ .int .i64 (y : Int) := fun x hx e => hx (by injection e with _ e; omega)
  have hin : has D (.int .i64 (y : Int)) = true ↔ y ∈ U.map Prod.fst := by
    constructor
    · intro hh
      obtain ⟨x, hx, e⟩ := h.keys _ hh
      injection e with _ e
      have : x = y := by omega
      subst this; exact hx
    · exact h.mem y
  refine ⟨fun x => ?_, fun kl hh => ?_, fun x hx => ?_, ?_⟩
  · by_cases e : x = y
    · subst e
      rw [atKey_put_same ht.isMap hk, wsum, if_pos rfl]
      congr 2
      push_cast
      omega
    · rw [atKey_put_other (hne x e), h.look x, wsum, if_neg (fun e2 => e e2.symm)]
  · by_cases e : kl = .int .i64 (y : Int)
    · exact ⟨y, List.mem_cons_self, e⟩
    · rw [has_put_other e] at hh
      obtain ⟨x, hx, e⟩ := h.keys _ hh
      exact ⟨x, List.mem_cons_of_mem _ hx, e⟩
  · by_cases e : x = y
    · subst e
      exact has_put_same ht.isMap hk _
    · rw [has_put_other (hne x e)]
      rw [List.map_cons] at hx
      rcases List.mem_cons.1 hx with rfl | hx
      · exact absurd rfl e
      · exact h.mem x hx
  · rw [size_put ht, h.sz, List.map_cons, dd]
    by_cases e : y ∈ U.map Prod.fst
    · rw [if_pos (hin.2 e), if_pos (List.contains_iff_mem.2 ((mem_dd _).2 e))]
    · rw [if_neg (fun hh => e (hin.1 hh)), if_neg (fun hh => e ((mem_dd _).1 (List.contains_iff_mem.1 hh)))]
      rfl
/-- Block b is a map of the weights of U. -/
def WM (w : World) (b : Nat) (U : List (Nat × Nat)) : Prop := ∃ D : DataW Unit, w.ownsMap Try.prog 3 (plainElem Try.prog 3) b U.length D ∧ WD D U
theorem WM.made (w : World) : WM (w.alloc (.map #[] 0)) w.heap.size [] := ⟨_, World.ownsMap_made w Try.prog 3 _, WD.made⟩
theorem WM.of_block {w w' : World} {b : Nat} {U : List (Nat × Nat)} (h : WM w b U) (hb : w'.heap[b]? = w.heap[b]?) : WM w' b U := by
  obtain ⟨D, ⟨es, clock, h1, h2⟩, hc⟩ := h
  exact ⟨D, ⟨es, clock, hb.trans h1, h2⟩, hc⟩
theorem WM.lt {w : World} {b : Nat} {U : List (Nat × Nat)} (h : WM w b U) : b < w.heap.size := by
  obtain ⟨D, hD, _⟩ := h
  exact hD.lt
theorem WM.later {w w' : World} {b : Nat} {U : List (Nat × Nat)} (h : WM w b U) (hb : Below w.heap.size w w') : WM w' b U := h.of_block (hb.block b h.lt)
theorem WM.ne {w : World} {b g T : Nat} {U : List (Nat × Nat)} {vs : List Value} (h : WM w b U) (hg : Bs T w g vs) : g ≠ b := by
  rintro rfl
  obtain ⟨D, ⟨es, clock, h1, _⟩, _⟩ := h
  unfold Bs at hg
  rw [hg] at h1
  simp at h1
theorem w_wf {y : Nat} (h : y < 1000000000000) : (Lit.int .i64 (y : Int)).wf = true := by
  simp [Lit.wf, IntKind.min, IntKind.max, IntKind.signed, IntKind.bits]; omega
theorem plainElem_int_inv {v : Value} {z : DataW Unit × List MemPlace} (h : plainElem Try.prog 3 v = some z) : ∃ n : Int, v = .int .i64 n ∧ z = (.lit (.int .i64 n), []) := by
  unfold plainElem at h
  rw [Try.underlying3] at h
  cases v <;> simp at h
  obtain ⟨⟨rfl, _⟩, rfl⟩ := h
  exact ⟨_, rfl, rfl⟩
/-- 'm[x]', as the run of the operation. -/
theorem WM.look {w : World} {b : Nat} {U : List (Nat × Nat)} (h : WM w b U) {x : Nat} (hx : x < 1000000) : (Instr.lookup 23 (.map (some b)) (.int .i64 (x : Int)) false).run Try.prog w = .ok (.int .i64 (wsum U x : Nat)) w := by
  obtain ⟨D, hD, hC⟩ := h
  obtain ⟨v, ps, hrun, hv⟩ := hD.lookup lawC Try.underlying23 (zeroC w) (plainElem_int Try.underlying3 (w_wf (y := 0) (by omega))) (keyOf_int_mk Try.underlying3 (w_wf (y := x) (by omega)))
  obtain ⟨n, rfl, e⟩ := plainElem_int_inv hv
  have e2 := hC.look x
  rw [Prod.mk.injEq] at e
  rw [e2, DataW.lit.injEq, Lit.int.injEq] at e
  rw [hrun, e.1.2]
/-- 'm[x] = .. + k'. -/
theorem wpList_wPut {w : World} {ops : Array Oper} {rest : List Oper} {o : Oper} {a : Act} {Q : Exit → Act → World → Prop} (hg : o.guard = none) (m x v : Operand) (hop : o.op = Op.mapUpdate 23 m x v)
    (b : Nat) (U : List (Nat × Nat)) (y k : Nat) (hm : a.eval m = .map (some b)) (hx : a.eval x = .int .i64 y) (hv : a.eval v = .int .i64 ((wsum U y : Nat) + (k : Nat) : Int)) (hy : y < 1000000) (hown : WM w b U) (hn : U.length < 1000000) (hb : wsum U y + k < 1000000000000)
    (hK : ∀ w', WM w' b ((y, k) :: U) → w.grownBy w' (some b) → wpList Try.prog ops Q rest (a.put o.dst undef) w') : wpList Try.prog ops Q (o :: rest) a w := by
  obtain ⟨D, hD, hC⟩ := hown
  have hw := w_wf hb
  rw [Int.natCast_add] at hw
  refine wpList_mapUpdate_own w hg m x v 23 hop 3 3 lawC Try.underlying23 _ b _ D hm hD (by unfold maxLen; omega) _ _ _ hx hv (keyOf_int_mk Try.underlying3 (w_wf (y := y) (by omega))) _ [] (plainElem_int Try.underlying3 hw) ?_
  intro w' hw' hgr
  refine hK w' ⟨_, hw', ?_⟩ hgr
  exact hC.put (hD.tidy lawC) (lawC.key (keyOf_int_mk Try.underlying3 (w_wf (y := y) (by omega))))
end Go.Proofs.Ytjhcbjpbmbjgoaa
