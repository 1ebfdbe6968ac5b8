/- Counts kept as a map[int]int of the call's own; worlds that keep all but some blocks. -/
import Derived.Test.YtjhcbjpbmbjgoaaOi
import Derived.Maps.OwnOps
import Derived.Maps.OwnSet
import Derived.Maps.RangeWalk
namespace Go.Proofs.Ytjhcbjpbmbjgoaa
open Go.RowKit Go.Maps

theorem lawC : Keyed Try.prog 3 := int_keyed Try.underlying3
theorem zeroC (w : World) : (zeroValue 3).run Try.prog w = .ok (.int .i64 0) w := by
  obtain ⟨i0, hi0, hz0, _, _⟩ := info_parts info_int
  simp [zeroValue, typeInfo, hi0, hz0]
/-- Each one once. -/
def dd : List Nat → List Nat
  | [] => []
  | x :: r => if (dd r).contains x then dd r else x :: dd r
theorem mem_dd {x : Nat} : ∀ l : List Nat, x ∈ dd l ↔ x ∈ l
  | [] => Iff.rfl
  | y :: r => by
    have ih := mem_dd (x := x) r
    have ih2 := mem_dd (x := y) r
    rw [dd]
    split
    · rename_i h
      rw [List.contains_iff_mem] at h
      constructor
      · intro hx; exact List.mem_cons_of_mem _ (ih.1 hx)
      · intro hx
        rcases List.mem_cons.1 hx with rfl | hx
        · exact h
        · exact ih.2 hx
    · rw [List.mem_cons, List.mem_cons, ih]
/-- The map reads as the counts of S. -/
structure CntD (D : DataW Unit) (S : List Nat) : Prop where
  look : ∀ x : Nat, D.atKey (.int .i64 x) (.lit (.int .i64 0)) = .lit (.int .i64 (S.count x : Nat))
  keys : ∀ kl, has D kl = true → ∃ x : Nat, x ∈ S ∧ kl = .int .i64 (x : Int)
  mem : ∀ x : Nat, x ∈ S → has D (.int .i64 x) = true
  sz : size D = (dd S).length
theorem CntD.made : CntD (.map []) [] := ⟨fun _ => rfl, fun _ h => by simp [has_eq] at h, fun _ h => by simp at h, rfl⟩
theorem CntD.put {D : DataW Unit} {S : List Nat} (h : CntD D S) (ht : Tidy D) {y : Nat} (hk : WideAt.IsKeyLit (.int .i64 (y : Int))) : CntD (D.put (.int .i64 (y : Int)) (.lit (.int .i64 ((S.count y : Nat) + 1 : Int)))) (y :: S) := by
  have hne : ∀ x : Nat, x ≠ y → (Lit.int .i64 (x : Int)) ≠ .int .i64 (y : Int) := fun x hx e => hx (by injection e with _ e; omega)
  have hin : has D (.int .i64 (y : Int)) = true ↔ y ∈ S := by
    constructor
    · intro hh
      obtain ⟨x, hx, e⟩ := h.keys _ hh
      injection e with _ e
      have : x = y := by omega
      subst this; exact hx
    · exact h.mem y
  refine ⟨fun x => ?_, fun kl hh => ?_, fun x hx => ?_, ?_⟩
  · by_cases e : x = y
    · subst e
      rw [atKey_put_same ht.isMap hk, List.count_cons_self]
      simp
    · rw [atKey_put_other (hne x e), h.look x, List.count_cons_of_ne (fun e2 => e e2.symm)]
  · by_cases e : kl = .int .i64 (y : Int)
    · exact ⟨y, List.mem_cons_self, e⟩
    · rw [has_put_other e] at hh
      obtain ⟨x, hx, e⟩ := h.keys _ hh
      exact ⟨x, List.mem_cons_of_mem _ hx, e⟩
  · by_cases e : x = y
    · subst e
      exact has_put_same ht.isMap hk _
    · rw [has_put_other (hne x e)]
      rcases List.mem_cons.1 hx with rfl | hx
      · exact absurd rfl e
      · exact h.mem x hx
  · rw [size_put ht, h.sz, dd]
    by_cases e : y ∈ S
    · rw [if_pos (hin.2 e), if_pos (List.contains_iff_mem.2 ((mem_dd S).2 e))]
    · rw [if_neg (fun hh => e (hin.1 hh)), if_neg (fun hh => e ((mem_dd S).1 (List.contains_iff_mem.1 hh)))]
      rfl
/-- Block b is a map of the counts of S. -/
def CntM (w : World) (b : Nat) (S : List Nat) : Prop := ∃ D : DataW Unit, w.ownsMap Try.prog 3 (plainElem Try.prog 3) b S.length D ∧ CntD D S
theorem CntM.made (w : World) : CntM (w.alloc (.map #[] 0)) w.heap.size [] := ⟨_, World.ownsMap_made w Try.prog 3 _, CntD.made⟩
theorem CntM.of_block {w w' : World} {b : Nat} {S : List Nat} (h : CntM w b S) (hb : w'.heap[b]? = w.heap[b]?) : CntM w' b S := by
  obtain ⟨D, ⟨es, clock, h1, h2⟩, hc⟩ := h
  exact ⟨D, ⟨es, clock, hb.trans h1, h2⟩, hc⟩
theorem CntM.lt {w : World} {b : Nat} {S : List Nat} (h : CntM w b S) : b < w.heap.size := by
  obtain ⟨D, hD, _⟩ := h
  exact hD.lt
theorem CntM.later {w w' : World} {b : Nat} {S : List Nat} (h : CntM w b S) (hb : Below w.heap.size w w') : CntM w' b S := h.of_block (hb.block b h.lt)
theorem CntM.setCell {w : World} {b : Nat} {S : List Nat} (h : CntM w b S) {a : Addr} (ha : b ≠ a.block) (u : Value) : CntM (w.setCell a u) b S := h.of_block (Below.heap_setCell _ _ _ _ ha)
theorem CntM.ne {w : World} {b g T : Nat} {S : List Nat} {vs : List Value} (h : CntM w b S) (hg : Bs T w g vs) : g ≠ b := by
  rintro rfl
  obtain ⟨D, ⟨es, clock, h1, _⟩, _⟩ := h
  unfold Bs at hg
  rw [hg] at h1
  simp at h1
theorem nat_wf {y : Nat} (h : y < 1000000) : (Lit.int .i64 (y : Int)).wf = true := by
  simp [Lit.wf, IntKind.min, IntKind.max, IntKind.signed, IntKind.bits]; omega
/-- 'm[x]'. -/
theorem wpList_cntLook {w : World} {ops : Array Oper} {rest : List Oper} {o : Oper} {a : Act} {Q : Exit → Act → World → Prop} (hg : o.guard = none) (m x : Operand) (hop : o.op = Op.lookup 23 m x false)
    (b : Nat) (S : List Nat) (y : Nat) (hm : a.eval m = .map (some b)) (hx : a.eval x = .int .i64 y) (hy : y < 1000000) (hown : CntM w b S) (c0 : Nat) (hc0 : S.count y = c0)
    (hK : wpList Try.prog ops Q rest (a.put o.dst (.int .i64 c0)) w) : wpList Try.prog ops Q (o :: rest) a w := by
  obtain ⟨D, hD, hC⟩ := hown
  refine wpList_lookup_own_int w hg m x 23 hop 3 3 .i64 lawC Try.underlying23 Try.underlying3 (zeroC w) b _ D hm hD _ _ hx (keyOf_int_mk Try.underlying3 (nat_wf hy)) ?_
  intro c hat _
  rw [hC.look y] at hat
  injection hat with hat
  injection hat with _ hat
  rw [← hat, hc0]
  exact hK
/-- 'm[x] = .. + 1'. -/
theorem wpList_cntPut {w : World} {ops : Array Oper} {rest : List Oper} {o : Oper} {a : Act} {Q : Exit → Act → World → Prop} (hg : o.guard = none) (m x v : Operand) (hop : o.op = Op.mapUpdate 23 m x v)
    (b : Nat) (S : List Nat) (y : Nat) (hm : a.eval m = .map (some b)) (hx : a.eval x = .int .i64 y) (c0 : Nat) (hc0 : S.count y = c0) (hv : a.eval v = .int .i64 ((c0 : Int) + 1)) (hy : y < 1000000) (hown : CntM w b S) (hn : S.length < 100000)
    (hK : ∀ w', CntM w' b (y :: S) → w.grownBy w' (some b) → wpList Try.prog ops Q rest (a.put o.dst undef) w') : wpList Try.prog ops Q (o :: rest) a w := by
  obtain ⟨D, hD, hC⟩ := hown
  have hc := List.count_le_length (a := y) (l := S)
  subst hc0
  refine wpList_mapUpdate_own w hg m x v 23 hop 3 3 lawC Try.underlying23 _ b _ D hm hD (by unfold maxLen; omega) _ _ _ hx hv (keyOf_int_mk Try.underlying3 (nat_wf hy)) _ [] (plainElem_int Try.underlying3 (nat_wf (y := S.count y + 1) (by omega))) ?_
  intro w' hw' hgr
  refine hK w' ⟨_, hw', ?_⟩ hgr
  exact hC.put (hD.tidy lawC) (lawC.key (keyOf_int_mk Try.underlying3 (nat_wf hy)))

/-- All stays but the blocks of P. -/
structure Kp (P : Nat → Prop) (a w : World) : Prop where
  os : w.os = a.os
  tape : w.tape = a.tape
  output : w.output = a.output
  size : a.heap.size ≤ w.heap.size
  block : ∀ k, k < a.heap.size → ¬ P k → w.heap[k]? = a.heap[k]?
theorem Kp.refl (P : Nat → Prop) (w : World) : Kp P w w := ⟨rfl, rfl, rfl, Nat.le_refl _, fun _ _ _ => rfl⟩
theorem Kp.trans {P : Nat → Prop} {a b c : World} (h : Kp P a b) (k : Kp P b c) : Kp P a c :=
  ⟨k.os.trans h.os, k.tape.trans h.tape, k.output.trans h.output, Nat.le_trans h.size k.size, fun i hi hn => (k.block i (Nat.lt_of_lt_of_le hi h.size) hn).trans (h.block i hi hn)⟩
theorem Kp.of_below {P : Nat → Prop} {a w : World} (h : Below a.heap.size a w) : Kp P a w := ⟨h.os, h.tape, h.output, h.size, fun k hk _ => h.block k hk⟩
theorem Kp.of_grown {P : Nat → Prop} {a w : World} {b : Nat} (h : a.grownBy w (some b)) (hb : P b) : Kp P a w := ⟨h.os, h.tape, h.output, h.size, fun k hk hn => h.block k hk (fun e => hn (by injection e with e; rw [e]; exact hb))⟩
theorem Kp.setCell {P : Nat → Prop} {a w : World} (h : Kp P a w) {p : Addr} (hp : P p.block ∨ a.heap.size ≤ p.block) (u : Value) : Kp P a (w.setCell p u) := by
  have hb := (Below.refl p.block w).setCell (p := p) (Nat.le_refl _) u
  refine ⟨hb.os.trans h.os, hb.tape.trans h.tape, hb.output.trans h.output, Nat.le_trans h.size hb.size, fun k hk hn => ?_⟩
  rw [Below.heap_setCell _ _ _ _ (by rcases hp with hp | hp; · exact fun e => hn (e ▸ hp)
                                     · omega)]
  exact h.block k hk hn
theorem Kp.weaken {P Q : Nat → Prop} {a w : World} (h : Kp P a w) (hPQ : ∀ k, k < a.heap.size → P k → Q k) : Kp Q a w := ⟨h.os, h.tape, h.output, h.size, fun k hk hn => h.block k hk (fun hp => hn (hPQ k hk hp))⟩
theorem Kp.below {P : Nat → Prop} {w0 a w : World} (h0 : Below w0.heap.size w0 a) (h : Kp P a w) (hP : ∀ k, P k → w0.heap.size ≤ k) : Below w0.heap.size w0 w :=
  ⟨h.os.trans h0.os, h.tape.trans h0.tape, h.output.trans h0.output, Nat.le_trans h0.size h.size, fun k hk => (h.block k (Nat.lt_of_lt_of_le hk h0.size) (fun hp => by have := hP k hp; omega)).trans (h0.block k hk)⟩
theorem OI.kp {P : Nat → Prop} {w w' : World} {B : Nat} {v : Value} {xs : List Int} (h : OI w B v xs) (hk : Kp P w w') (hP : ∀ k, P k → k < B) : OI w' B v xs := by
  refine ⟨h.1, ?_⟩
  rcases h.2 with h | ⟨g, cap, cur, hv, hB, hg, h1, h2, h3, h4⟩
  · exact .inl h
  · exact .inr ⟨g, cap, cur, hv, hB, (hk.block g (lt_of_block hg) (fun hp => by have := hP g hp; omega)).trans hg, h1, h2, h3, h4⟩
theorem Bs.kp {P : Nat → Prop} {T g : Nat} {w w' : World} {vs : List Value} (h : Bs T w g vs) (hk : Kp P w w') (hg : ¬ P g) : Bs T w' g vs := (hk.block g (Bs.lt h) hg).trans h
end Go.Proofs.Ytjhcbjpbmbjgoaa
