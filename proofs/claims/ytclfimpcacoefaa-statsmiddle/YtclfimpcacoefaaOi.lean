/- Slices of integers of the call's own, made by append. -/
import Derived.Test.YtclfimpcacoefaaIv
import Derived.Laws.AppendOwn
import Derived.Laws.OwnMore
import Derived.Deep.AppendLies
namespace Go.Proofs.Ytclfimpcacoefaa
open Go.RowKit Go.Deep

/-- An integer slice of the call's own (its block is not below B) that reads as xs. -/
def OI (w : World) (B : Nat) (v : Value) (xs : List Int) : Prop := w.ownsRow B 3 1 v xs.length (ivs xs)
theorem OI.nil (w : World) (B : Nat) : OI w B (.slice none 0 0) [] := World.ownsRow_nil _ _ _ _
theorem OI.alloc {w : World} {B : Nat} {v : Value} {xs : List Int} (h : OI w B v xs) (o : Obj) : OI (w.alloc o) B v xs := World.ownsRow.alloc h o
theorem OI.drew {w : World} {B : Nat} {v : Value} {xs : List Int} (h : OI w B v xs) : OI w.drew B v xs := h
theorem OI.kept {w w' : World} {row : Option Nat} {B : Nat} {v : Value} {xs : List Int} (h : OI w B v xs) (hg : w.grownBy w' row) (hne : v.ownBlock = none ∨ v.ownBlock ≠ row) : OI w' B v xs := World.ownsRow.kept h hg hne
theorem OI.later {w w' : World} {B : Nat} {v : Value} {xs : List Int} (h : OI w B v xs) (hb : Below w.heap.size w w') : OI w' B v xs := by
  refine ⟨h.1, ?_⟩
  rcases h.2 with h | ⟨g, cap, cur, hv, hB, hg, h1, h2, h3, h4⟩
  · exact .inl h
  · exact .inr ⟨g, cap, cur, hv, hB, (hb.block g (lt_of_block hg)).trans hg, h1, h2, h3, h4⟩
/-- As a slice that reads as xs. -/
theorem OI.ip {w : World} {B : Nat} {v : Value} {xs : List Int} (h : OI w B v xs) : ∃ (R : Option Addr) (cr : Nat), v = .slice R xs.length cr ∧ IP w R cr xs := by
  rcases h.2 with ⟨rfl, h0⟩ | ⟨g, cap, cur, rfl, _, hg, hc, hcm, _, _⟩
  · have : xs = [] := List.eq_nil_of_length_eq_zero (by omega)
    subst this
    exact ⟨none, 0, rfl, ⟨Il.nil, by simp, by omega, fun _ => rfl⟩⟩
  · refine ⟨some ⟨g, 0, none⟩, cap, rfl, ⟨?_, by omega, by unfold maxLen at hcm; omega, fun h => by cases h⟩⟩
    intro h0
    refine ⟨g, 0, rfl, lt_of_block hg, fun j hj => ?_⟩
    rw [Nat.zero_add]
    exact World.ownsRow.cellAt h j (by rw [ivs_len] at hj; omega)
/-- .. whose cells are its own. -/
theorem OI.own {w : World} {B : Nat} {v : Value} {xs : List Int} (h : OI w B v xs) (h0 : 0 < xs.length) : ∃ (g cap : Nat) (cur : List Value), v = .slice (some ⟨g, 0, none⟩) xs.length cap ∧ B ≤ g ∧ Bs 3 w g cur ∧ cur.length = cap ∧ cap ≤ 9223372036854775807 ∧ cur.take xs.length = ivs xs := by
  rcases h.2 with ⟨rfl, h1⟩ | ⟨g, cap, cur, rfl, hB, hg, hc, hcm, hcs, ht⟩
  · omega
  · exact ⟨g, cap, cur.toList, rfl, hB, by simpa [Bs] using hg, by simpa using hcs, by unfold maxLen at hcm; omega, by simpa using ht⟩

theorem OI.set {w : World} {B g cap n : Nat} {xs : List Int} (h : OI w B (.slice (some ⟨g, 0, none⟩) n cap) xs) (i : Nat) (x : Int) : OI (w.setCell ⟨g, i, none⟩ (.int .i64 x)) B (.slice (some ⟨g, 0, none⟩) n cap) (xs.set i x) := by
  unfold OI
  rw [List.length_set, ← ivs_set]
  refine ⟨by rw [List.length_set]; exact h.1, .inr ?_⟩
  rcases h.2 with ⟨h1, _⟩ | ⟨g', cap', cur, e, hB, hg, h1, h2, h3, h4⟩
  · cases h1
  · cases e
    have hb : Bs 3 w g cur.toList := by simpa [Bs] using hg
    have hs : Bs 3 (w.setCell ⟨g, i, none⟩ (.int .i64 x)) g (cur.toList.set i (.int .i64 x)) := hb.set i (.int .i64 x)
    refine ⟨g, cap, (cur.toList.set i (.int .i64 x)).toArray, rfl, hB, hs, h1, h2, by simpa using h3, ?_⟩
    rw [List.take_set, h4]
theorem OI.at {w : World} {B g cap n : Nat} {xs : List Int} (h : OI w B (.slice (some ⟨g, 0, none⟩) n cap) xs) {i : Nat} (hi : i < xs.length) : w.cell? ⟨g, i, none⟩ = some (.int .i64 (xs.getD i 0)) := by
  rcases h.2 with ⟨h1, _⟩ | ⟨g', cap', cur, e, hB, hg, h1, h2, h3, h4⟩
  · cases h1
  · cases e
    rw [World.ownsRow.cellAt h i (by omega), ivs_at hi]
theorem OI.frozen {w : World} {B g cap n : Nat} {xs : List Int} (h : OI w B (.slice (some ⟨g, 0, none⟩) n cap) xs) (i : Nat) : w.frozen? ⟨g, i, none⟩ = false := by
  rcases h.2 with ⟨h1, _⟩ | ⟨g', cap', cur, e, hB, hg, h1, h2, h3, h4⟩
  · cases h1
  · cases e
    exact World.ownsRow.frozenAt h i
/-- Its cells, one by one: what stands there, and that each may be set. -/
theorem OI.form {w : World} {B n : Nat} {v : Value} {xs : List Int} (h : OI w B v xs) (hn : xs.length = n) (h0 : 0 < n) : ∃ g cap : Nat, v = .slice (some ⟨g, 0, none⟩) n cap ∧ B ≤ g ∧ g < w.heap.size ∧ n ≤ cap ∧ cap ≤ 9223372036854775807 ∧
    (∀ i, i < n → w.cell? ⟨g, i, none⟩ = some (.int .i64 (xs.getD i 0))) ∧ (∀ i, w.frozen? ⟨g, i, none⟩ = false) ∧ OI w B (.slice (some ⟨g, 0, none⟩) n cap) xs := by
  subst hn
  rcases h.2 with ⟨rfl, h1⟩ | ⟨g, cap, cur, rfl, hB, hg, hc, hcm, hcs, ht⟩
  · omega
  · refine ⟨g, cap, rfl, hB, lt_of_block hg, hc, by unfold maxLen at hcm; omega, fun i hi => ?_, fun i => World.ownsRow.frozenAt h i, h⟩
    rw [World.ownsRow.cellAt h i (by omega), ivs_at hi]

/-- 'out = append(out, y)'. -/
theorem wpList_push2 {w0 wr : World} {ops : Array Oper} {rest : List Oper} {o : Oper} {a : Act} {Q : Exit → Act → World → Prop} (hgd : o.guard = none) (s x : Operand)
    (ho : o.op = .call { callee := .builtin .append, args := #[s, x], argTypes := #[22, 22] }) (B B2 : Nat) (v : Value) (xs : List Int) (y : Int) (hs : a.eval s = v) (hown : OI wr B v xs)
    (hx : a.eval x = .slice (some ⟨wr.heap.size, 0, none⟩) 1 1) (hb : xs.length < 17592186044416) (hB : B ≤ wr.heap.size) (hB2 : B2 ≤ B) (hbel : Below B2 w0 wr)
    (h : ∀ g cap w', OI w' B (.slice (some ⟨g, 0, none⟩) (xs.length + 1) cap) (xs ++ [y]) → Below B2 w0 w' → (wr.alloc (.cells #[.int .i64 y] 3)).grownBy w' v.ownBlock → wpList Try.prog ops Q rest (a.put o.dst (.slice (some ⟨g, 0, none⟩) (xs.length + 1) cap)) w') :
    wpList Try.prog ops Q (o :: rest) a (wr.alloc (.cells #[.int .i64 y] 3)) := by
  obtain ⟨i0, hi0, hz0, hz1, hz2⟩ := info_parts info_int
  refine wpList_append_lies _ hgd s x 22 ho B 3 i0 (.int .i64 0) 1 8 Try.underlying22 hi0 hz0 hz1 hz2 rfl (by decide) v xs.length (ivs xs) hs (World.ownsRow.alloc hown _) ⟨wr.heap.size, 0, none⟩ 1 1 [.int .i64 y] hx rfl ?c1 ?c2 (by omega) ?c3 ?c4 ?c5 _ rfl ?_
  case c1 =>
    intro j u hj
    match j, hj with
    | 0, hj => simp at hj; subst hj; simp [Addr.add]
  case c2 => intro u hu; simp at hu; subst hu; rfl
  case c3 => simp only [maxLen]; omega
  case c4 => omega
  case c5 => simp; omega
  intro g cap w' h1 h2 _ _
  refine h g cap w' ?_ ?_ h2
  · unfold OI
    rw [ivs_append, List.length_append]
    exact h1
  · exact (hbel.alloc (Nat.le_trans hB2 hB) _).grown h2 (by simp; omega) (fun k hk => Nat.le_trans hB2 (World.ownsRow.lt hown k hk).1)
theorem wpList_push {w0 wr : World} {ops : Array Oper} {rest : List Oper} {o : Oper} {a : Act} {Q : Exit → Act → World → Prop} (hgd : o.guard = none) (s x : Operand)
    (ho : o.op = .call { callee := .builtin .append, args := #[s, x], argTypes := #[22, 22] }) (B : Nat) (v : Value) (xs : List Int) (y : Int) (hs : a.eval s = v) (hown : OI wr B v xs)
    (hx : a.eval x = .slice (some ⟨wr.heap.size, 0, none⟩) 1 1) (hb : xs.length < 17592186044416) (hB : B ≤ wr.heap.size) (hbel : Below B w0 wr)
    (h : ∀ g cap w', OI w' B (.slice (some ⟨g, 0, none⟩) (xs.length + 1) cap) (xs ++ [y]) → Below B w0 w' → (wr.alloc (.cells #[.int .i64 y] 3)).grownBy w' v.ownBlock → wpList Try.prog ops Q rest (a.put o.dst (.slice (some ⟨g, 0, none⟩) (xs.length + 1) cap)) w') :
    wpList Try.prog ops Q (o :: rest) a (wr.alloc (.cells #[.int .i64 y] 3)) := wpList_push2 hgd s x ho B B v xs y hs hown hx hb hB (Nat.le_refl _) hbel h
theorem OI.ge {w : World} {B : Nat} {v : Value} {xs : List Int} (h : OI w B v xs) {k : Nat} (hk : k < B) : v.ownBlock = none ∨ v.ownBlock ≠ some k := by
  cases e : v.ownBlock with
  | none => exact .inl rfl
  | some j => exact .inr (fun h2 => by injection h2 with h3; have := (World.ownsRow.lt h j e).1; omega)
theorem lpost_oi {w w' : World} {B : Nat} {v : Value} {l : List Int} {e : Int} (h : OI w' B v l) (hb : Below w.heap.size w w') : LPost w (l, e) (.returned (.tuple #[v, .int .i64 e])) w' := by
  obtain ⟨R, cr, rfl, hI⟩ := h.ip
  exact ⟨R, cr, rfl, hI, hb⟩
end Go.Proofs.Ytclfimpcacoefaa
