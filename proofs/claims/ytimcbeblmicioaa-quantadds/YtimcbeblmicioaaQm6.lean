/- Entries appended: one, or a whole list. -/
import Derived.Test.YtimcbeblmicioaaQm0
import Derived.Test.YtimcbeblmicioaaAp
import Derived.Laws.AppendOwnNone
namespace Go.Proofs.Ytimcbeblmicioaa
open Go.RowKit Go.Deep

theorem OR.blk {w : World} {B : Nat} {v : Value} {S : List Rk} (h : OR w B v S) {g : Nat} (hg : v.ownBlock = some g) : B ≤ g ∧ g < w.heap.size := World.ownsRow.lt h g hg
theorem OR.kept {w w' : World} {row : Option Nat} {B : Nat} {v : Value} {S : List Rk} (h : OR w B v S) (hg : w.grownBy w' row) (hne : v.ownBlock = none ∨ v.ownBlock ≠ row) : OR w' B v S := World.ownsRow.kept h hg hne
theorem OR.alloc {w : World} {B : Nat} {v : Value} {S : List Rk} (h : OR w B v S) (o : Obj) : OR (w.alloc o) B v S := World.ownsRow.alloc h o
theorem OR.at {w : World} {B g cap n : Nat} {S : List Rk} (h : OR w B (.slice (some ⟨g, 0, none⟩) n cap) S) {i : Nat} (hi : i < S.length) : w.cell? ⟨g, i * 3, none⟩ = some (.int .i64 (rat S i).n) ∧ w.cell? ⟨g, i * 3 + 1, none⟩ = some (.int .i64 (rat S i).g) ∧ w.cell? ⟨g, i * 3 + 2, none⟩ = some (.int .i64 (rat S i).m) := by
  rcases h.2 with ⟨h1, _⟩ | ⟨g', cap', cur, e, hB, hg, h1, h2, h3, h4⟩
  · cases h1
  · cases e
    rw [World.ownsRow.cellAt h (i * 3) (by omega), World.ownsRow.cellAt h (i * 3 + 1) (by omega), World.ownsRow.cellAt h (i * 3 + 2) (by omega)]
    exact rvs_at hi
theorem OR.frozen {w : World} {B g cap n : Nat} {S : List Rk} (h : OR w B (.slice (some ⟨g, 0, none⟩) n cap) S) (i : Nat) : w.frozen? ⟨g, i, none⟩ = false := by
  rcases h.2 with ⟨h1, _⟩ | ⟨g', cap', cur, e, hB, hg, h1, h2, h3, h4⟩
  · cases h1
  · cases e
    exact World.ownsRow.frozenAt h i
theorem OR.form {w : World} {B n : Nat} {v : Value} {S : List Rk} (h : OR w B v S) (hn : S.length = n) (h0 : 0 < n) : ∃ g cap : Nat, v = .slice (some ⟨g, 0, none⟩) n cap ∧ B ≤ g ∧ g < w.heap.size ∧ n ≤ cap ∧ cap ≤ 9223372036854775807 ∧ OR w B (.slice (some ⟨g, 0, none⟩) n cap) S := by
  subst hn
  rcases h.2 with ⟨rfl, h1⟩ | ⟨g, cap, cur, rfl, hB, hg, hc, hcm, hcs, ht⟩
  · omega
  · exact ⟨g, cap, rfl, hB, lt_of_block hg, hc, by unfold maxLen at hcm; omega, h⟩
/-- Its gap is set. -/
theorem OR.setg {w : World} {B g cap n : Nat} {S : List Rk} (h : OR w B (.slice (some ⟨g, 0, none⟩) n cap) S) {i : Nat} (hi : i < S.length) (x : Int) : OR (w.setCell ⟨g, i * 3 + 1, none⟩ (.int .i64 x)) B (.slice (some ⟨g, 0, none⟩) n cap) (S.set i ⟨(rat S i).n, x, (rat S i).m⟩) := by
  unfold OR
  rw [List.length_set, ← rvs_setg x hi]
  refine ⟨by rw [List.length_set]; exact h.1, .inr ?_⟩
  rcases h.2 with ⟨h1, _⟩ | ⟨g', cap', cur, e, hB, hg, h1, h2, h3, h4⟩
  · cases h1
  · cases e
    have hb : Bs 33 w g cur.toList := by simpa [Bs] using hg
    have hs : Bs 33 (w.setCell ⟨g, i * 3 + 1, none⟩ (.int .i64 x)) g (cur.toList.set (i * 3 + 1) (.int .i64 x)) := hb.set _ _
    refine ⟨g, cap, (cur.toList.set (i * 3 + 1) (.int .i64 x)).toArray, rfl, hB, hs, h1, h2, by simpa using h3, ?_⟩
    rw [List.take_set, h4]
theorem OR.setOther {w : World} {B : Nat} {v : Value} {S : List Rk} (h : OR w B v S) {a : Addr} (ha : ∀ g, v.ownBlock = some g → g ≠ a.block) (x : Value) : OR (w.setCell a x) B v S := by
  refine ⟨h.1, ?_⟩
  rcases h.2 with h | ⟨g, cap, cur, rfl, hB, hg, h1, h2, h3, h4⟩
  · exact .inl h
  · exact .inr ⟨g, cap, cur, rfl, hB, by rw [Below.heap_setCell _ _ _ _ (ha g rfl)]; exact hg, h1, h2, h3, h4⟩
def apartR (a b : Value) : Prop := ∀ g, a.ownBlock = some g → b.ownBlock ≠ some g
theorem apartR.ne {a b : Value} (h : apartR a b) : b.ownBlock = none ∨ b.ownBlock ≠ a.ownBlock := by
  cases e : b.ownBlock with
  | none => exact .inl rfl
  | some g => exact .inr (fun e2 => h g e2.symm e)
theorem apartR.symm {a b : Value} (h : apartR a b) : apartR b a := fun g h1 h2 => h g h2 h1

/-- 'out = append(out, r)', with where it lies. -/
theorem wpList_pushR {w0 wr : World} {ops : Array Oper} {rest : List Oper} {o : Oper} {a : Act} {Q : Exit → Act → World → Prop} (hgd : o.guard = none) (s x : Operand)
    (ho : o.op = .call { callee := .builtin .append, args := #[s, x], argTypes := #[22, 22] }) (B : Nat) (v : Value) (S : List Rk) (y1 y2 y3 : Int) (hs : a.eval s = v) (hown : OR wr B v S)
    (Hn : Nat) (hH : wr.heap.size = Hn) (hx : a.eval x = .slice (some ⟨Hn, 0, none⟩) 1 1) (hb : S.length < 1000000) (hB : B ≤ wr.heap.size) (hbel : Below B w0 wr)
    (h : ∀ g cap w', OR w' B (.slice (some ⟨g, 0, none⟩) (S.length + 1) cap) (S ++ [⟨y1, y2, y3⟩]) → Below B w0 w' → (wr.alloc (.cells #[.int .i64 y1, .int .i64 y2, .int .i64 y3] 33)).grownBy w' v.ownBlock → (v.ownBlock = some g ∨ g = wr.heap.size + 1) → g < w'.heap.size → wpList Try.prog ops Q rest (a.put o.dst (.slice (some ⟨g, 0, none⟩) (S.length + 1) cap)) w') :
    wpList Try.prog ops Q (o :: rest) a (wr.alloc (.cells #[.int .i64 y1, .int .i64 y2, .int .i64 y3] 33)) := by
  subst hH
  obtain ⟨i0, hi0, hz0, hz1, hz2⟩ := info_parts info_rank
  refine wpList_append_lies _ hgd s x 22 ho B 33 i0 (.agg #[.int .i64 0, .int .i64 0, .int .i64 0]) 3 24 Try.underlying22 hi0 hz0 hz1 hz2 rfl (by decide) v S.length (rvs S) hs (World.ownsRow.alloc hown _) ⟨wr.heap.size, 0, none⟩ 1 1 [.int .i64 y1, .int .i64 y2, .int .i64 y3] hx rfl ?c1 ?c2 (by omega) ?c3 ?c4 ?c5 (wr.heap.size + 1) (by simp) ?_
  case c1 =>
    intro j u hj
    rw [Addr.add_lit, Nat.zero_add, cell_of_row _ wr.heap.size j _ 33 (0, 0) (heap_alloc_new wr _)]
    simpa using hj
  case c2 => intro u hu; simp at hu; rcases hu with rfl | rfl | rfl <;> rfl
  case c3 => simp only [maxLen]; omega
  case c4 => omega
  case c5 => simp; omega
  intro g cap w' h1 h2 h3 h4
  refine h g cap w' ?_ ?_ h2 h3 h4
  · unfold OR
    rw [rvs_app, List.length_append]
    exact h1
  · exact (hbel.alloc hB _).grown h2 (by simp; omega) (fun k hk => (World.ownsRow.lt hown k hk).1)

/-- 'append(s, l...)'. -/
theorem wpList_appR {wr : World} {ops : Array Oper} {rest : List Oper} {o : Oper} {a : Act} {Q : Exit → Act → World → Prop} (hgd : o.guard = none) (s x : Operand)
    (ho : o.op = .call { callee := .builtin .append, args := #[s, x], argTypes := #[22, 22] }) (B : Nat) (v : Value) (S : List Rk) (hs : a.eval s = v) (hown : OR wr B v S) (A : Option Addr) (n c : Nat) (l : List Rk) (hn : l.length = n)
    (hx : a.eval x = .slice A n c) (hl : RP wr A c l) (hb : S.length + l.length ≤ 1000000) (hB : B ≤ wr.heap.size)
    (h : ∀ v' w', OR w' B v' (S ++ l) → Below B wr w' → wr.grownBy w' v.ownBlock → wpList Try.prog ops Q rest (a.put o.dst v') w') :
    wpList Try.prog ops Q (o :: rest) a wr := by
  subst hn
  obtain ⟨i0, hi0, hz0, hz1, hz2⟩ := info_parts info_rank
  rcases Nat.eq_zero_or_pos l.length with h0 | h0
  · obtain rfl : l = [] := List.eq_nil_of_length_eq_zero h0
    have hr : ∀ ty, (Builtin.append_ #[22, 22] ty #[v, .slice A ([] : List Rk).length c]).run Try.prog wr = .ok v wr := fun ty => by
      rcases hown.2 with ⟨rfl, h1⟩ | ⟨g, cap, cur, rfl, _, hg, hc, hcm, _, _⟩
      · simp [Builtin.append_, run_underlying Try.underlying22, Go.sizeOf, typeInfo, hi0, hz1, Builtin.lenOf, Builtin.firstCells, loadCells, loadCellsFrom]
        cases A <;> simp [loadCells, loadCellsFrom]
      · simp [Builtin.append_, run_underlying Try.underlying22, Go.sizeOf, typeInfo, hi0, hz1, Builtin.lenOf, Builtin.firstCells, loadCells, loadCellsFrom, hc]
        cases A <;> simp [loadCells, loadCellsFrom, storeCells]
    refine wpList_append_run hgd s x _ _ ho _ _ _ hs hx hr (h _ _ (by rw [List.append_nil]; exact hown) (Below.refl _ _) (World.grownBy.refl _ _))
  · obtain ⟨b, off, rfl, hlt, hc⟩ := hl.il h0
    refine wpList_append_lies _ hgd s x 22 ho B 33 i0 (.agg #[.int .i64 0, .int .i64 0, .int .i64 0]) 3 24 Try.underlying22 hi0 hz0 hz1 hz2 rfl (by decide) v S.length (rvs S) hs hown ⟨b, off, none⟩ l.length c (rvs l) hx (rvs_len l) ?c1 ?c2 h0 ?c3 ?c4 hB wr.heap.size rfl ?_
    case c1 =>
      intro j u hj
      have hj2 : j < l.length * 3 := by have := (List.getElem?_eq_some_iff.1 hj).1; rwa [rvs_len] at this
      obtain ⟨i, hi⟩ : ∃ i, j = i * 3 ∨ j = i * 3 + 1 ∨ j = i * 3 + 2 := ⟨j / 3, by omega⟩
      have hil : i < l.length := by omega
      obtain ⟨r0, r1, r2⟩ := rvs_at hil
      obtain ⟨q0, q1, q2⟩ := hc i hil
      rw [Addr.add_lit]
      rcases hi with rfl | rfl | rfl
      · rw [r0] at hj; cases hj; exact q0
      · rw [r1] at hj; cases hj; rw [← Nat.add_assoc]; exact q1
      · rw [r2] at hj; cases hj; rw [← Nat.add_assoc]; exact q2
    case c2 =>
      intro u hu
      obtain ⟨j, hj⟩ := List.getElem?_of_mem hu
      have hj2 : j < l.length * 3 := by have := (List.getElem?_eq_some_iff.1 hj).1; rwa [rvs_len] at this
      obtain ⟨i, hi⟩ : ∃ i, j = i * 3 ∨ j = i * 3 + 1 ∨ j = i * 3 + 2 := ⟨j / 3, by omega⟩
      have hil : i < l.length := by omega
      obtain ⟨r0, r1, r2⟩ := rvs_at hil
      rcases hi with rfl | rfl | rfl
      · rw [r0] at hj; cases hj; rfl
      · rw [r1] at hj; cases hj; rfl
      · rw [r2] at hj; cases hj; rfl
    case c3 => unfold maxLen; omega
    case c4 => omega
    intro g cap w' h1 h2 h3 h4
    refine h _ w' ?_ ?_ h2
    · unfold OR
      rw [rvs_app, List.length_append]
      exact h1
    · exact (Below.refl B wr).grown h2 hB (fun k hk => (World.ownsRow.lt hown k hk).1)
end Go.Proofs.Ytimcbeblmicioaa
