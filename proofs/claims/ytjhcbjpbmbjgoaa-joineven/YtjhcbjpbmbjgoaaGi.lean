/- Slices of slices of integers of the call's own, made by append. -/
import Derived.Test.YtjhcbjpbmbjgoaaOi
import Derived.Test.YtjhcbjpbmbjgoaaPm
namespace Go.Proofs.Ytjhcbjpbmbjgoaa
open Go.RowKit Go.Deep

theorem info_ints : (Try.prog.info? 26).map (fun i => (i.zero, i.size, i.bytes)) = some (some (.slice none 0 0), 1, 24) := by kernel_rfl

theorem OI.keep {w w' : World} {B : Nat} {v : Value} {xs : List Int} (h : OI w B v xs) (hk : ∀ g, B ≤ g → g < w.heap.size → v.ownBlock = some g → w'.heap[g]? = w.heap[g]?) : OI w' B v xs := by
  refine ⟨h.1, ?_⟩
  rcases h.2 with h | ⟨g, cap, cur, rfl, hB, hg, h1, h2, h3, h4⟩
  · exact .inl h
  · exact .inr ⟨g, cap, cur, rfl, hB, (hk g hB (lt_of_block hg) rfl).trans hg, h1, h2, h3, h4⟩
theorem OI.lower {w : World} {B B' : Nat} {v : Value} {xs : List Int} (h : OI w B v xs) (hb : B' ≤ B) : OI w B' v xs := by
  refine ⟨h.1, ?_⟩
  rcases h.2 with h | ⟨g, cap, cur, hv, hB, hg, h1, h2, h3, h4⟩
  · exact .inl h
  · exact .inr ⟨g, cap, cur, hv, by omega, hg, h1, h2, h3, h4⟩

/-- A row: a slice of the call's own that is not nil and reads as l. -/
structure RowI (w : World) (B : Nat) (u : Value) (l : List Nat) : Prop where
  oi : OI w B u (ints l)
  ne : u ≠ .slice none 0 0
theorem RowI.form {w : World} {B : Nat} {u : Value} {l : List Nat} (h : RowI w B u l) : ∃ (g cap : Nat) (cur : Array Value), u = .slice (some ⟨g, 0, none⟩) l.length cap ∧ B ≤ g ∧ w.heap[g]? = some (.cells cur 3 (0, 0)) ∧ l.length ≤ cap ∧ cap ≤ 9223372036854775807 := by
  rcases h.oi.2 with ⟨h1, _⟩ | ⟨g, cap, cur, rfl, hB, hg, h1, h2, h3, h4⟩
  · exact absurd h1 h.ne
  · exact ⟨g, cap, cur, by rw [ints_len], hB, hg, by rw [ints_len] at h1; exact h1, by unfold maxLen at h2; omega⟩
theorem RowI.ip {w : World} {B : Nat} {u : Value} {l : List Nat} (h : RowI w B u l) : ∃ (g cap : Nat), u = .slice (some ⟨g, 0, none⟩) l.length cap ∧ IP w (some ⟨g, 0, none⟩) cap (ints l) := by
  obtain ⟨g, cap, cur, hu, _⟩ := h.form
  obtain ⟨R, cr, hv, hI⟩ := h.oi.ip
  rw [hu] at hv
  injection hv with h1 h2 h3
  subst h1 h3
  exact ⟨g, cap, hu, hI⟩
theorem RowI.keep {w w' : World} {B : Nat} {u : Value} {l : List Nat} (h : RowI w B u l) (hk : ∀ g, B ≤ g → g < w.heap.size → u.ownBlock = some g → w'.heap[g]? = w.heap[g]?) : RowI w' B u l := ⟨h.oi.keep hk, h.ne⟩

/-- A slice of such rows, of the call's own. -/
def OG (w : World) (B : Nat) (v : Value) (ls : List (List Nat)) : Prop :=
  ∃ us : List Value, us.length = ls.length ∧ w.ownsRow B 26 1 v ls.length us ∧ ∀ i, i < ls.length → RowI w B (us.getD i (.bool false)) (ls.getD i [])
theorem OG.nil (w : World) (B : Nat) : OG w B (.slice none 0 0) [] := ⟨[], rfl, World.ownsRow_nil _ _ _ _, fun i hi => absurd hi (by simp)⟩
theorem OG.keep {w w' : World} {B : Nat} {v : Value} {ls : List (List Nat)} (h : OG w B v ls) (hk : ∀ g, B ≤ g → g < w.heap.size → w'.heap[g]? = w.heap[g]?) : OG w' B v ls := by
  obtain ⟨us, hl, ho, hr⟩ := h
  refine ⟨us, hl, ⟨ho.1, ?_⟩, fun i hi => (hr i hi).keep fun g h1 h2 _ => hk g h1 h2⟩
  rcases ho.2 with h | ⟨g, cap, cur, rfl, hB, hg, rest⟩
  · exact .inl h
  · exact .inr ⟨g, cap, cur, rfl, hB, (hk g hB (lt_of_block hg)).trans hg, rest⟩
theorem OG.later {w w' : World} {B : Nat} {v : Value} {ls : List (List Nat)} (h : OG w B v ls) (hb : Below w.heap.size w w') : OG w' B v ls := h.keep fun g _ h2 => hb.block g h2
theorem OG.lower {w : World} {B B' : Nat} {v : Value} {ls : List (List Nat)} (h : OG w B v ls) (hb : B' ≤ B) : OG w B' v ls := by
  obtain ⟨us, hl, ho, hr⟩ := h
  refine ⟨us, hl, ⟨ho.1, ?_⟩, fun i hi => ⟨(hr i hi).oi.lower hb, (hr i hi).ne⟩⟩
  rcases ho.2 with h | ⟨g, cap, cur, rfl, hB, rest⟩
  · exact .inl h
  · exact .inr ⟨g, cap, cur, rfl, by omega, rest⟩
theorem OG.block {w : World} {B : Nat} {v : Value} {ls : List (List Nat)} (h : OG w B v ls) {g : Nat} (hg : v.ownBlock = some g) : B ≤ g ∧ g < w.heap.size := by
  obtain ⟨us, hl, ho, hr⟩ := h
  exact ho.lt g hg
/-- As a slice: its cells, and each row. -/
theorem OG.at {w : World} {B : Nat} {v : Value} {ls : List (List Nat)} (h : OG w B v ls) (h0 : 0 < ls.length) : ∃ g cap : Nat, v = .slice (some ⟨g, 0, none⟩) ls.length cap ∧ cap ≤ 9223372036854775807 ∧ ls.length ≤ cap ∧ ∀ i, i < ls.length → ∃ (b c : Nat), w.cell? ⟨g, i, none⟩ = some (.slice (some ⟨b, 0, none⟩) (ls.getD i []).length c) ∧ IP w (some ⟨b, 0, none⟩) c (ints (ls.getD i [])) ∧ B ≤ b := by
  obtain ⟨us, hl, ho, hr⟩ := h
  have ho' := ho
  rcases ho.2 with ⟨rfl, h1⟩ | ⟨g, cap, cur, rfl, hB, hg, h1, h2, rest⟩
  · omega
  · refine ⟨g, cap, rfl, by unfold maxLen at h2; omega, h1, fun i hi => ?_⟩
    obtain ⟨b, c, hu, hI⟩ := (hr i hi).ip
    obtain ⟨b2, c2, cur2, hu2, hB2, _⟩ := (hr i hi).form
    rw [hu] at hu2
    injection hu2 with e1 e2 e3
    injection e1 with e1
    injection e1 with e1
    refine ⟨b, c, ?_, hI, by omega⟩
    rw [World.ownsRow.cellAt ho' i (by omega), ← hu]
    simp [List.getD_eq_getElem?_getD, show i < us.length by omega]
theorem OG.slice {w : World} {B : Nat} {v : Value} {ls : List (List Nat)} (h : OG w B v ls) : ∃ (R : Option Addr) (cap : Nat), v = .slice R ls.length cap ∧ ls.length ≤ cap ∧ cap ≤ 9223372036854775807 := by
  obtain ⟨us, hl, ho, hr⟩ := h
  rcases ho.2 with ⟨rfl, h1⟩ | ⟨g, cap, cur, rfl, hB, hg, h1, h2, rest⟩
  · exact ⟨none, 0, by rw [h1], by omega, by omega⟩
  · exact ⟨_, cap, rfl, h1, by unfold maxLen at h2; omega⟩

theorem OG.row {w : World} {B g n cap : Nat} {ls : List (List Nat)} (h : OG w B (.slice (some ⟨g, 0, none⟩) n cap) ls) {i : Nat} (hi : i < ls.length) : ∃ (b c : Nat), w.cell? ⟨g, i, none⟩ = some (.slice (some ⟨b, 0, none⟩) (ls.getD i []).length c) ∧ IP w (some ⟨b, 0, none⟩) c (ints (ls.getD i [])) ∧ B ≤ b := by
  obtain ⟨g', cap', e, _, _, hc⟩ := h.at (by omega)
  injection e with e1 e2 e3
  injection e1 with e1
  injection e1 with e1
  subst e1
  exact hc i hi

/-- 'out = append(out, row)'. -/
theorem wpList_pushG {w0 wr : World} {ops : Array Oper} {rest : List Oper} {o : Oper} {a : Act} {Q : Exit → Act → World → Prop} (hgd : o.guard = none) (s x : Operand)
    (ho : o.op = .call { callee := .builtin .append, args := #[s, x], argTypes := #[24, 24] }) (B : Nat) (v u : Value) (ls : List (List Nat)) (l : List Nat) (hs : a.eval s = v) (hown : OG wr B v ls) (hrow : RowI wr B u l)
    (hx : a.eval x = .slice (some ⟨wr.heap.size, 0, none⟩) 1 1) (hb : ls.length < 1000000) (hB : B ≤ wr.heap.size) (hbel : Below B w0 wr)
    (h : ∀ g cap w', OG w' B (.slice (some ⟨g, 0, none⟩) (ls.length + 1) cap) (ls ++ [l]) → Below B w0 w' → wr.heap.size ≤ w'.heap.size → (∀ k, k < wr.heap.size → some k ≠ v.ownBlock → w'.heap[k]? = wr.heap[k]?) → (v.ownBlock = some g ∨ wr.heap.size ≤ g) → wpList Try.prog ops Q rest (a.put o.dst (.slice (some ⟨g, 0, none⟩) (ls.length + 1) cap)) w') :
    wpList Try.prog ops Q (o :: rest) a (wr.alloc (.cells #[u] 26)) := by
  obtain ⟨i0, hi0, hz0, hz1, hz2⟩ := info_parts info_ints
  obtain ⟨us, hl, hown, hr⟩ := hown
  obtain ⟨gu, cu, curu, hu, hBu, hgu, _, _⟩ := hrow.form
  refine wpList_append_lies _ hgd s x 24 ho B 26 i0 (.slice none 0 0) 1 24 Try.underlying24 hi0 hz0 hz1 hz2 rfl (by decide) v ls.length us hs (World.ownsRow.alloc hown _) ⟨wr.heap.size, 0, none⟩ 1 1 [u] hx rfl ?c1 ?c2 (by omega) ?c3 ?c4 ?c5 _ rfl ?_
  case c1 =>
    intro j y hj
    match j, hj with
    | 0, hj => simp at hj; subst hj; simp [Addr.add]
  case c2 => intro y hy; simp at hy; subst hy; rw [hu]; rfl
  case c3 => simp only [maxLen]; omega
  case c4 => omega
  case c5 => simp; omega
  intro g cap w' h1 h2 h3 _
  have hsz : wr.heap.size ≤ w'.heap.size := Nat.le_trans (by simp) h2.size
  have hkeep : ∀ k, k < wr.heap.size → some k ≠ v.ownBlock → w'.heap[k]? = wr.heap[k]? := fun k hk hne =>
    (h2.block k (by simp; omega) hne).trans (heap_alloc_old wr _ hk)
  -- a row's block is no block of rows
  have hne : ∀ (u' : Value) (l' : List Nat), RowI wr B u' l' → ∀ k, u'.ownBlock = some k → some k ≠ v.ownBlock := by
    intro u' l' hr' k hk e
    obtain ⟨g1, c1, cur1, hu1, _, hg1, _, _⟩ := hr'.form
    rw [hu1] at hk
    simp only [Value.ownBlock, Option.some.injEq] at hk
    subst hk
    rcases hown.2 with ⟨rfl, _⟩ | ⟨g2, c2, cur2, rfl, _, hg2, _⟩
    · simp [Value.ownBlock] at e
    · simp only [Value.ownBlock, Option.some.injEq] at e
      subst e
      rw [hg1] at hg2
      injection hg2 with hg2
      injection hg2 with _ hg2 _
      exact absurd hg2 (by decide)
  refine h g cap w' ⟨us ++ [u], by simp [hl], by rw [List.length_append, List.length_singleton]; exact h1, fun i hi => ?_⟩ ?_ hsz hkeep ?_
  · rw [List.length_append, List.length_singleton] at hi
    by_cases hi2 : i < ls.length
    · have e1 : (us ++ [u]).getD i (.bool false) = us.getD i (.bool false) := by simp [List.getD_eq_getElem?_getD, List.getElem?_append_left (show i < us.length by omega)]
      have e2 : (ls ++ [l]).getD i [] = ls.getD i [] := by simp [List.getD_eq_getElem?_getD, List.getElem?_append_left hi2]
      rw [e1, e2]
      exact (hr i hi2).keep fun k _ hk hown => hkeep k hk (hne _ _ (hr i hi2) k hown)
    · obtain rfl : i = ls.length := by omega
      have e1 : (us ++ [u]).getD ls.length (.bool false) = u := by rw [← hl]; simp
      have e2 : (ls ++ [l]).getD ls.length [] = l := by simp
      rw [e1, e2]
      exact hrow.keep fun k _ hk hown => hkeep k hk (hne _ _ hrow k hown)
  · exact (hbel.alloc hB _).grown h2 (by simp; omega) (fun k hk => (World.ownsRow.lt hown k hk).1)
  · rcases h3 with h3 | h3
    · exact .inl h3
    · right
      rw [h3]
      simp

/-- 'append([]int{}, c...)'. -/
theorem wpList_copyI {wr : World} {ops : Array Oper} {rest : List Oper} {o : Oper} {a : Act} {Q : Exit → Act → World → Prop} (hgd : o.guard = none) (s x : Operand)
    (ho : o.op = .call { callee := .builtin .append, args := #[s, x], argTypes := #[26, 26] }) (b off n c : Nat) (l : List Int) (hn : l.length = n) (hs : a.eval s = .slice (some ⟨wr.heap.size, 0, none⟩) 0 0)
    (hx : a.eval x = .slice (some ⟨b, off, none⟩) n c) (hl : Il wr (some ⟨b, off, none⟩) l) (hb : l.length < 17592186044416)
    (h : ∀ v' w', OI w' wr.heap.size v' l → v' ≠ .slice none 0 0 → Below wr.heap.size wr w' → wpList Try.prog ops Q rest (a.put o.dst v') w') :
    wpList Try.prog ops Q (o :: rest) a (wr.alloc (.cells #[] 3)) := by
  subst hn
  obtain ⟨i0, hi0, hz0, hz1, hz2⟩ := info_parts info_int
  refine wpList_append_own _ hgd s x 26 ho wr.heap.size 3 i0 (.int .i64 0) 1 8 Try.underlying26 hi0 hz0 hz1 hz2 rfl (by decide) _ 0 [] hs (World.ownsRow_made wr #[] 0 (Nat.le_refl _) (Nat.zero_le _) rfl) ⟨b, off, none⟩ l.length c (ivs l) hx ?c0 ?c1 ?c2 ?c3 ?c4 ?c5 ?_
  case c0 => simp [ivs]
  case c1 =>
    intro j u hj
    have hj2 : j < l.length := by have := (List.getElem?_eq_some_iff.1 hj).1; rwa [ivs_len] at this
    obtain ⟨b', off', e, hlt, hc⟩ := hl.at (by omega)
    simp only [Option.some.injEq, Addr.mk.injEq, and_true] at e
    obtain ⟨rfl, rfl⟩ := e
    rw [Addr.add_lit]
    have e2 : (wr.alloc (.cells #[] 3)).cell? ⟨b, off + j, none⟩ = wr.cell? ⟨b, off + j, none⟩ := World.cell?_of_block (heap_alloc_old wr _ hlt)
    rw [e2, hc j hj2, ← hj, ivs_at hj2]
  case c2 => intro u hu; obtain ⟨y, _, rfl⟩ := List.mem_map.1 hu; rfl
  case c3 => unfold maxLen; omega
  case c4 => omega
  case c5 => simp
  intro v' w' hown hgrow hnil
  refine h v' w' ?_ (fun e => by have := (hnil.1 e).1; simp at this) ?_
  · unfold OI
    rw [Nat.zero_add, List.nil_append] at hown
    exact hown
  · exact ((Below.refl _ wr).alloc (Nat.le_refl _) _).grown hgrow (by simp) (by intro k hk; simp [Value.ownBlock] at hk; omega)
end Go.Proofs.Ytjhcbjpbmbjgoaa
