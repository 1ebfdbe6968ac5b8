/- 'append([]int{}, l...)' of integers, where l may be nil. -/
import Derived.Test.YtkcgcojhgcfgmaaOi
import Derived.Laws.AppendOwnNone
namespace Go.Proofs.Ytkcgcojhgcfgmaa
open Go.RowKit Go.Deep

/-- 'append([]int{}, l...)', where l may be nil. -/
theorem wpList_copyA {wr : World} {ops : Array Oper} {rest : List Oper} {o : Oper} {a : Act} {Q : Exit → Act → World → Prop} (hgd : o.guard = none) (s x : Operand)
    (ho : o.op = .call { callee := .builtin .append, args := #[s, x], argTypes := #[22, 22] }) (A : Option Addr) (n c : Nat) (l : List Int) (hn : l.length = n) (hs : a.eval s = .slice (some ⟨wr.heap.size, 0, none⟩) 0 0)
    (hx : a.eval x = .slice A n c) (hl : IP wr A c l) (hb : l.length < 17592186044416)
    (h : ∀ v' w', OI w' wr.heap.size v' l → Below wr.heap.size wr w' → wpList Try.prog ops Q rest (a.put o.dst v') w') :
    wpList Try.prog ops Q (o :: rest) a (wr.alloc (.cells #[] 3)) := by
  subst hn
  obtain ⟨i0, hi0, hz0, hz1, hz2⟩ := info_parts info_int
  cases A with
  | none =>
    obtain rfl : c = 0 := hl.none rfl
    obtain rfl : l = [] := by
      have := hl.le
      exact List.eq_nil_of_length_eq_zero (by omega)
    refine wpList_append_own_none hgd s x 22 ho wr.heap.size 3 i0 1 Try.underlying22 hi0 _ 0 [] hs (World.ownsRow_made wr #[] 0 (Nat.le_refl _) (Nat.zero_le _) rfl) hx ?_
    refine h _ _ ?_ ((Below.refl _ _).alloc (Nat.le_refl _) _)
    exact World.ownsRow_made wr #[] 0 (Nat.le_refl _) (Nat.zero_le _) rfl
  | some ad =>
    refine wpList_append_own _ hgd s x 22 ho wr.heap.size 3 i0 (.int .i64 0) 1 8 Try.underlying22 hi0 hz0 hz1 hz2 rfl (by decide) _ 0 [] hs (World.ownsRow_made wr #[] 0 (Nat.le_refl _) (Nat.zero_le _) rfl) ad l.length c (ivs l) hx ?c0 ?c1 ?c2 ?c3 ?c4 ?c5 ?_
    case c0 => simp [ivs]
    case c1 =>
      intro j u hj
      have hj2 : j < l.length := by have := (List.getElem?_eq_some_iff.1 hj).1; rwa [ivs_len] at this
      obtain ⟨b', off', e, hlt, hc⟩ := hl.il.at (by omega)
      cases e
      rw [Addr.add_lit]
      have e2 : (wr.alloc (.cells #[] 3)).cell? ⟨b', off' + j, none⟩ = wr.cell? ⟨b', off' + j, none⟩ := World.cell?_of_block (heap_alloc_old wr _ hlt)
      rw [e2, hc j hj2, ← hj, ivs_at hj2]
    case c2 => intro u hu; obtain ⟨y, _, rfl⟩ := List.mem_map.1 hu; rfl
    case c3 => unfold maxLen; omega
    case c4 => omega
    case c5 => simp
    intro v' w' hown hgrow hnil
    refine h v' w' ?_ ?_
    · unfold OI
      rw [Nat.zero_add, List.nil_append] at hown
      exact hown
    · exact ((Below.refl _ wr).alloc (Nat.le_refl _) _).grown hgrow (by simp) (by intro k hk; simp [Value.ownBlock] at hk; omega)
end Go.Proofs.Ytkcgcojhgcfgmaa
