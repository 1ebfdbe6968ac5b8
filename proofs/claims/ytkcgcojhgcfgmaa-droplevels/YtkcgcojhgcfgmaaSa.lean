/- append of a slice of integers to one of the call's own, as a step of a region that draws its order. -/
import Derived.Test.YtkcgcojhgcfgmaaOl
import Derived.Laws.AppendOwn
namespace Go.Proofs.Ytkcgcojhgcfgmaa
open Go.RowKit Go.Deep

theorem step_ownI {w : World} {ops : Array Oper} {o : Oper} {a : Act} {K : Act → World → Prop} {Q : Exit → Act → World → Prop} {E : Prop} (hgd : o.guard = none) (s x : Operand)
    (ho : o.op = .call { callee := .builtin .append, args := #[s, x], argTypes := #[22, 22] }) (B : Nat) (v : Value) (xs : List Int) (hs : a.eval s = v) (hown : OI w B v xs)
    (ad : Addr) (n c : Nat) (ys : List Int) (hx : a.eval x = .slice (some ad) n c) (hn : ys.length = n) (hy : IP w (some ad) c ys) (hb : xs.length + ys.length < 17592186044416) (hB : B ≤ w.heap.size)
    (h : ∀ v' w', OI w' B v' (xs ++ ys) → w.grownBy w' v.ownBlock → K (a.put o.dst v') w') :
    if Region.wanted o (yielded ops a.tmps) = true then Oper.wp Try.prog o a w K Q else E := by
  subst hn
  have hw : Region.wanted o (yielded ops a.tmps) = true := by simp [Region.wanted, hgd]
  rw [if_pos hw]
  obtain ⟨i0, hi0, hz0, hz1, hz2⟩ := info_parts info_int
  refine wp_append_own w s x 22 ho B 3 i0 (.int .i64 0) 1 8 Try.underlying22 hi0 hz0 hz1 hz2 rfl (by decide) v xs.length (ivs xs) hs hown ad ys.length c (ivs ys) hx ?c0 ?c1 ?c2 ?c3 ?c4 hB ?_
  case c0 => simp [ivs]
  case c1 =>
    intro j u hj
    have hj2 : j < ys.length := by have := (List.getElem?_eq_some_iff.1 hj).1; rwa [ivs_len] at this
    obtain ⟨b', off', e, hlt, hc⟩ := hy.il.at (by omega)
    cases e
    rw [Addr.add_lit, hc j hj2, ← hj, ivs_at hj2]
  case c2 => intro u hu; obtain ⟨y, _, rfl⟩ := List.mem_map.1 hu; rfl
  case c3 => unfold maxLen; omega
  case c4 => omega
  intro v' w' hown' hgrow _
  refine h v' w' ?_ hgrow
  unfold OI
  rw [List.length_append, ivs_append]
  exact hown'
/-- An empty slice that the call makes. -/
theorem OI.made0 (w : World) (B : Nat) (hB : B ≤ w.heap.size) : OI (w.alloc (.cells #[] 3)) B (.slice (some ⟨w.heap.size, 0, none⟩) 0 0) [] := World.ownsRow_made w #[] 0 hB (Nat.zero_le _) rfl
theorem take_ip {A : Option Addr} {ca : Nat} {l : List Int} {w : World} (h : IP w A ca l) (n : Nat) : IP w A ca (l.take n) := ⟨h.il.take n, by have := h.le; rw [List.length_take]; omega, h.cap, h.none⟩
end Go.Proofs.Ytkcgcojhgcfgmaa
