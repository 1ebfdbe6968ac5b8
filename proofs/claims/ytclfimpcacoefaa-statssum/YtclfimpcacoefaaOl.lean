/- Slices of the call's own that lie below another block (cut out of V7). -/
import Derived.Test.YtclfimpcacoefaaOi
namespace Go.Proofs.Ytclfimpcacoefaa
open Go.RowKit Go.Deep

theorem OI.low {w w' : World} {B C : Nat} {v : Value} {xs : List Int} (h : OI w B v xs) (hv : ∀ k, v.ownBlock = some k → k < C) (hb : Below C w w') : OI w' B v xs := by
  refine ⟨h.1, ?_⟩
  rcases h.2 with h | ⟨g, cap, cur, rfl, hB, hg, h1, h2, h3, h4⟩
  · exact .inl h
  · exact .inr ⟨g, cap, cur, rfl, hB, (hb.block g (hv g rfl)).trans hg, h1, h2, h3, h4⟩
theorem OI.setLow {w : World} {B : Nat} {v : Value} {xs : List Int} (h : OI w B v xs) {a : Addr} (ha : a.block < B) (u : Value) : OI (w.setCell a u) B v xs := by
  refine ⟨h.1, ?_⟩
  rcases h.2 with h | ⟨g, cap, cur, rfl, hB, hg, h1, h2, h3, h4⟩
  · exact .inl h
  · exact .inr ⟨g, cap, cur, rfl, hB, (Below.heap_setCell _ _ _ _ (by omega)).trans hg, h1, h2, h3, h4⟩
theorem OI.blk {w : World} {B : Nat} {v : Value} {xs : List Int} (h : OI w B v xs) : ∀ k, v.ownBlock = some k → k < w.heap.size := fun k hk => (World.ownsRow.lt h k hk).2
theorem OI.ipv {w : World} {B n : Nat} {R : Option Addr} {cr : Nat} {xs : List Int} (h : OI w B (.slice R n cr) xs) (hn : xs.length = n) : IP w R cr xs := by
  obtain ⟨R', cr', e, hI⟩ := h.ip
  injection e with e1 e2 e3
  subst e1 e3
  exact hI

theorem wf_le {x : Int} (h : (Lit.int .i64 x).wf = true) : x ≤ 9223372036854775807 := by
  simp [Lit.wf, IntKind.min, IntKind.max, IntKind.signed, IntKind.bits] at h; omega
/-- A list of the call's own and an error. -/
def OPost (w : World) (r : List Int × Int) (e : Ending) (w' : World) : Prop := ∃ v, e = .returned (.tuple #[v, .int .i64 r.2]) ∧ OI w' w.heap.size v r.1 ∧ Below w.heap.size w w'
theorem opost_none {w w' : World} {e : Int} (h : Below w.heap.size w w') : OPost w ([], e) (.returned (.tuple #[.slice none 0 0, .int .i64 e])) w' := ⟨_, rfl, OI.nil _ _, h⟩
theorem opost_oi {w w' : World} {v : Value} {l : List Int} {e : Int} (h : OI w' w.heap.size v l) (hb : Below w.heap.size w w') : OPost w (l, e) (.returned (.tuple #[v, .int .i64 e])) w' := ⟨_, rfl, h, hb⟩
theorem OPost.lp {w w' : World} {r : List Int × Int} {e : Ending} (h : OPost w r e w') : LPost w r e w' := by
  obtain ⟨v, rfl, h1, h2⟩ := h
  exact lpost_oi h1 h2
end Go.Proofs.Ytclfimpcacoefaa
