/- lotdrawerref.GPools: where its loop stands. -/
import Derived.Test.YtgmbhlkjnamjhaaJd
import Derived.Test.YtgmbhlkjnamjhaaJ6
import Derived.Maps.RangeWalk
import Derived.StillTailTactics
namespace Go.Proofs.Ytgmbhlkjnamjhaa
open Go.RowKit Go.Deep Go.Maps

/-- Where the loop stands. -/
structure GR (s : Nat) (w0 : World) (R M : Int) (N : Nat) (xs ys ws hs : List Int) (S0 : List Int × Int) (k : Nat) (na nb : Int) (ka kb : Nat) (Sa Sb : Int → Bool) (hv : Value) (acc : List Int) (w : World) : Prop where
  g : GW s w0 R M na nb ka kb Sa Sb hv acc w
  kl : k ≤ N
  a0 : 0 ≤ na
  a1 : na ≤ 1099511627776
  b0 : 0 ≤ nb
  b1 : nb ≤ 1099511627776
  ka : ka ≤ k
  kb : kb ≤ k
  l : acc.length = k
  e : S0 = selJ na nb (remX xs Sa) (remX ys Sb) acc ((ws.take N).drop k) ((hs.take N).drop k)
/-- What skip has come to: it may have wrapped. -/
def SkZ (h : Int) (c : Nat) (z : Int) : Prop := -9223372036854775808 ≤ z ∧ z ≤ 9223372036854775807 ∧ (z = h - c ∨ z = h - c + 18446744073709551616)
theorem SkZ.zero {h z : Int} {c : Nat} (hh : -9223372036854775808 ≤ h ∧ h ≤ 9223372036854775807) (hc : c ≤ 1000000) (hs : SkZ h c z) : z = 0 ↔ h = c := by
  obtain ⟨h1, h2, h3 | h3⟩ := hs <;> omega
theorem gpush {s p ab aoff q : Nat} {w0 : World} {R M na nb R' P' : Int} {ka kb : Nat} {Sa Sb : Int → Bool} {hv V : Value} {acc : List Int} {w w7 : World} {y : Int} {g n cap : Nat} (h : GW s w0 R M na nb ka kb Sa Sb hv acc w) (hp : PB w p R' P' V) (he : w.cell? ⟨ab, aoff + q, none⟩ = some (.int .i64 y)) (hn : p ≠ s ∧ ab ≠ s) (hab : ab < s)
    (hown : w7.ownsRow (s + 5) 3 1 (.slice (some ⟨g, 0, none⟩) n cap) (acc.length + 1) (ivs acc ++ [.int .i64 y])) (hg : (w.alloc (.cells #[.int .i64 y] 3)).grownBy w7 hv.ownBlock) :
    OI w7 (s + 5) (.slice (some ⟨g, 0, none⟩) n cap) (acc ++ [y]) ∧ PB w7 s R M hv ∧ w7.cell? ⟨p, 2, none⟩ = some V ∧ w7.cell? ⟨ab, aoff + q, none⟩ = some (.int .i64 y) ∧
    (∀ u, (w7.setCell ⟨s, 2, none⟩ u).cell? ⟨p, 2, none⟩ = some V ∧ (w7.setCell ⟨s, 2, none⟩ u).cell? ⟨ab, aoff + q, none⟩ = some (.int .i64 y)) ∧
    GW s w0 R M na nb ka kb Sa Sb (.slice (some ⟨g, 0, none⟩) n cap) (acc ++ [y]) (w7.setCell ⟨s, 2, none⟩ (.slice (some ⟨g, 0, none⟩) n cap)) := by
  have hs := h.size
  have hne : ∀ k, k < s + 5 → some k ≠ hv.ownBlock := fun k hk e => by have := (World.ownsRow.lt h.h k e.symm).1; omega
  have hO : OI w7 (s + 5) (.slice (some ⟨g, 0, none⟩) n cap) (acc ++ [y]) := by
    unfold OI
    rw [ivs_append, List.length_append]
    exact hown
  have hp7 : PB w7 p R' P' V := (hg.block p (by have := hp.lt; simp; omega) (fun e => own_neB h.h (by decide) hp e.symm)).trans (hp.alloc _)
  have he7 : w7.cell? ⟨ab, aoff + q, none⟩ = some (.int .i64 y) := (World.cell?_of_block (hg.block ab (by simp; omega) (hne ab (by omega)))).trans ((World.cell?_of_block (Below.heap_alloc w _ ab (by omega))).trans he)
  refine ⟨hO, (hg.block s (by simp; omega) (hne s (by omega))).trans (h.o.alloc _), hp7.at.2.2.1, he7, fun u => ⟨?_, ?_⟩, h.push hO hg⟩
  · exact (hp7.other (a := ⟨s, 2, none⟩) hn.1 u).at.2.2.1
  · exact (World.cell?_of_block (Below.heap_setCell _ _ _ _ hn.2)).trans he7
theorem ret_err2 {w : World} {ra ca rb cb : Int} {va vb : Value} {wx : World} {q : Res} (h : JB w ra ca va rb cb vb wx) (E : q = (pz, 2)) : PB (((wx.setCell ⟨w.heap.size + 1 + 1, 0, none⟩ (.int .i64 0)).setCell ⟨w.heap.size + 1 + 1, 1, none⟩ (.int .i64 0)).setCell ⟨w.heap.size + 1 + 1, 2, none⟩ (.slice none 0 0)) (w.heap.size + 1 + 1) 0 0 (.slice none 0 0) ∧
    PPost w.heap.size w q (.returned (.tuple #[pv 0 0 (.slice none 0 0), .int .i64 2])) (((wx.setCell ⟨w.heap.size + 1 + 1, 0, none⟩ (.int .i64 0)).setCell ⟨w.heap.size + 1 + 1, 1, none⟩ (.int .i64 0)).setCell ⟨w.heap.size + 1 + 1, 2, none⟩ (.slice none 0 0)) := h.ret E

end Go.Proofs.Ytgmbhlkjnamjhaa
