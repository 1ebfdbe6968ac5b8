/- slices.Reverse of a slice of integers of the call's own. -/
import Derived.Test.YtkcgcojhgcfgmaaOl
import Derived.Test.YtkcgcojhgcfgmaaShR
import Derived.Sort.OwnSortedInts
namespace Go.Proofs.Ytkcgcojhgcfgmaa
open Go.RowKit Go.Deep Go.Sort

set_option maxHeartbeats 1000000 in
theorem reverseO_any (B n : Nat) (R : Option Addr) (cr : Nat) (ds : List Int) (hs : ds.length < 17592186044416) (w : World) (hn : ds.length = n) (hO : OI w B (.slice R n cr) ds) (hB : B ≤ w.heap.size) :
    Calls Try.prog 18 #[.slice R n cr] w fun e w' => e = .returned (.tuple #[]) ∧ OI w' B (.slice R n cr) ds.reverse ∧ Below B w w' := by
  subst hn
  rcases hO.2 with ⟨h, h1⟩ | ⟨g, cap, cur, h, hg, hb, hc, hcm, hcs, ht⟩
  · have : ds = [] := List.eq_nil_of_length_eq_zero (by omega)
    subst this
    cases h
    refine (sh_slices_Reverse_int_empty none 0 w).mono ?_
    rintro e w' ⟨rfl, rfl⟩
    exact ⟨rfl, by rw [List.reverse_nil]; exact hO, Below.refl _ _⟩
  · cases h
    refine (sh_slices_Reverse_int g 0 cr ds w (holds_of_blockI hb (by simpa [ivs] using ht)) (by omega)).mono ?_
    rintro e w' ⟨rfl, q, rfl⟩
    have hw := grow_empty (putRow (Value.int .i64) (Sort.ahead w q) g 0 ds.reverse.toArray)
    rw [← hw]
    refine ⟨rfl, ?_, ?_⟩
    · have := ownsRow_sortedI (w := w) (base := B) (g := g) (cap := cr) (n := q) (e := 3) (os := #[]) (cur := cur) (ss := ds) (ts := ds.reverse) List.length_reverse hg hb hc hcm hcs
      unfold OI
      rw [List.length_reverse]
      exact this
    · exact (Below.refl B w).grown (grownBy_sortedI _) hB (fun k e => by cases e; exact hg)
end Go.Proofs.Ytkcgcojhgcfgmaa
