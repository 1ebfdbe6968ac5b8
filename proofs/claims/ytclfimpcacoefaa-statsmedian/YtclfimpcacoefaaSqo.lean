/- slices.Sort of a slice of integers of the call's own (cut out of Sq). -/
import Derived.Shelf.Abstract
import Derived.Shelf.RegionOpen
import Derived.WalkKit
import Derived.OwnWalkIn
import Derived.Sort.OwnSortedInts
import Derived.Test.YtclfimpcacoefaaOl
import Derived.Test.YtclfimpcacoefaaShS
namespace Go.Proofs.Ytclfimpcacoefaa
open Go.RowKit Go.Deep Go.Shelf

set_option maxHeartbeats 1000000 in
theorem sortO_any (B n : Nat) (R : Option Addr) (cr : Nat) (ds : List Int) (hs : ds.length ≤ 4398046511104) (w : World) (hn : ds.length = n) (hO : OI w B (.slice R n cr) ds) (hB : B ≤ w.heap.size) :
    Calls Try.prog 34 #[.slice R n cr] w fun e w' => e = .returned (.tuple #[]) ∧ OI w' B (.slice R n cr) (ds.mergeSort fun x y => decide (x ≤ y)) ∧ Below B w w' := by
  subst hn
  rcases hO.2 with ⟨h, h1⟩ | ⟨g, cap, cur, h, hg, hb, hc, hcm, hcs, ht⟩
  · have : ds = [] := List.eq_nil_of_length_eq_zero (by omega)
    subst this
    cases h
    refine (sh_slices_Sort_int_none none 0 w).mono ?_
    rintro e w' ⟨rfl, rfl⟩
    exact ⟨rfl, by rw [List.mergeSort_nil]; exact hO, Below.refl _ _⟩
  · cases h
    refine (sh_slices_Sort_int g 0 cr ds w (holds_of_blockI hb (by simpa [ivs] using ht)) (lt_of_block hb) (by omega)).mono ?_
    rintro e w' ⟨rfl, q, os, rfl⟩
    refine ⟨rfl, ?_, ?_⟩
    · have := ownsRow_sortedI (w := w) (base := B) (g := g) (cap := cr) (n := q) (e := 3) (os := os) (cur := cur) (ss := ds) (ts := ds.mergeSort fun x y => decide (x ≤ y)) (List.length_mergeSort _) hg hb hc hcm hcs
      unfold OI
      rw [List.length_mergeSort]
      exact this
    · exact (Below.refl B w).grown (grownBy_sortedI _) hB (fun k e => by cases e; exact hg)
end Go.Proofs.Ytclfimpcacoefaa
