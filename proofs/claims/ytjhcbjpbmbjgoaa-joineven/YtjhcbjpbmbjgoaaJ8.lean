/- lotdrawerkeep.alive7. -/
import Derived.Test.YtjhcbjpbmbjgoaaJ6
import Derived.Test.YtjhcbjpbmbjgoaaJ7
import Derived.Test.YtjhcbjpbmbjgoaaT5
namespace Go.Proofs.Ytjhcbjpbmbjgoaa
open Go.RowKit Go.Deep

theorem jval1 : poolsR 2 3 [1, 2] 2 2 [8, 9] [3, 2] [1, 0] = ((2, 5, [9, 1]), 0) := by decide +kernel
theorem jval2 : cntR 5 4 3 2 = (40, 0) := by decide +kernel
/-- A list of the code's own. -/
def al (w : World) (l : List Int) : World := w.alloc (.cells (ivs l).toArray 3)
theorem al_below (w : World) (l : List Int) : Below w.heap.size w (al w l) := (Below.refl _ _).alloc (Nat.le_refl _) _
theorem al_size (w : World) (l : List Int) : (al w l).heap.size = w.heap.size + 1 := by unfold al; simp
theorem al_two (w : World) (x y : Int) : al w [x, y] = w.alloc (.cells #[.int .i64 x, .int .i64 y] 3) := rfl

set_option maxRecDepth 100000 in
set_option maxHeartbeats 4000000 in
theorem alive7_any (w : World) :
    Calls Try.prog 9 #[] w fun e w' => e = .returned (.bool true) ∧ Below w.heap.size w w' := by
  have b1 := al_below w [1, 2]
  have b2 := al_below (al w [1, 2]) [8, 9]
  have b3 := al_below (al (al w [1, 2]) [8, 9]) [3, 2]
  have b4 := al_below (al (al (al w [1, 2]) [8, 9]) [3, 2]) [1, 0]
  have i1 : IP (al w [1, 2]) (some ⟨w.heap.size, 0, none⟩) 2 [1, 2] := ip_lit w [1, 2] (by simp)
  have i2 : IP (al (al w [1, 2]) [8, 9]) (some ⟨(al w [1, 2]).heap.size, 0, none⟩) 2 [8, 9] := ip_lit _ [8, 9] (by simp)
  have i3 : IP (al (al (al w [1, 2]) [8, 9]) [3, 2]) (some ⟨(al (al w [1, 2]) [8, 9]).heap.size, 0, none⟩) 2 [3, 2] := ip_lit _ [3, 2] (by simp)
  have i4 : IP (al (al (al (al w [1, 2]) [8, 9]) [3, 2]) [1, 0]) (some ⟨(al (al (al w [1, 2]) [8, 9]) [3, 2]).heap.size, 0, none⟩) 2 [1, 0] := ip_lit _ [1, 0] (by simp)
  have C0 := Lib.hid (pools_any 2 3 2 2 _ _ _ _ 2 2 2 2 [1, 2] [8, 9] [3, 2] [1, 0] _ (((i1.later b2).later b3).later b4) ((i2.later b3).later b4) (i3.later b4) i4)
  rw [jval1] at C0
  have hb : Below w.heap.size w (al (al (al (al w [1, 2]) [8, 9]) [3, 2]) [1, 0]) := b1.trans ((b2.mono b1.size).trans ((b3.mono (by simp only [al_size]; omega)).trans (b4.mono (by simp only [al_size]; omega))))
  have HB := Lib.hid hb
  simp only [al_size] at C0
  simp only [al_two] at C0 HB
  have C2 := fun w1 : World => Lib.hid (count_any 5 4 3 2 w1 (by omega))
  rw [jval2] at C2
  unfold pv at C0
  unfold ptup at C2
  clear b1 b2 b3 b4 i1 i2 i3 i4 hb
  go_enter Try.func9, Try.ntmps9
  go_wp2_with fail
  refine C0.out.mono ?_
  rintro e w1 ⟨v, rfl, hO, hb⟩
  obtain ⟨R, cr, rfl⟩ := hO.shape
  have HB1 := Lib.hid (HB.out.trans (hb.mono (by omega)))
  obtain ⟨_, _, e, hI⟩ := hO.ip
  cases e
  unfold pv
  have hp := PB.new w1 2 5 (.slice R 2 cr)
  have k1 : Below w1.heap.size w1 (w1.alloc (.cells #[.int .i64 2, .int .i64 5, .slice R 2 cr] 28)) := (Below.refl _ _).alloc (Nat.le_refl _) _
  have HB2 := Lib.hid (HB1.out.trans (k1.mono HB1.out.size))
  have HP := Lib.hid hp
  have HI := Lib.hid (hI.later k1)
  clear HB C0 hb hI hO k1 HB1 hp
  go_wp2_with fail
  refine (C2 _).out.mono ?_
  rintro e w2 ⟨rfl, rfl⟩
  clear C2
  obtain ⟨c0, c1, c2, _⟩ := HP.out.at
  generalize (w1.alloc (.cells #[.int .i64 2, .int .i64 5, .slice R 2 cr] 28)) = wa at *
  have i5 : IP (al wa [9, 1]) (some ⟨wa.heap.size, 0, none⟩) 2 [9, 1] := ip_lit wa [9, 1] (by simp)
  have C3 := Lib.hid (iequal_any R _ cr 2 [9, 1] [9, 1] _ (HI.out.later (al_below wa [9, 1])).il i5.il (by simp) (by simp))
  simp only [decide_true, al_two] at C3
  have k1 := al_below wa [9, 1]
  rw [al_two] at k1
  have HB3 := Lib.hid (HB2.out.trans (k1.mono HB2.out.size))
  have HP2 := Lib.hid (HP.out.later k1)
  clear i5 k1
  go_wp2_with fail
  refine C3.out.mono ?_
  rintro e w3 ⟨rfl, hb⟩
  have HB4 := Lib.hid (HB3.out.trans (hb.mono HB3.out.size))
  clear c0 c1 c2
  obtain ⟨c0, c1, c2, _⟩ := (HP2.out.later hb).at
  clear hb C3
  go_wp2
  go_ret
  exact ⟨rfl, HB4.out⟩
end Go.Proofs.Ytjhcbjpbmbjgoaa
