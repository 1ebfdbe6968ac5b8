/- lotdrawerkeep.alive12. -/
import Derived.Test.YtnihcpaakbhpcaaG5
import Derived.Test.YtnihcpaakbhpcaaU5
namespace Go.Proofs.Ytnihcpaakbhpcaa
open Go.RowKit Go.Deep

def al12 : List W64 := [5, 5, 9, 1, 4, 9]
theorem al12_a : allF 7 3 al12 = (skL 7 3 al12, 0) := if_pos (by decide)
theorem al12_b : allF 7 9 al12 = (skL 7 9 al12, 0) := if_pos (by decide)
theorem al12_3 : (skL 7 3 al12).length = 3 := by decide +kernel
theorem al12_4 : (skL 7 9 al12).length = 4 := by decide +kernel
theorem al12_t : (skL 7 9 al12).take 3 = skL 7 3 al12 := (ske_less (rk 7) (k := 9) (j := 3) (by decide) al12).symm
theorem mix_0 : mix 0 = 0 := by decide
theorem mix_1 : mix 1 = 6238072747940578789#64 := by decide

set_option maxRecDepth 100000 in
set_option maxHeartbeats 2000000 in
theorem alive12_any (w : World) : Calls Try.prog 22 #[] w fun e w' => e = .returned (.bool true) ∧ Below w.heap.size w w' := by
  have h1 : Below w.heap.size w (w.alloc (.cells #[.int .u64 5, .int .u64 5, .int .u64 9, .int .u64 1, .int .u64 4, .int .u64 9] 22)) := (Below.refl _ _).alloc (Nat.le_refl _) _
  have HC : ∀ (w1 : World) (r : Int), Calls Try.prog 16 #[.int .u64 7, .int .i64 r, .slice (some ⟨w1.heap.size, 0, none⟩) 6 6] (w1.alloc (.cells #[.int .u64 5, .int .u64 5, .int .u64 9, .int .u64 1, .int .u64 4, .int .u64 9] 22)) (UOPost (w1.alloc (.cells #[.int .u64 5, .int .u64 5, .int .u64 9, .int .u64 1, .int .u64 4, .int .u64 9] 22)) (allF 7 r al12)) :=
    fun w1 r => all_any 7 r (some ⟨w1.heap.size, 0, none⟩) 6 al12 _ (up_lit w1 al12 (by decide)) (by decide)
  have C1 := HC w 3
  rw [al12_a] at C1
  have C1 := Lib.hid C1
  have HB1 := Lib.hid h1
  have HC2 : Hid (∀ w1 : World, Calls Try.prog 16 #[.int .u64 7, .int .i64 9, .slice (some ⟨w1.heap.size, 0, none⟩) 6 6] (w1.alloc (.cells #[.int .u64 5, .int .u64 5, .int .u64 9, .int .u64 1, .int .u64 4, .int .u64 9] 22)) (UOPost (w1.alloc (.cells #[.int .u64 5, .int .u64 5, .int .u64 9, .int .u64 1, .int .u64 4, .int .u64 9] 22)) (skL 7 9 al12, 0))) := fun w1 => by
    have := HC w1 9
    rwa [al12_b] at this
  clear HC
  have M0 : Hid (∀ w : World, Calls Try.prog 10 #[.int .u64 0] w fun e w' => e = .returned (.int .u64 0) ∧ w' = w) := fun w => by
    have := mix_any 0 w
    rw [mix_0] at this
    exact this
  have M1 : Hid (∀ w : World, Calls Try.prog 10 #[.int .u64 1] w fun e w' => e = .returned (.int .u64 6238072747940578789) ∧ w' = w) := fun w => by
    have := mix_any 1 w
    rw [mix_1] at this
    exact this
  have h3 := al12_3
  have h4 := al12_4
  have ht := Lib.hid al12_t
  clear h1
  generalize skL 7 3 al12 = l3 at *
  generalize skL 7 9 al12 = l4 at *
  go_enter Try.func22, Try.ntmps22
  go_wp2_with fail
  refine C1.out.mono ?_
  rintro e w1 ⟨v, rfl, hO, hb⟩
  obtain ⟨R, cr, rfl, hU⟩ := hO.up
  dsimp only at hU ⊢
  rw [h3]
  have HB : Hid (Below w.heap.size w w1) := HB1.out.trans (hb.mono HB1.out.size)
  have HU := Lib.hid hU
  clear hO hU hb C1 HB1
  go_wp2_with fail
  refine (HC2.out w1).mono ?_
  rintro e w2 ⟨v, rfl, hO, hb⟩
  obtain ⟨R2, cr2, rfl, hU2⟩ := hO.up
  dsimp only at hU2 ⊢
  rw [h4]
  have hb2 : Below w1.heap.size w1 w2 := ((Below.refl _ w1).alloc (Nat.le_refl _) _).trans (hb.mono (by simp))
  have HB2 : Hid (Below w.heap.size w w2) := HB.out.trans (hb2.mono HB.out.size)
  have HU3 := Lib.hid (HU.out.later hb2)
  have HT3 := Lib.hid (hU2.ul.take 3)
  have hc3 := HU3.out.cap
  have hc4 := hU2.cap
  have hl4 := hU2.le
  have C := Lib.hid (uequal_any R R2 cr cr2 l3 (l4.take 3) w2 HU3.out.ul HT3.out (by omega) (by rw [List.length_take]; omega))
  rw [ht.out, h3] at C
  simp only [decide_true] at C
  clear hO hU2 hb hb2 HB HU HC2
  go_wp2_with fail
  refine C.out.mono ?_
  rintro e w3 ⟨rfl, hb⟩
  have HB3 := Lib.hid (HB2.out.trans (hb.mono HB2.out.size))
  clear hb C HB2 HU3 HT3
  go_wp2_with fail
  refine (M0.out _).mono ?_
  rintro e w4 ⟨rfl, rfl⟩
  go_wp2_with fail
  refine (M1.out _).mono ?_
  rintro e w4 ⟨rfl, rfl⟩
  go_wp2
  go_ret
  exact ⟨rfl, HB3.out⟩
end Go.Proofs.Ytnihcpaakbhpcaa
