/- lotdrawerkeep.alive10. -/
import Derived.Test.YthfnnceehhhfkaaY2
import Derived.Test.YthfnnceehhhfkaaIlt
import Derived.Test.YthfnnceehhhfkaaT5
namespace Go.Proofs.Ythfnnceehhhfkaa
open Go.RowKit Go.Deep

theorem wp_alive : WP [1, 4, 1] 2 := ⟨by decide, by decide, by decide, by decide⟩
theorem sumP_alive : sumP [1, 4, 1] 2 = (sumW [1, 4, 1], 0) := by
  unfold sumP; rw [if_pos wp_alive]; exact if_neg (by decide)
theorem take_alive1 : takeP [1, 4, 1] 2 1 = ([0, 1], 0) := by rw [show (2 : Int) = ((2 : Nat) : Int) from rfl, takeP_in sumP_alive (by decide) (by decide)]; decide +kernel
theorem take_alive5 : takeP [1, 4, 1] 2 5 = ([1, 2], 0) := by rw [show (2 : Int) = ((2 : Nat) : Int) from rfl, takeP_in sumP_alive (by decide) (by decide)]; decide +kernel

set_option maxRecDepth 100000 in
set_option maxHeartbeats 2000000 in
theorem alive10_any (w : World) : Calls Try.prog 14 #[] w fun e w' => e = .returned (.bool true) ∧ Below w.heap.size w w' := by
  have h1 : Below w.heap.size w (w.alloc (.cells #[.int .i64 1, .int .i64 4, .int .i64 1] 3)) := (Below.refl _ _).alloc (Nat.le_refl _) _
  have C1 := Lib.hid (take_any (some ⟨w.heap.size, 0, none⟩) 3 [1, 4, 1] 2 1 _ (ip_lit w [1, 4, 1] (by simp)))
  rw [take_alive1] at C1
  have HB1 := Lib.hid h1
  clear h1
  go_enter Try.func14, Try.ntmps14
  go_wp2_with fail
  refine C1.out.mono ?_
  rintro e w1 ⟨R, ca, rfl, hA, hb⟩
  unfold ltup
  have HB : Hid (Below w.heap.size w w1) := HB1.out.trans (hb.mono HB1.out.size)
  have HA := Lib.hid hA
  have C2 := Lib.hid (take_any (some ⟨w1.heap.size, 0, none⟩) 3 [1, 4, 1] 2 5 _ (ip_lit w1 [1, 4, 1] (by simp)))
  rw [take_alive5] at C2
  have h2 : Below w1.heap.size w1 (w1.alloc (.cells #[.int .i64 1, .int .i64 4, .int .i64 1] 3)) := (Below.refl _ _).alloc (Nat.le_refl _) _
  have HB2 := Lib.hid (HB.out.trans (h2.mono HB.out.size))
  have HA2 := Lib.hid (HA.out.later h2)
  clear hA hb C1 HB1 h2 HB HA
  go_wp2_with fail
  refine C2.out.mono ?_
  rintro e w3 ⟨R2, c2, rfl, hA, hb⟩
  unfold ltup
  have HB3 := Lib.hid (HB2.out.trans (hb.mono HB2.out.size))
  have HA3 := Lib.hid (HA2.out.later hb)
  have HD3 := Lib.hid hA
  clear hA hb HB2 HA2 C2
  have h5 : Below w3.heap.size w3 (w3.alloc (.cells #[.int .i64 0, .int .i64 1] 3)) := (Below.refl _ _).alloc (Nat.le_refl _) _
  have C4 := Lib.hid (iequal_any R (some ⟨w3.heap.size, 0, none⟩) ca 2 [0, 1] [0, 1] _ (HA3.out.later h5).il (ip_lit w3 [0, 1] (by simp)).il (by simp) (by simp))
  simp only [decide_true] at C4
  have HB5 := Lib.hid (HB3.out.trans (h5.mono HB3.out.size))
  have HD5 := Lib.hid (HD3.out.later h5)
  clear h5 HB3 HA3 HD3
  go_wp2_with fail
  refine C4.out.mono ?_
  rintro e w4 ⟨rfl, hb⟩
  have HB6 := Lib.hid (HB5.out.trans (hb.mono HB5.out.size))
  have HD6 := Lib.hid (HD5.out.later hb)
  clear hb C4 HB5 HD5
  have h7 : Below w4.heap.size w4 (w4.alloc (.cells #[.int .i64 1, .int .i64 2] 3)) := (Below.refl _ _).alloc (Nat.le_refl _) _
  have C5 := Lib.hid (iequal_any R2 (some ⟨w4.heap.size, 0, none⟩) c2 2 [1, 2] [1, 2] _ (HD6.out.later h7).il (ip_lit w4 [1, 2] (by simp)).il (by simp) (by simp))
  simp only [decide_true] at C5
  have HB7 := Lib.hid (HB6.out.trans (h7.mono HB6.out.size))
  clear h7 HB6 HD6
  go_wp2_with fail
  refine C5.out.mono ?_
  rintro e w5 ⟨rfl, hb⟩
  have HB8 := Lib.hid (HB7.out.trans (hb.mono HB7.out.size))
  clear hb C5 HB7
  go_wp2
  go_ret
  exact ⟨rfl, HB8.out⟩
end Go.Proofs.Ythfnnceehhhfkaa
