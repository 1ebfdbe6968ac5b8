/- lotdrawerkeep.alive3. -/
import Derived.Test.YtkfpomeemcmfmaaC3
import Derived.Test.YtkfpomeemcmfmaaBi
namespace Go.Proofs.Ytkfpomeemcmfmaa
open Go.RowKit Go.Deep

theorem cval1 : toss (bitsOf 2 3) 1 3 = (false, 0, 7) := by decide +kernel
theorem cval2 : toss (bitsOf 7 4) 1 3 = (false, 3, 0) := by decide +kernel
theorem cval3 : turn (bitsOf 6 3) 1 2 = (3, 3, 0) := by decide +kernel
theorem cval4 : off (bitsOf 2 2) [1, 1] = (1, 1, 0) := by decide +kernel

set_option maxRecDepth 100000 in
set_option maxHeartbeats 2000000 in
theorem alive3_any (w : World) :
    Calls Try.prog 17 #[] w fun e w' => e = .returned (.bool true) ∧ Below w.heap.size w w' := by
  have C1 := Lib.hid (bits_any 2 3 w (by omega) (by omega))
  go_enter Try.func17, Try.ntmps17
  go_wp2_with fail
  refine C1.out.mono ?_
  rintro e w1 ⟨rfl, hB1, hb1⟩
  have C2 := Lib.hid (toss_any _ _ _ 1 3 _ (bits_tp (by omega) hB1))
  rw [cval1, bitsOf_len] at C2
  unfold ftup frac at C2
  have HB1 := Lib.hid hb1
  clear hB1 hb1 C1
  go_wp2_with fail
  refine C2.out.mono ?_
  rintro e w2 ⟨rfl, hb2⟩
  have HB2 : Hid (Below w.heap.size w w2) := HB1.out.trans (hb2.mono HB1.out.size)
  clear C2 HB1 hb2
  have C3 := Lib.hid (bits_any 7 4 w2 (by omega) (by omega))
  go_wp2_with fail
  refine C3.out.mono ?_
  rintro e w3 ⟨rfl, hB3, hb3⟩
  have C4 := Lib.hid (toss_any _ _ _ 1 3 _ (bits_tp (by omega) hB3))
  rw [cval2, bitsOf_len] at C4
  unfold ftup frac at C4
  have HB3 : Hid (Below w.heap.size w w3) := HB2.out.trans (hb3.mono HB2.out.size)
  clear hB3 hb3 C3 HB2
  go_wp2_with fail
  refine C4.out.mono ?_
  rintro e w4 ⟨rfl, hb4⟩
  have HB4 : Hid (Below w.heap.size w w4) := HB3.out.trans (hb4.mono HB3.out.size)
  clear hb4 C4 HB3
  have C5 := Lib.hid (bits_any 6 3 w4 (by omega) (by omega))
  go_wp2_with fail
  refine C5.out.mono ?_
  rintro e w5 ⟨rfl, hB5, hb5⟩
  have C6 := Lib.hid (turn_any _ _ _ 1 2 _ (bits_tp (by omega) hB5))
  rw [cval3, bitsOf_len] at C6
  unfold tup frac at C6
  have HB5 : Hid (Below w.heap.size w w5) := HB4.out.trans (hb5.mono HB4.out.size)
  clear hB5 hb5 C5 HB4
  go_wp2_with fail
  refine C6.out.mono ?_
  rintro e w6 ⟨rfl, hb6⟩
  have HB6 : Hid (Below w.heap.size w w6) := HB5.out.trans (hb6.mono HB5.out.size)
  clear hb6 C6 HB5
  have C7 := Lib.hid (bits_any 2 2 w6 (by omega) (by omega))
  go_wp2_with fail
  refine C7.out.mono ?_
  rintro e w7 ⟨rfl, hB7, hb7⟩
  have HB7 : Hid (Below w.heap.size w w7) := HB6.out.trans (hb7.mono HB6.out.size)
  have hal : Below w7.heap.size w7 (w7.alloc (.cells #[.int .i64 1, .int .i64 1] 3)) := (Below.refl _ _).alloc (Nat.le_refl _) _
  have C8 := Lib.hid (of_any _ (some ⟨w7.heap.size, 0, none⟩) _ 2 _ [1, 1] _ ((bits_tp (by omega) hB7).later hal) (ip_new w7 [1, 1] (by simp)))
  rw [cval4, bitsOf_len] at C8
  unfold tup at C8
  have HB8 : Hid (Below w.heap.size w (w7.alloc (.cells #[.int .i64 1, .int .i64 1] 3))) := HB7.out.trans (hal.mono HB7.out.size)
  clear hal hB7 hb7 C7 HB6 HB7
  go_wp2_with fail
  refine C8.out.mono ?_
  rintro e w9 ⟨rfl, hb9⟩
  have HB9 : Hid (Below w.heap.size w w9) := HB8.out.trans (hb9.mono HB8.out.size)
  clear hb9 HB8 C8
  go_wp2
  go_ret
  exact ⟨rfl, HB9.out⟩
end Go.Proofs.Ytkfpomeemcmfmaa
