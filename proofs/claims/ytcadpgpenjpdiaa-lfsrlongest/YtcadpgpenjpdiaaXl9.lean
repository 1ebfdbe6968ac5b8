/- lotdrawerkeep.alive14. -/
import Derived.Test.YtcadpgpenjpdiaaXl7
import Derived.Test.YtcadpgpenjpdiaaXl8
import Derived.Test.YtcadpgpenjpdiaaT5b
namespace Go.Proofs.Ytcadpgpenjpdiaa
open Go.RowKit Go.Deep

theorem nr_12 : NR 4 12 := ⟨by decide, by decide, by decide, by decide⟩
theorem nr_6 : NR 3 6 := ⟨by decide, by decide, by decide, by decide⟩
theorem al14_s : nst 4 12 8 = 1 := by decide +kernel
theorem al14_p : per 4 12 1 = 15 := by decide +kernel
theorem al14_r : rowN 3 6 1 7 = [false, false, true, false, true, true, true] := by decide +kernel
theorem al14_j : nit 4 12 15 1 = 1 := by decide +kernel
theorem tp_litL (w : World) (l : List Bool) (hl : l.length ≤ 1000) : TP (w.alloc (.cells (bvs l).toArray 4)) (some ⟨w.heap.size, 0, none⟩) l.length l :=
  ⟨Bs.vs (T := 4) (heap_alloc_new w _), Nat.le_refl _, by omega, by omega, fun h => by cases h⟩
theorem TP.laterL {w w' : World} {A : Option Addr} {ca : Nat} {t : List Bool} (h : TP w A ca t) (hb : Below w.heap.size w w') : TP w' A ca t := ⟨h.tp.later hb, h.le, h.cap, h.short, h.none⟩

set_option maxRecDepth 100000 in
set_option maxHeartbeats 2000000 in
theorem alive14_any (w : World) : Calls Try.prog 18 #[] w fun e w' => e = .returned (.bool true) ∧ Below w.heap.size w w' := by
  have C1 : Hid (∀ w : World, Calls Try.prog 9 #[.int .i64 4, .int .u32 12, .int .u32 8] w fun e w' => e = .returned (.tuple #[.int .u32 1, .int .i64 0]) ∧ Below w.heap.size w w') := fun w => by
    have := step_ok nr_12 (x := 8) (by decide) w
    rw [al14_s] at this
    exact this
  have C2 : Hid (∀ w : World, Calls Try.prog 15 #[.int .i64 4, .int .u32 12, .int .u32 1] w fun e w' => e = .returned (.tuple #[.int .i64 15, .int .i64 0]) ∧ Below w.heap.size w w') := fun w => by
    have := per_ok nr_12 (x := 1) (by decide) w
    rw [al14_p] at this
    exact this
  have C3 : Hid (∀ w : World, Calls Try.prog 11 #[.int .i64 3, .int .u32 6, .int .u32 1, .int .i64 7] w fun e w' => ∃ (R : Option Addr) (cr : Nat), e = .returned (.tuple #[.slice R 7 cr, .int .i64 0]) ∧ TP w' R cr [false, false, true, false, true, true, true] ∧ Below w.heap.size w w') := fun w => by
    have := row_ok nr_6 (x := 1) (by decide) 7 (by decide) w
    rw [al14_r] at this
    exact this
  have C4 : Hid (∀ w : World, Calls Try.prog 16 #[.int .i64 4, .int .u32 12, .int .u32 1, .int .i64 15] w fun e w' => e = .returned (.tuple #[.int .u32 1, .int .i64 0]) ∧ Below w.heap.size w w') := fun w => by
    have := jump_ok nr_12 (x := 1) (by decide) 15 (by decide) w
    rw [al14_j] at this
    exact this
  go_enter Try.func18, Try.ntmps18
  go_wp2_with fail
  refine (C1.out _).mono ?_
  rintro e w1 ⟨rfl, hb1⟩
  go_wp2_with fail
  refine (C2.out _).mono ?_
  rintro e w2 ⟨rfl, hb2⟩
  have HB2 := Lib.hid (hb1.trans (hb2.mono hb1.size))
  clear hb1 hb2
  go_wp2_with fail
  refine (C3.out _).mono ?_
  rintro e w3 ⟨R, cr, rfl, hT, hb3⟩
  have HT := Lib.hid hT
  have HB3 := Lib.hid (HB2.out.trans (hb3.mono HB2.out.size))
  clear hT hb3 HB2
  go_wp2_with fail
  refine (C4.out _).mono ?_
  rintro e w4 ⟨rfl, hb4⟩
  have HT4 := Lib.hid (HT.out.laterL hb4)
  have HB4 := Lib.hid (HB3.out.trans (hb4.mono HB3.out.size))
  clear hb4 HT HB3
  have h7 : Below w4.heap.size w4 (w4.alloc (.cells #[.bool false, .bool false, .bool true, .bool false, .bool true, .bool true, .bool true] 4)) := (Below.refl _ _).alloc (Nat.le_refl _) _
  have C5 := Lib.hid (bequal_any R (some ⟨w4.heap.size, 0, none⟩) cr 7 [false, false, true, false, true, true, true] [false, false, true, false, true, true, true] _ (HT4.out.laterL h7).tp (tp_litL w4 [false, false, true, false, true, true, true] (by simp)).tp (by simp) (by simp))
  simp only [decide_true] at C5
  have HB5 := Lib.hid (HB4.out.trans (h7.mono HB4.out.size))
  clear h7 HT4 HB4
  go_wp2_with fail
  refine C5.out.mono ?_
  rintro e w5 ⟨rfl, hb⟩
  have HB6 := Lib.hid (HB5.out.trans (hb.mono HB5.out.size))
  clear hb C5 HB5
  go_wp2
  go_ret
  exact ⟨rfl, HB6.out⟩
end Go.Proofs.Ytcadpgpenjpdiaa
