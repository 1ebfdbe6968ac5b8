/- lotdrawerkeep.alive11. -/
import Derived.Test.YtkcgcojhgcfgmaaL5
import Derived.Test.YtkcgcojhgcfgmaaL6
import Derived.Test.YtkcgcojhgcfgmaaT5b
namespace Go.Proofs.Ytkcgcojhgcfgmaa
open Go.RowKit Go.Deep

theorem wd_alive : WD [1, 9, 2, 3] 2 := ⟨by decide, by decide, by decide, by decide⟩
theorem wd_alive2 : WD [1, 9, 2] 2 := ⟨by decide, by decide, by decide, by decide⟩
theorem dsc_alive : dsc [1, 9, 2, 3] = [9, 3, 2, 1] := (dsc_only (by decide) (by decide)).symm
theorem dsc_alive2 : dsc [1, 9, 2] = [9, 2, 1] := (dsc_only (by decide) (by decide)).symm
theorem levF_alive : levF [1, 9, 2, 3] 2 = (6, 1) := by rw [levF_more (by decide), dsc_alive]; decide
theorem levF_alive2 : levF [1, 9, 2] 2 = (3, 1) := by rw [levF_more (by decide), dsc_alive2]; decide
theorem lev_alive : levC [1, 9, 2, 3] 2 = ((6, 1), 0) := by rw [levC_ok wd_alive, levF_alive]
theorem hv_alive : hvC [1, 9, 2, 3] 2 = ([false, true, false, false], 0) := by rw [hvC_ok wd_alive levF_alive]; decide
theorem one_alive : oneC [1, 9, 2] 2 = (2, 0) := by rw [oneC_ok (W := [1, 9, 2]) wd_alive2 levF_alive2]; decide +kernel
theorem tp_lit (w : World) (l : List Bool) (hl : l.length ≤ 1000) : TP (w.alloc (.cells (bvs l).toArray 4)) (some ⟨w.heap.size, 0, none⟩) l.length l :=
  ⟨Bs.vs (T := 4) (heap_alloc_new w _), Nat.le_refl _, by omega, by omega, fun h => by cases h⟩
theorem TP.laterB {w w' : World} {A : Option Addr} {ca : Nat} {t : List Bool} (h : TP w A ca t) (hb : Below w.heap.size w w') : TP w' A ca t := ⟨h.tp.later hb, h.le, h.cap, h.short, h.none⟩

set_option maxRecDepth 100000 in
set_option maxHeartbeats 2000000 in
theorem alive11_any (w : World) : Calls Try.prog 16 #[] w fun e w' => e = .returned (.bool true) ∧ Below w.heap.size w w' := by
  have h1 : Below w.heap.size w (w.alloc (.cells #[.int .i64 1, .int .i64 9, .int .i64 2, .int .i64 3] 3)) := (Below.refl _ _).alloc (Nat.le_refl _) _
  have C1 := Lib.hid (level_any (some ⟨w.heap.size, 0, none⟩) 4 [1, 9, 2, 3] 2 _ (ip_lit w [1, 9, 2, 3] (by simp)))
  rw [lev_alive] at C1
  unfold lvtup fval at C1
  have HB1 := Lib.hid h1
  clear h1
  go_enter Try.func16, Try.ntmps16
  go_wp2_with fail
  refine C1.out.mono ?_
  rintro e w1 ⟨rfl, hb⟩
  have HB : Hid (Below w.heap.size w w1) := HB1.out.trans (hb.mono HB1.out.size)
  have HF := Lib.hid (fb_new w1 6 1)
  obtain ⟨w2, hw2⟩ : ∃ w2, w1.alloc (.cells #[.int .i64 6, .int .i64 1] 24) = w2 := ⟨_, rfl⟩
  have hb2 : Below w1.heap.size w1 w2 := by rw [← hw2]; exact (Below.refl _ _).alloc (Nat.le_refl _) _
  rw [hw2] at HF
  have HB2 := Lib.hid (HB.out.trans (hb2.mono HB.out.size))
  have h3 : Below w2.heap.size w2 (w2.alloc (.cells #[.int .i64 1, .int .i64 9, .int .i64 2, .int .i64 3] 3)) := (Below.refl _ _).alloc (Nat.le_refl _) _
  have C2 := Lib.hid (heavy_any (some ⟨w2.heap.size, 0, none⟩) 4 [1, 9, 2, 3] 2 _ (ip_lit w2 [1, 9, 2, 3] (by simp)))
  rw [hv_alive] at C2
  have HB3 := Lib.hid (HB2.out.trans (h3.mono HB2.out.size))
  have HF3 : Hid (FB (w2.alloc (.cells #[.int .i64 1, .int .i64 9, .int .i64 2, .int .i64 3] 3)) w1.heap.size 6 1) := HF.out.below h3 HF.out.lt
  clear hb hb2 C1 HB1 HB h3 HB2 HF
  go_wp2_with fail
  refine C2.out.mono ?_
  rintro e w3 ⟨R, cr, rfl, hT, hb⟩
  dsimp only [List.length_cons, List.length_nil] at hT ⊢
  have HT := Lib.hid hT
  have HB4 := Lib.hid (HB3.out.trans (hb.mono HB3.out.size))
  have HF4 : Hid (FB w3 w1.heap.size 6 1) := HF3.out.below hb HF3.out.lt
  have h5 : Below w3.heap.size w3 (w3.alloc (.cells #[.int .i64 1, .int .i64 9, .int .i64 2] 3)) := (Below.refl _ _).alloc (Nat.le_refl _) _
  have C3 := Lib.hid (one_any (some ⟨w3.heap.size, 0, none⟩) 3 [1, 9, 2] 2 _ (ip_lit w3 [1, 9, 2] (by simp)) (by decide))
  rw [one_alive] at C3
  unfold ptup at C3
  have HB5 := Lib.hid (HB4.out.trans (h5.mono HB4.out.size))
  have HT5 := Lib.hid (HT.out.laterB h5)
  have HF5 : Hid (FB (w3.alloc (.cells #[.int .i64 1, .int .i64 9, .int .i64 2] 3)) w1.heap.size 6 1) := HF4.out.below h5 HF4.out.lt
  clear hT hb C2 HB3 HF3 h5 HT HB4 HF4
  go_wp2_with fail
  refine C3.out.mono ?_
  rintro e w4 ⟨rfl, hb⟩
  have HB6 := Lib.hid (HB5.out.trans (hb.mono HB5.out.size))
  have HT6 := Lib.hid (HT5.out.laterB hb)
  have hF6 : FB w4 w1.heap.size 6 1 := HF5.out.below hb HF5.out.lt
  have c0 := hF6.c0
  have c1 := hF6.c1
  have h7 : Below w4.heap.size w4 (w4.alloc (.cells #[.bool false, .bool true, .bool false, .bool false] 4)) := (Below.refl _ _).alloc (Nat.le_refl _) _
  have C4 := Lib.hid (bequal_any R (some ⟨w4.heap.size, 0, none⟩) cr 4 [false, true, false, false] [false, true, false, false] _ (HT6.out.laterB h7).tp (tp_lit w4 [false, true, false, false] (by simp)).tp (by simp) (by simp))
  simp only [decide_true] at C4
  have HB7 := Lib.hid (HB6.out.trans (h7.mono HB6.out.size))
  clear hb C3 HB5 HT5 HF5 hF6 h7 HB6 HT6
  go_wp2_with fail
  refine C4.out.mono ?_
  rintro e w5 ⟨rfl, hb⟩
  have HB8 := Lib.hid (HB7.out.trans (hb.mono HB7.out.size))
  clear hb C4 HB7
  go_wp2
  go_ret
  exact ⟨rfl, HB8.out⟩
end Go.Proofs.Ytkcgcojhgcfgmaa
