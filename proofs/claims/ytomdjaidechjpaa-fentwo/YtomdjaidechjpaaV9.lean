/- lotdrawerkeep.alive9. -/
import Derived.Test.YtomdjaidechjpaaV3
import Derived.Test.YtomdjaidechjpaaV6
import Derived.Test.YtomdjaidechjpaaV7
import Derived.Test.YtomdjaidechjpaaT5
namespace Go.Proofs.Ytomdjaidechjpaa
open Go.RowKit Go.Deep

theorem wf_alive : WF [2, 0, 3] := ⟨by decide, by decide⟩
theorem sums_alive : sumsC [2, 0, 3] = ([0, 2, 2, 5], 0) := by rw [sumsC_ok wf_alive]; decide +kernel
theorem pick_alive : pickC [2, 0, 3] 2 = (2, 0) := by rw [pickC_ok wf_alive]; decide +kernel
theorem draw_alive : drawC [2, 0, 3] [2, 1] = ([2, 0], 0) := by rw [drawC_ok wf_alive]; decide +kernel

theorem ip_lit2 (w : World) (o : Obj) (l : List Int) (hl : l.length ≤ 1000) : IP ((w.alloc o).alloc (.cells (ivs l).toArray 3)) (some ⟨w.heap.size + 1, 0, none⟩) l.length l := by
  have := ip_lit (w.alloc o) l hl
  rw [show (w.alloc o).heap.size = w.heap.size + 1 by simp] at this
  exact this
theorem ip_lit3 (w : World) (o o2 : Obj) (l : List Int) (hl : l.length ≤ 1000) : IP (((w.alloc o).alloc o2).alloc (.cells (ivs l).toArray 3)) (some ⟨w.heap.size + 1 + 1, 0, none⟩) l.length l := by
  have := ip_lit ((w.alloc o).alloc o2) l hl
  rw [show ((w.alloc o).alloc o2).heap.size = w.heap.size + 1 + 1 by simp] at this
  exact this

set_option maxRecDepth 100000 in
set_option maxHeartbeats 2000000 in
theorem alive9_any (w : World) : Calls Try.prog 15 #[] w fun e w' => e = .returned (.bool true) ∧ Below w.heap.size w w' := by
  have h1 : Below w.heap.size w (w.alloc (.cells #[.int .i64 2, .int .i64 0, .int .i64 3] 3)) := (Below.refl _ _).alloc (Nat.le_refl _) _
  have C1 := Lib.hid (sumsC_any (some ⟨w.heap.size, 0, none⟩) 3 [2, 0, 3] _ (ip_lit w [2, 0, 3] (by simp)))
  rw [sums_alive] at C1
  have HB1 := Lib.hid h1
  clear h1
  go_enter Try.func15, Try.ntmps15
  go_wp2_with fail
  refine C1.out.mono ?_
  rintro e w1 ⟨R, ca, rfl, hA, hb⟩
  unfold ltup
  have HB : Hid (Below w.heap.size w w1) := HB1.out.trans (hb.mono HB1.out.size)
  have HA := Lib.hid hA
  have C2 := Lib.hid (pickC_any (some ⟨w1.heap.size, 0, none⟩) 3 [2, 0, 3] 2 _ (ip_lit w1 [2, 0, 3] (by simp)) (by decide))
  have h2 : Below w1.heap.size w1 (w1.alloc (.cells #[.int .i64 2, .int .i64 0, .int .i64 3] 3)) := (Below.refl _ _).alloc (Nat.le_refl _) _
  have HB2 := Lib.hid (HB.out.trans (h2.mono HB.out.size))
  have HA2 := Lib.hid (HA.out.later h2)
  rw [pick_alive] at C2
  unfold ptup at C2
  clear hA hb C1 HB1 h2 HB HA
  go_wp2_with fail
  refine C2.out.mono ?_
  rintro e w2 ⟨rfl, rfl⟩
  clear C2
  have h3 : Below (w1.alloc (.cells #[.int .i64 2, .int .i64 0, .int .i64 3] 3)).heap.size (w1.alloc (.cells #[.int .i64 2, .int .i64 0, .int .i64 3] 3)) ((w1.alloc (.cells #[.int .i64 2, .int .i64 0, .int .i64 3] 3)).alloc (.cells #[.int .i64 2, .int .i64 0, .int .i64 3] 3)) := (Below.refl _ _).alloc (Nat.le_refl _) _
  have i3 := ip_lit2 w1 (.cells #[.int .i64 2, .int .i64 0, .int .i64 3] 3) [2, 0, 3] (by simp)
  have h4 : Below ((w1.alloc (.cells #[.int .i64 2, .int .i64 0, .int .i64 3] 3)).alloc (.cells #[.int .i64 2, .int .i64 0, .int .i64 3] 3)).heap.size ((w1.alloc (.cells #[.int .i64 2, .int .i64 0, .int .i64 3] 3)).alloc (.cells #[.int .i64 2, .int .i64 0, .int .i64 3] 3)) (((w1.alloc (.cells #[.int .i64 2, .int .i64 0, .int .i64 3] 3)).alloc (.cells #[.int .i64 2, .int .i64 0, .int .i64 3] 3)).alloc (.cells #[.int .i64 2, .int .i64 1] 3)) := (Below.refl _ _).alloc (Nat.le_refl _) _
  have i4 := ip_lit3 w1 (.cells #[.int .i64 2, .int .i64 0, .int .i64 3] 3) (.cells #[.int .i64 2, .int .i64 0, .int .i64 3] 3) [2, 1] (by simp)
  have C3 := Lib.hid (drawC_any (some ⟨w1.heap.size + 1, 0, none⟩) (some ⟨w1.heap.size + 1 + 1, 0, none⟩) 3 2 [2, 0, 3] [2, 1] _ (i3.later h4) i4 (by decide) (by decide))
  rw [draw_alive] at C3
  have h34 := h3.trans (h4.mono h3.size)
  have HB4 := Lib.hid (HB2.out.trans (h34.mono HB2.out.size))
  have HA4 := Lib.hid (HA2.out.later h34)
  clear h3 h4 i3 i4 h34 HB2 HA2
  go_wp2_with fail
  refine C3.out.mono ?_
  rintro e w3 ⟨R2, c2, rfl, hA, hb⟩
  unfold ltup
  have HB3 := Lib.hid (HB4.out.trans (hb.mono HB4.out.size))
  have HA3 := Lib.hid (HA4.out.later hb)
  have HD3 := Lib.hid hA
  clear hA hb HB4 HA4 C3
  have h5 : Below w3.heap.size w3 (w3.alloc (.cells #[.int .i64 0, .int .i64 2, .int .i64 2, .int .i64 5] 3)) := (Below.refl _ _).alloc (Nat.le_refl _) _
  have C4 := Lib.hid (iequal_any R (some ⟨w3.heap.size, 0, none⟩) ca 4 [0, 2, 2, 5] [0, 2, 2, 5] _ (HA3.out.later h5).il (ip_lit w3 [0, 2, 2, 5] (by simp)).il (by simp) (by simp))
  simp only [decide_true] at C4
  have HB5 := Lib.hid (HB3.out.trans (h5.mono HB3.out.size))
  have HD5 := Lib.hid (HD3.out.later h5)
  clear h5 HB3 HA3 HD3
  go_wp2_with fail
  refine C4.out.mono ?_
  rintro e w4 ⟨rfl, hb⟩
  have HB6 := Lib.hid (HB5.out.trans (hb.mono HB5.out.size))
  have HD6 := Lib.hid (HD5.out.later hb)
  clear hb C4 HB5 HD5
  have h7 : Below w4.heap.size w4 (w4.alloc (.cells #[.int .i64 2, .int .i64 0] 3)) := (Below.refl _ _).alloc (Nat.le_refl _) _
  have C5 := Lib.hid (iequal_any R2 (some ⟨w4.heap.size, 0, none⟩) c2 2 [2, 0] [2, 0] _ (HD6.out.later h7).il (ip_lit w4 [2, 0] (by simp)).il (by simp) (by simp))
  simp only [decide_true] at C5
  have HB7 := Lib.hid (HB6.out.trans (h7.mono HB6.out.size))
  clear h7 HB6 HD6
  go_wp2_with fail
  refine C5.out.mono ?_
  rintro e w5 ⟨rfl, hb⟩
  have HB8 := Lib.hid (HB7.out.trans (hb.mono HB7.out.size))
  clear hb C5 HB7
  go_wp2
  go_ret
  exact ⟨rfl, HB8.out⟩
end Go.Proofs.Ytomdjaidechjpaa
