/- lotdrawerkeep.alive16. -/
import Derived.Test.YtclfimpcacoefaaMo3
import Derived.Test.YtclfimpcacoefaaMo4
import Derived.Test.YtclfimpcacoefaaMo5
import Derived.Test.YtclfimpcacoefaaIlt
namespace Go.Proofs.Ytclfimpcacoefaa
open Go.RowKit Go.Deep

theorem al16_of : ofT [1, 2, 6] = .tuple #[.agg #[.int .i64 3, .int .i64 9, .int .i64 41], .int .i64 0] := by
  have h : okl [1, 2, 6] := by decide
  rw [ofT_ok h]; rfl
theorem al16_sp : sprT 3 9 41 = .tuple #[.int .i64 42, .int .i64 0] := by
  have h : RtM 3 9 41 := by decide
  rw [sprT_ok h]; rfl
theorem al16_im : imsort [9, 1, 4, 2] = [1, 2, 4, 9] := (imsort_only (L := [1, 2, 4, 9]) (by decide) (by decide)).symm
theorem al16_med : medT [9, 1, 4, 2] = .tuple #[.int .i64 6, .int .i64 0] := by
  have h : okl [9, 1, 4, 2] := by decide
  rw [medT_ok h (by decide), al16_im]; rfl
theorem al16_both : bothT [1, 2] [5, 9] = .tuple #[.int .i64 4, .int .i64 0] := by
  have h : okl [1, 2] := by decide
  have h' : okl [5, 9] := by decide
  rw [bothT_ok h h' rfl]; rfl

set_option maxRecDepth 100000 in
set_option maxHeartbeats 2000000 in
theorem alive16_any (w : World) : Calls Try.prog 20 #[] w fun e w' => e = .returned (.bool true) ∧ Below w.heap.size w w' := by
  have HB0 : Hid (Below w.heap.size w (w.alloc (.cells #[.int .i64 1, .int .i64 2, .int .i64 6] 3))) := (Below.refl _ _).alloc (Nat.le_refl _) _
  have C1 := of_any _ 3 [1, 2, 6] _ (ip_lit w [1, 2, 6] (by decide))
  rw [al16_of] at C1
  have C1 : Hid (Calls Try.prog 10 #[.slice (some ⟨w.heap.size, 0, none⟩) 3 3] (w.alloc (.cells #[.int .i64 1, .int .i64 2, .int .i64 6] 3)) fun e w' => e = .returned (.tuple #[.agg #[.int .i64 3, .int .i64 9, .int .i64 41], .int .i64 0]) ∧ Below (w.alloc (.cells #[.int .i64 1, .int .i64 2, .int .i64 6] 3)).heap.size (w.alloc (.cells #[.int .i64 1, .int .i64 2, .int .i64 6] 3)) w') := C1
  go_enter Try.func20, Try.ntmps20
  go_wp2_with fail
  refine C1.out.mono ?_
  rintro e w1 ⟨rfl, hb⟩
  have hB1 := HB0.out.trans (hb.mono HB0.out.size)
  obtain ⟨w2, hw2⟩ : ∃ w2, w2 = w1.alloc (.cells #[.int .i64 3, .int .i64 9, .int .i64 41] 24) := ⟨_, rfl⟩
  have HM2 : Hid (MB w2 w1.heap.size 3 9 41) := by rw [hw2]; exact mb_new _ _ _ _
  have HB2 : Hid (Below w.heap.size w w2) := by rw [hw2]; exact hB1.alloc hB1.size _
  have C2 := Lib.hid (spread_any 3 9 41 w2)
  rw [al16_sp] at C2
  obtain ⟨gm, hgm⟩ : ∃ gm, gm = w1.heap.size := ⟨_, rfl⟩
  subst hw2
  clear C1 HB0 hb hB1
  go_wp2_with fail
  refine C2.out.mono ?_
  rintro e w3 ⟨rfl, hb⟩
  have HM3 := Lib.hid (HM2.out.later hb)
  have HB3 := Lib.hid (HB2.out.trans (hb.mono HB2.out.size))
  rw [← hgm] at HM3 ⊢
  clear hb C2 HM2 HB2 hgm
  have C3 := median_any _ 4 [9, 1, 4, 2] _ (ip_lit w3 [9, 1, 4, 2] (by decide))
  rw [al16_med] at C3
  have C3 : Hid (Calls Try.prog 16 #[.slice (some ⟨w3.heap.size, 0, none⟩) 4 4] (w3.alloc (.cells #[.int .i64 9, .int .i64 1, .int .i64 4, .int .i64 2] 3)) fun e w' => e = .returned (.tuple #[.int .i64 6, .int .i64 0]) ∧ Below (w3.alloc (.cells #[.int .i64 9, .int .i64 1, .int .i64 4, .int .i64 2] 3)).heap.size (w3.alloc (.cells #[.int .i64 9, .int .i64 1, .int .i64 4, .int .i64 2] 3)) w') := C3
  go_wp2_with fail
  refine C3.out.mono ?_
  rintro e w4 ⟨rfl, hb⟩
  have hal : Below w3.heap.size w3 (w3.alloc (.cells #[.int .i64 9, .int .i64 1, .int .i64 4, .int .i64 2] 3)) := (Below.refl _ _).alloc (Nat.le_refl _) _
  have hbb := hal.trans (hb.mono hal.size)
  have HM4 := Lib.hid (HM3.out.later hbb)
  have HB4 := Lib.hid (HB3.out.trans (hbb.mono HB3.out.size))
  clear hb hal hbb C3 HM3 HB3
  have C5 := both_any _ _ 2 2 [1, 2] [5, 9] _ ((ip_lit w4 [1, 2] (by decide)).later ((Below.refl _ _).alloc (Nat.le_refl _) (.cells (ivs [5, 9]).toArray 3))) (ip_lit2 w4 _ [5, 9] (by decide))
  rw [al16_both] at C5
  have C5 : Hid (Calls Try.prog 17 #[.slice (some ⟨w4.heap.size, 0, none⟩) 2 2, .slice (some ⟨w4.heap.size + 1, 0, none⟩) 2 2] ((w4.alloc (.cells #[.int .i64 1, .int .i64 2] 3)).alloc (.cells #[.int .i64 5, .int .i64 9] 3)) fun e w' => e = .returned (.tuple #[.int .i64 4, .int .i64 0]) ∧ Below ((w4.alloc (.cells #[.int .i64 1, .int .i64 2] 3)).alloc (.cells #[.int .i64 5, .int .i64 9] 3)).heap.size ((w4.alloc (.cells #[.int .i64 1, .int .i64 2] 3)).alloc (.cells #[.int .i64 5, .int .i64 9] 3)) w') := C5
  go_wp2_with fail
  refine C5.out.mono ?_
  rintro e w5 ⟨rfl, hb⟩
  have hal : Below w4.heap.size w4 ((w4.alloc (.cells #[.int .i64 1, .int .i64 2] 3)).alloc (.cells #[.int .i64 5, .int .i64 9] 3)) := ((Below.refl _ _).alloc (Nat.le_refl _) _).alloc (by simp) _
  have hbb := hal.trans (hb.mono hal.size)
  have HM5 := Lib.hid (HM4.out.later hbb)
  have HB5 := Lib.hid (HB4.out.trans (hbb.mono HB4.out.size))
  have c0 := HM5.out.c0
  have c1 := HM5.out.c1
  have c2 := HM5.out.c2
  clear hb hal hbb C5 HM4 HB4
  go_wp2
  go_ret
  exact ⟨rfl, HB5.out⟩
end Go.Proofs.Ytclfimpcacoefaa
