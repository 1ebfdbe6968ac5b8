import Derived.Test.YtcfiigodefkncaaXr3
import Derived.Test.YtcfiigodefkncaaXw3
import Derived.Test.YtcfiigodefkncaaMxc
/- lotdrawerref.MSeed. -/
namespace Go.Proofs.Ytcfiigodefkncaa
open Go.RowKit Go.Deep

set_option maxRecDepth 100000 in
set_option maxHeartbeats 4000000 in
theorem mseed_any (n : W64) (w : World) : Calls Try.prog 12 #[.int .u64 (n.toNat : Int)] w fun e w' => e = .returned (mxv (seedX n)) ∧ Below w.heap.size w w' := by
  have a0 := add_w n 11400714819323198485#64 11400714819323198485 rfl
  have b0 : n + 11400714819323198485#64 = n + KI := by rw [show (11400714819323198485#64 : W64) = KI from rfl]
  rw [b0] at a0
  have l0 : IntKind.u64.wrap (1 * 11400714819323198485) = 11400714819323198485 := by decide +kernel
  have m0 : IntKind.u64.wrap 11400714819323198485 = 11400714819323198485 := by decide +kernel
  have C0 := Lib.hid (lmix_any (n + KI))
  have a1 := add_w n 4354685564936845354#64 4354685564936845354 rfl
  have b1 : n + 4354685564936845354#64 = n + KI + KI := by rw [BitVec.add_assoc, show (4354685564936845354#64 : W64) = KI + KI from rfl]
  rw [b1] at a1
  have l1 : IntKind.u64.wrap (2 * 11400714819323198485) = 4354685564936845354 := by decide +kernel
  have m1 : IntKind.u64.wrap 22801429638646396970 = 4354685564936845354 := by decide +kernel
  have C1 := Lib.hid (lmix_any (n + KI + KI))
  have a2 := add_w n 15755400384260043839#64 15755400384260043839 rfl
  have b2 : n + 15755400384260043839#64 = n + KI + KI + KI := by rw [BitVec.add_assoc, BitVec.add_assoc, show (15755400384260043839#64 : W64) = KI + (KI + KI) from rfl]
  rw [b2] at a2
  have l2 : IntKind.u64.wrap (3 * 11400714819323198485) = 15755400384260043839 := by decide +kernel
  have m2 : IntKind.u64.wrap 34202144457969595455 = 15755400384260043839 := by decide +kernel
  have C2 := Lib.hid (lmix_any (n + KI + KI + KI))
  have a3 := add_w n 8709371129873690708#64 8709371129873690708 rfl
  have b3 : n + 8709371129873690708#64 = n + KI + KI + KI + KI := by rw [BitVec.add_assoc, BitVec.add_assoc, BitVec.add_assoc, show (8709371129873690708#64 : W64) = KI + (KI + (KI + KI)) from rfl]
  rw [b3] at a3
  have l3 : IntKind.u64.wrap (4 * 11400714819323198485) = 8709371129873690708 := by decide +kernel
  have m3 : IntKind.u64.wrap 45602859277292793940 = 8709371129873690708 := by decide +kernel
  have C3 := Lib.hid (lmix_any (n + KI + KI + KI + KI))
  clear b0 b1 b2 b3
  have HE : Hid (seedX n = ⟨mix (n + KI), mix (n + KI + KI), mix (n + KI + KI + KI), mix (n + KI + KI + KI + KI)⟩) := rfl
  rw [HE.out]
  clear HE
  generalize n + KI + KI + KI + KI = n3 at *
  generalize n + KI + KI + KI = n2 at *
  generalize n + KI + KI = n1 at *
  generalize n + KI = n0 at *
  generalize mix n0 = y0 at *
  generalize mix n1 = y1 at *
  generalize mix n2 = y2 at *
  generalize mix n3 = y3 at *
  have hR := xb_new w Mx.zero
  have hX := xb_new (w.alloc (.cells #[.int .u64 0, .int .u64 0, .int .u64 0, .int .u64 0] 24)) Mx.zero
  rw [World.size_alloc] at hX
  have HX : Hid (XB ((w.alloc (.cells #[.int .u64 0, .int .u64 0, .int .u64 0, .int .u64 0] 24)).alloc (.cells #[.int .u64 0, .int .u64 0, .int .u64 0, .int .u64 0] 24)) (w.heap.size + 1) Mx.zero) := hX
  have HR : Hid (XB ((w.alloc (.cells #[.int .u64 0, .int .u64 0, .int .u64 0, .int .u64 0] 24)).alloc (.cells #[.int .u64 0, .int .u64 0, .int .u64 0, .int .u64 0] 24)) w.heap.size Mx.zero) := hR.later (bl_new _ _)
  have HB : Hid (Below w.heap.size w ((w.alloc (.cells #[.int .u64 0, .int .u64 0, .int .u64 0, .int .u64 0] 24)).alloc (.cells #[.int .u64 0, .int .u64 0, .int .u64 0, .int .u64 0] 24))) := ((Below.refl _ w).alloc (Nat.le_refl _) _).alloc (by simp) _
  clear hR hX
  unfold mxv
  dsimp only
  go_enter Try.func12, Try.ntmps12
  go_wp2_with fail
  go_loopw [5] (fun iv wr => ((iv = .int .i64 0 ∧ XB wr (w.heap.size + 1) ⟨0#64, 0#64, 0#64, 0#64⟩) ∨ (iv = .int .i64 1 ∧ XB wr (w.heap.size + 1) ⟨y0, 0#64, 0#64, 0#64⟩) ∨ (iv = .int .i64 2 ∧ XB wr (w.heap.size + 1) ⟨y0, y1, 0#64, 0#64⟩) ∨ (iv = .int .i64 3 ∧ XB wr (w.heap.size + 1) ⟨y0, y1, y2, 0#64⟩) ∨ (iv = .int .i64 4 ∧ XB wr (w.heap.size + 1) ⟨y0, y1, y2, y3⟩)) ∧ XB wr w.heap.size Mx.zero ∧ Below w.heap.size w wr) (fun iv _ => 4 - (intOf iv).toNat)
  case atStart => exact ⟨.inl ⟨rfl, HX.out⟩, HR.out, HB.out⟩
  case round =>
    clear HX HR HB
    obtain ⟨hC, hR, hB⟩ := hrel
    have HR := Lib.hid hR
    have HB := Lib.hid hB
    clear hR hB
    rcases hC with ⟨rfl, hX⟩ | ⟨rfl, hX⟩ | ⟨rfl, hX⟩ | ⟨rfl, hX⟩ | ⟨rfl, hX⟩
    · have HX := Lib.hid hX
      clear hX
      go_wp2_with fail
      refine (C0.out _).mono ?_
      rintro e w2 ⟨rfl, hb⟩
      have hX2 := HX.out.later hb
      have hR2 := HR.out.later hb
      have HX2 := Lib.hid (hX2.set0 y0)
      have HR2 := Lib.hid (hR2.otherCell (c := ⟨w.heap.size + 1, 0, none⟩) (by show w.heap.size ≠ w.heap.size + 1; omega) (.int .u64 (y0.toNat : Int)))
      have HB2 := Lib.hid ((HB.out.trans (hb.mono HB.out.size)).setCell (p := ⟨w.heap.size + 1, 0, none⟩) (by show w.heap.size ≤ w.heap.size + 1; omega) (.int .u64 (y0.toNat : Int)))
      have c0 := hX2.c0
      have f0 := hX2.frz 0
      dsimp only at c0 HX2
      clear hX2 hR2 hb
      go_wp2
      go_roundw
      case rel => exact ⟨.inr (.inl ⟨by go_num, HX2.out⟩), HR2.out, HB2.out⟩
      case measure => simp [intOf]
    · have HX := Lib.hid hX
      clear hX
      go_wp2_with fail
      refine (C1.out _).mono ?_
      rintro e w2 ⟨rfl, hb⟩
      have hX2 := HX.out.later hb
      have hR2 := HR.out.later hb
      have HX2 := Lib.hid (hX2.set1 y1)
      have HR2 := Lib.hid (hR2.otherCell (c := ⟨w.heap.size + 1, 1, none⟩) (by show w.heap.size ≠ w.heap.size + 1; omega) (.int .u64 (y1.toNat : Int)))
      have HB2 := Lib.hid ((HB.out.trans (hb.mono HB.out.size)).setCell (p := ⟨w.heap.size + 1, 1, none⟩) (by show w.heap.size ≤ w.heap.size + 1; omega) (.int .u64 (y1.toNat : Int)))
      have c0 := hX2.c1
      have f0 := hX2.frz 1
      dsimp only at c0 HX2
      clear hX2 hR2 hb
      go_wp2
      go_roundw
      case rel => exact ⟨.inr (.inr (.inl ⟨by go_num, HX2.out⟩)), HR2.out, HB2.out⟩
      case measure => simp [intOf]
    · have HX := Lib.hid hX
      clear hX
      go_wp2_with fail
      refine (C2.out _).mono ?_
      rintro e w2 ⟨rfl, hb⟩
      have hX2 := HX.out.later hb
      have hR2 := HR.out.later hb
      have HX2 := Lib.hid (hX2.set2 y2)
      have HR2 := Lib.hid (hR2.otherCell (c := ⟨w.heap.size + 1, 2, none⟩) (by show w.heap.size ≠ w.heap.size + 1; omega) (.int .u64 (y2.toNat : Int)))
      have HB2 := Lib.hid ((HB.out.trans (hb.mono HB.out.size)).setCell (p := ⟨w.heap.size + 1, 2, none⟩) (by show w.heap.size ≤ w.heap.size + 1; omega) (.int .u64 (y2.toNat : Int)))
      have c0 := hX2.c2
      have f0 := hX2.frz 2
      dsimp only at c0 HX2
      clear hX2 hR2 hb
      go_wp2
      go_roundw
      case rel => exact ⟨.inr (.inr (.inr (.inl ⟨by go_num, HX2.out⟩))), HR2.out, HB2.out⟩
      case measure => simp [intOf]
    · have HX := Lib.hid hX
      clear hX
      go_wp2_with fail
      refine (C3.out _).mono ?_
      rintro e w2 ⟨rfl, hb⟩
      have hX2 := HX.out.later hb
      have hR2 := HR.out.later hb
      have HX2 := Lib.hid (hX2.set3 y3)
      have HR2 := Lib.hid (hR2.otherCell (c := ⟨w.heap.size + 1, 3, none⟩) (by show w.heap.size ≠ w.heap.size + 1; omega) (.int .u64 (y3.toNat : Int)))
      have HB2 := Lib.hid ((HB.out.trans (hb.mono HB.out.size)).setCell (p := ⟨w.heap.size + 1, 3, none⟩) (by show w.heap.size ≤ w.heap.size + 1; omega) (.int .u64 (y3.toNat : Int)))
      have c0 := hX2.c3
      have f0 := hX2.frz 3
      dsimp only at c0 HX2
      clear hX2 hR2 hb
      go_wp2
      go_roundw
      case rel => exact ⟨.inr (.inr (.inr (.inr (⟨by go_num, HX2.out⟩)))), HR2.out, HB2.out⟩
      case measure => simp [intOf]
    · obtain ⟨c0, c1, c2, c3⟩ := hX.four
      obtain ⟨r0, r1, r2, r3⟩ := HR.out.four
      have f0 := HR.out.frz 0
      have f1 := HR.out.frz 1
      have f2 := HR.out.frz 2
      have f3 := HR.out.frz 3
      have HX := Lib.hid (HR.out.store ⟨y0, y1, y2, y3⟩)
      have HB2 := Lib.hid (below_st4 (g := w.heap.size) HB.out (Nat.le_refl _) (.int .u64 (y0.toNat : Int)) (.int .u64 (y1.toNat : Int)) (.int .u64 (y2.toNat : Int)) (.int .u64 (y3.toNat : Int)))
      dsimp only at c0 c1 c2 c3 HX
      clear hX
      go_wp2
      exact ret_mx (p := 2) (m := ⟨y0, y1, y2, y3⟩) rfl rfl HX.out rfl ⟨rfl, HB2.out⟩
end Go.Proofs.Ytcfiigodefkncaa
