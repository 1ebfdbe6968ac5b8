/- lotdrawerkeep.MixerMix: two states mixed. -/
import Derived.Test.YtcfiigodefkncaaXw2
namespace Go.Proofs.Ytcfiigodefkncaa
open Go.RowKit Go.Deep

theorem XB.set0 {w : World} {g : Nat} {m : Mx} (h : XB w g m) (x : W64) : XB (w.setCell ⟨g, 0, none⟩ (.int .u64 (x.toNat : Int))) g ⟨x, m.b, m.c, m.d⟩ := by
  have := Bs.set h 0 (.int .u64 (x.toNat : Int))
  simpa [XB, mxl] using this
theorem XB.set1 {w : World} {g : Nat} {m : Mx} (h : XB w g m) (x : W64) : XB (w.setCell ⟨g, 1, none⟩ (.int .u64 (x.toNat : Int))) g ⟨m.a, x, m.c, m.d⟩ := by
  have := Bs.set h 1 (.int .u64 (x.toNat : Int))
  simpa [XB, mxl] using this
theorem XB.set2 {w : World} {g : Nat} {m : Mx} (h : XB w g m) (x : W64) : XB (w.setCell ⟨g, 2, none⟩ (.int .u64 (x.toNat : Int))) g ⟨m.a, m.b, x, m.d⟩ := by
  have := Bs.set h 2 (.int .u64 (x.toNat : Int))
  simpa [XB, mxl] using this
theorem XB.set3 {w : World} {g : Nat} {m : Mx} (h : XB w g m) (x : W64) : XB (w.setCell ⟨g, 3, none⟩ (.int .u64 (x.toNat : Int))) g ⟨m.a, m.b, m.c, x⟩ := by
  have := Bs.set h 3 (.int .u64 (x.toNat : Int))
  simpa [XB, mxl] using this

set_option maxRecDepth 100000 in
set_option maxHeartbeats 4000000 in
theorem mixc_any (m o : Mx) (w : World) : Calls Try.prog 18 #[mxv m, mxv o] w fun e w' => e = .returned (mxv (mxx m o)) ∧ Below w.heap.size w w' := by
  have e0 := xor_w m.a o.a
  have e1 := xor_w m.b o.b
  have e2 := xor_w m.c o.c
  have e3 := xor_w m.d o.d
  have HE : Hid (mxx m o = ⟨m.a ^^^ o.a, m.b ^^^ o.b, m.c ^^^ o.c, m.d ^^^ o.d⟩) := rfl
  rw [HE.out]
  clear HE
  generalize m.a ^^^ o.a = x0 at *
  generalize m.b ^^^ o.b = x1 at *
  generalize m.c ^^^ o.c = x2 at *
  generalize m.d ^^^ o.d = x3 at *
  obtain ⟨m0, m1, m2, m3⟩ := m
  obtain ⟨o0, o1, o2, o3⟩ := o
  unfold mxv
  dsimp only at *
  have hM := (xb_new w ⟨m0, m1, m2, m3⟩)
  have hO := (xb_new (w.alloc (.cells #[.int .u64 (m0.toNat : Int), .int .u64 (m1.toNat : Int), .int .u64 (m2.toNat : Int), .int .u64 (m3.toNat : Int)] 24)) ⟨o0, o1, o2, o3⟩)
  dsimp only at hM hO
  have hM := (hM.later (bl_new _ (.cells #[.int .u64 (o0.toNat : Int), .int .u64 (o1.toNat : Int), .int .u64 (o2.toNat : Int), .int .u64 (o3.toNat : Int)] 24))).later (bl_new _ (.cells #[.int .u64 0, .int .u64 0, .int .u64 0, .int .u64 0] 24))
  have hO := hO.later (bl_new _ (.cells #[.int .u64 0, .int .u64 0, .int .u64 0, .int .u64 0] 24))
  have hZ : XB (((w.alloc (.cells #[.int .u64 (m0.toNat : Int), .int .u64 (m1.toNat : Int), .int .u64 (m2.toNat : Int), .int .u64 (m3.toNat : Int)] 24)).alloc (.cells #[.int .u64 (o0.toNat : Int), .int .u64 (o1.toNat : Int), .int .u64 (o2.toNat : Int), .int .u64 (o3.toNat : Int)] 24)).alloc (.cells #[.int .u64 0, .int .u64 0, .int .u64 0, .int .u64 0] 24)) (w.heap.size + 1 + 1) Mx.zero := by
    have := xb_new ((w.alloc (.cells #[.int .u64 (m0.toNat : Int), .int .u64 (m1.toNat : Int), .int .u64 (m2.toNat : Int), .int .u64 (m3.toNat : Int)] 24)).alloc (.cells #[.int .u64 (o0.toNat : Int), .int .u64 (o1.toNat : Int), .int .u64 (o2.toNat : Int), .int .u64 (o3.toNat : Int)] 24)) Mx.zero
    rw [World.size_alloc, World.size_alloc] at this
    exact this
  have hB : Below w.heap.size w (((w.alloc (.cells #[.int .u64 (m0.toNat : Int), .int .u64 (m1.toNat : Int), .int .u64 (m2.toNat : Int), .int .u64 (m3.toNat : Int)] 24)).alloc (.cells #[.int .u64 (o0.toNat : Int), .int .u64 (o1.toNat : Int), .int .u64 (o2.toNat : Int), .int .u64 (o3.toNat : Int)] 24)).alloc (.cells #[.int .u64 0, .int .u64 0, .int .u64 0, .int .u64 0] 24)) := (((Below.refl _ w).alloc (Nat.le_refl _) _).alloc (by simp) _).alloc (by simp; omega) _
  rw [World.size_alloc] at hO
  have HM := Lib.hid hM
  have HO := Lib.hid hO
  have HZ := Lib.hid hZ
  have HB := Lib.hid hB
  clear hM hO hZ hB
  go_enter Try.func18, Try.ntmps18
  go_wp2_with fail
  go_loopw [6] (fun iv wr => ((iv = .int .i64 0 ∧ XB wr w.heap.size ⟨m0, m1, m2, m3⟩) ∨ (iv = .int .i64 1 ∧ XB wr w.heap.size ⟨x0, m1, m2, m3⟩) ∨ (iv = .int .i64 2 ∧ XB wr w.heap.size ⟨x0, x1, m2, m3⟩) ∨ (iv = .int .i64 3 ∧ XB wr w.heap.size ⟨x0, x1, x2, m3⟩) ∨ (iv = .int .i64 4 ∧ XB wr w.heap.size ⟨x0, x1, x2, x3⟩)) ∧ XB wr (w.heap.size + 1) ⟨o0, o1, o2, o3⟩ ∧ XB wr (w.heap.size + 1 + 1) Mx.zero ∧ Below w.heap.size w wr) (fun iv _ => 4 - (intOf iv).toNat)
  case atStart => exact ⟨.inl ⟨rfl, HM.out⟩, HO.out, HZ.out, HB.out⟩
  case round =>
    clear HM HO HZ HB
    obtain ⟨hC, hO, hZ, hB⟩ := hrel
    have HO := Lib.hid hO
    have HZ := Lib.hid hZ
    have HB := Lib.hid hB
    clear hO hZ hB
    rcases hC with ⟨rfl, hM⟩ | ⟨rfl, hM⟩ | ⟨rfl, hM⟩ | ⟨rfl, hM⟩ | ⟨rfl, hM⟩
    · have HM := Lib.hid hM
      have HM2 := Lib.hid (hM.set0 x0)
      have HO2 := Lib.hid (HO.out.otherCell (c := ⟨w.heap.size, 0, none⟩) (by show w.heap.size + 1 ≠ w.heap.size; omega) (.int .u64 (x0.toNat : Int)))
      have HZ2 := Lib.hid (HZ.out.otherCell (c := ⟨w.heap.size, 0, none⟩) (by show w.heap.size + 1 + 1 ≠ w.heap.size; omega) (.int .u64 (x0.toNat : Int)))
      have HB2 := Lib.hid ((HB.out.setCell (p := ⟨w.heap.size, 0, none⟩) (Nat.le_refl _) (.int .u64 (x0.toNat : Int))).drew)
      have c0 := hM.c0
      have d0 := HO.out.c0
      have f0 := hM.frz 0
      dsimp only at c0 d0 HM2
      clear hM
      go_wp2
      go_region
      go_wp2
      go_roundw
      case rel => exact ⟨.inr (.inl ⟨by go_num, HM2.out⟩), HO2.out, HZ2.out, HB2.out⟩
      case measure => simp [intOf]
    · have HM := Lib.hid hM
      have HM2 := Lib.hid (hM.set1 x1)
      have HO2 := Lib.hid (HO.out.otherCell (c := ⟨w.heap.size, 1, none⟩) (by show w.heap.size + 1 ≠ w.heap.size; omega) (.int .u64 (x1.toNat : Int)))
      have HZ2 := Lib.hid (HZ.out.otherCell (c := ⟨w.heap.size, 1, none⟩) (by show w.heap.size + 1 + 1 ≠ w.heap.size; omega) (.int .u64 (x1.toNat : Int)))
      have HB2 := Lib.hid ((HB.out.setCell (p := ⟨w.heap.size, 1, none⟩) (Nat.le_refl _) (.int .u64 (x1.toNat : Int))).drew)
      have c0 := hM.c1
      have d0 := HO.out.c1
      have f0 := hM.frz 1
      dsimp only at c0 d0 HM2
      clear hM
      go_wp2
      go_region
      go_wp2
      go_roundw
      case rel => exact ⟨.inr (.inr (.inl ⟨by go_num, HM2.out⟩)), HO2.out, HZ2.out, HB2.out⟩
      case measure => simp [intOf]
    · have HM := Lib.hid hM
      have HM2 := Lib.hid (hM.set2 x2)
      have HO2 := Lib.hid (HO.out.otherCell (c := ⟨w.heap.size, 2, none⟩) (by show w.heap.size + 1 ≠ w.heap.size; omega) (.int .u64 (x2.toNat : Int)))
      have HZ2 := Lib.hid (HZ.out.otherCell (c := ⟨w.heap.size, 2, none⟩) (by show w.heap.size + 1 + 1 ≠ w.heap.size; omega) (.int .u64 (x2.toNat : Int)))
      have HB2 := Lib.hid ((HB.out.setCell (p := ⟨w.heap.size, 2, none⟩) (Nat.le_refl _) (.int .u64 (x2.toNat : Int))).drew)
      have c0 := hM.c2
      have d0 := HO.out.c2
      have f0 := hM.frz 2
      dsimp only at c0 d0 HM2
      clear hM
      go_wp2
      go_region
      go_wp2
      go_roundw
      case rel => exact ⟨.inr (.inr (.inr (.inl ⟨by go_num, HM2.out⟩))), HO2.out, HZ2.out, HB2.out⟩
      case measure => simp [intOf]
    · have HM := Lib.hid hM
      have HM2 := Lib.hid (hM.set3 x3)
      have HO2 := Lib.hid (HO.out.otherCell (c := ⟨w.heap.size, 3, none⟩) (by show w.heap.size + 1 ≠ w.heap.size; omega) (.int .u64 (x3.toNat : Int)))
      have HZ2 := Lib.hid (HZ.out.otherCell (c := ⟨w.heap.size, 3, none⟩) (by show w.heap.size + 1 + 1 ≠ w.heap.size; omega) (.int .u64 (x3.toNat : Int)))
      have HB2 := Lib.hid ((HB.out.setCell (p := ⟨w.heap.size, 3, none⟩) (Nat.le_refl _) (.int .u64 (x3.toNat : Int))).drew)
      have c0 := hM.c3
      have d0 := HO.out.c3
      have f0 := hM.frz 3
      dsimp only at c0 d0 HM2
      clear hM
      go_wp2
      go_region
      go_wp2
      go_roundw
      case rel => exact ⟨.inr (.inr (.inr (.inr (⟨by go_num, HM2.out⟩)))), HO2.out, HZ2.out, HB2.out⟩
      case measure => simp [intOf]
    · obtain ⟨c0, c1, c2, c3⟩ := hM.four
      obtain ⟨r0, r1, r2, r3⟩ := HZ.out.four
      have f0 := HZ.out.frz 0
      have f1 := HZ.out.frz 1
      have f2 := HZ.out.frz 2
      have f3 := HZ.out.frz 3
      have HX := Lib.hid (HZ.out.store ⟨x0, x1, x2, x3⟩)
      have HB2 := Lib.hid (below_st4 (g := w.heap.size + 1 + 1) HB.out (by omega) (.int .u64 (x0.toNat : Int)) (.int .u64 (x1.toNat : Int)) (.int .u64 (x2.toNat : Int)) (.int .u64 (x3.toNat : Int)))
      dsimp only at c0 c1 c2 c3 HX
      clear hM
      go_wp2
      exact ret_mx (p := 4) (m := ⟨x0, x1, x2, x3⟩) rfl rfl HX.out rfl ⟨rfl, HB2.out⟩
end Go.Proofs.Ytcfiigodefkncaa
