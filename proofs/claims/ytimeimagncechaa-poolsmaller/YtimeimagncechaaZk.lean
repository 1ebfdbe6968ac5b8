/- lotdrawerkeep.alive6. -/
import Derived.Test.YtimeimagncechaaZe
import Derived.Test.YtimeimagncechaaZf
import Derived.Test.YtimeimagncechaaT5
namespace Go.Proofs.Ytimeimagncechaa
open Go.RowKit Go.Deep

theorem pval1 : allR 2 [7, 8, 9, 6] [0, 1, 0, 2] = ((2, 4, [9, 8]), 0) := by decide +kernel
theorem pval2 : lessR 2 4 [9, 8] 1 [1] = ((1, 4, [9]), 0) := by decide +kernel
theorem pval3 : prB 1 4 [9] = true := by decide +kernel

set_option maxRecDepth 100000 in
set_option maxHeartbeats 2000000 in
theorem alive6_any (w : World) :
    Calls Try.prog 20 #[] w fun e w' => e = .returned (.bool true) ∧ Below w.heap.size w w' := by
  have b1 : Below w.heap.size w (w.alloc (.cells #[.int .i64 7, .int .i64 8, .int .i64 9, .int .i64 6] 3)) := (Below.refl _ _).alloc (Nat.le_refl _) _
  have b2 : Below (w.heap.size + 1) (w.alloc (.cells #[.int .i64 7, .int .i64 8, .int .i64 9, .int .i64 6] 3)) ((w.alloc (.cells #[.int .i64 7, .int .i64 8, .int .i64 9, .int .i64 6] 3)).alloc (.cells #[.int .i64 0, .int .i64 1, .int .i64 0, .int .i64 2] 3)) := (Below.refl _ _).alloc (by simp) _
  have i1 : IP ((w.alloc (.cells #[.int .i64 7, .int .i64 8, .int .i64 9, .int .i64 6] 3)).alloc (.cells #[.int .i64 0, .int .i64 1, .int .i64 0, .int .i64 2] 3)) (some ⟨w.heap.size, 0, none⟩) 4 [7, 8, 9, 6] := (ip_lit w [7, 8, 9, 6] (by simp)).later (by simpa [ivs] using b2)
  have i2 : IP ((w.alloc (.cells #[.int .i64 7, .int .i64 8, .int .i64 9, .int .i64 6] 3)).alloc (.cells #[.int .i64 0, .int .i64 1, .int .i64 0, .int .i64 2] 3)) (some ⟨w.heap.size + 1, 0, none⟩) 4 [0, 1, 0, 2] := by
    have := ip_lit (w.alloc (.cells #[.int .i64 7, .int .i64 8, .int .i64 9, .int .i64 6] 3)) [0, 1, 0, 2] (by simp)
    simpa [ivs] using this
  have HB := Lib.hid (b1.trans (b2.mono (Nat.le_succ _)))
  have C0 := Lib.hid (poolAll_any 2 _ 4 [7, 8, 9, 6] _ 4 [0, 1, 0, 2] _ i1 i2)
  rw [pval1] at C0
  clear b1 b2 i1 i2
  go_enter Try.func20, Try.ntmps20
  go_wp2_with fail
  refine C0.out.mono ?_
  rintro e w1 ⟨v, rfl, hO, hb⟩
  obtain ⟨R, cr, rfl⟩ := hO.shape
  have HB := Lib.hid (HB.out.trans (hb.mono HB.out.size))
  obtain ⟨_, _, e, hI⟩ := hO.ip
  cases e
  have b1 : Below w1.heap.size w1 (w1.alloc (.cells #[.int .i64 2, .int .i64 4, .slice R 2 cr] 24)) := (Below.refl _ _).alloc (Nat.le_refl _) _
  have b2 : Below (w1.heap.size + 1) (w1.alloc (.cells #[.int .i64 2, .int .i64 4, .slice R 2 cr] 24)) ((w1.alloc (.cells #[.int .i64 2, .int .i64 4, .slice R 2 cr] 24)).alloc (.cells #[.int .i64 1] 3)) := (Below.refl _ _).alloc (by simp) _
  have HB := Lib.hid (HB.out.trans (((b1.trans (b2.mono (Nat.le_succ _))).mono HB.out.size)))
  have i2 : IP ((w1.alloc (.cells #[.int .i64 2, .int .i64 4, .slice R 2 cr] 24)).alloc (.cells #[.int .i64 1] 3)) (some ⟨w1.heap.size + 1, 0, none⟩) 1 [1] := by
    have := ip_lit (w1.alloc (.cells #[.int .i64 2, .int .i64 4, .slice R 2 cr] 24)) [1] (by simp)
    simpa [ivs] using this
  have i1 := (hI.later b1).later (by simpa using b2)
  have C1 := Lib.hid (smaller_any 2 4 R cr [9, 8] 1 _ 1 [1] _ i1 i2)
  rw [pval2] at C1
  have HP := Lib.hid ((PB.new w1 2 4 (.slice R 2 cr)).alloc (.cells #[.int .i64 1] 3))
  have HI := Lib.hid i1
  unfold pv at *
  clear b1 b2 i1 i2 C0 hb hI hO
  go_wp2_with fail
  refine C1.out.mono ?_
  rintro e w2 ⟨v, rfl, hO, hb⟩
  obtain ⟨S, cs, rfl⟩ := hO.shape
  have HB := Lib.hid (HB.out.trans (hb.mono HB.out.size))
  have hP := HP.out.later hb
  have hI := HI.out.later hb
  obtain ⟨_, _, e, hJ⟩ := hO.ip
  cases e
  have b1 : Below w2.heap.size w2 (w2.alloc (.cells #[.int .i64 1, .int .i64 4, .slice S 1 cs] 24)) := (Below.refl _ _).alloc (Nat.le_refl _) _
  have b2 : Below (w2.heap.size + 1) (w2.alloc (.cells #[.int .i64 1, .int .i64 4, .slice S 1 cs] 24)) ((w2.alloc (.cells #[.int .i64 1, .int .i64 4, .slice S 1 cs] 24)).alloc (.cells #[.int .i64 9, .int .i64 8] 3)) := (Below.refl _ _).alloc (by simp) _
  have b3 := b1.trans (b2.mono (Nat.le_succ _))
  have HB := Lib.hid (HB.out.trans (b3.mono HB.out.size))
  have i2 : IP ((w2.alloc (.cells #[.int .i64 1, .int .i64 4, .slice S 1 cs] 24)).alloc (.cells #[.int .i64 9, .int .i64 8] 3)) (some ⟨w2.heap.size + 1, 0, none⟩) 2 [9, 8] := by
    have := ip_lit (w2.alloc (.cells #[.int .i64 1, .int .i64 4, .slice S 1 cs] 24)) [9, 8] (by simp)
    simpa [ivs] using this
  have C2 := Lib.hid (iequal_any R _ cr 2 [9, 8] [9, 8] _ (hI.later b3).il i2.il (by simp) (by simp))
  simp only [decide_true] at C2
  have HP := Lib.hid (hP.later b3)
  have HQ := Lib.hid ((PB.new w2 1 4 (.slice S 1 cs)).alloc (.cells #[.int .i64 9, .int .i64 8] 3))
  have HJ := Lib.hid (hJ.later b3)
  obtain ⟨c0, c1, c2, f0, f1, f2⟩ := (hP.later b1).at
  clear b1 b2 b3 i2 hI hJ hO hb C1 hP HI
  unfold pv
  go_wp2_with fail
  refine C2.out.mono ?_
  rintro e w3 ⟨rfl, hb⟩
  have HB := Lib.hid (HB.out.trans (hb.mono HB.out.size))
  have hP := HP.out.later hb
  have hQ := HQ.out.later hb
  have hJ := HJ.out.later hb
  have b1 : Below w3.heap.size w3 (w3.alloc (.cells #[.int .i64 9] 3)) := (Below.refl _ _).alloc (Nat.le_refl _) _
  have C3 := Lib.hid (iequal_any S _ cs 1 [9] [9] _ (hJ.later b1).il (ip_lit w3 [9] (by simp)).il (by simp) (by simp))
  simp only [decide_true] at C3
  clear c0 c1 c2 f0 f1 f2
  obtain ⟨c0, c1, c2, f0, f1, f2⟩ := hP.at
  obtain ⟨d0, d1, d2, g0, g1, g2⟩ := hQ.at
  have HB := Lib.hid (HB.out.trans (b1.mono HB.out.size))
  have HQ := Lib.hid (hQ.later b1)
  clear b1 hP hQ hJ hb C2 HP HJ
  go_wp2_with fail
  refine C3.out.mono ?_
  rintro e w4 ⟨rfl, hb⟩
  have HB := Lib.hid (HB.out.trans (hb.mono HB.out.size))
  clear d0 d1 d2 g0 g1 g2
  obtain ⟨d0, d1, d2, g0, g1, g2⟩ := (HQ.out.later hb).at
  have C4 := Lib.hid (poolRight_any 1 4 S cs [9] w4)
  rw [pval3] at C4
  clear hb C3
  unfold pv at C4
  go_wp2_with fail
  refine C4.out.mono ?_
  rintro e w5 ⟨rfl, hb⟩
  have HB := Lib.hid (HB.out.trans (hb.mono HB.out.size))
  clear C4 hb
  go_wp2
  go_ret
  exact ⟨rfl, HB.out⟩
end Go.Proofs.Ytimeimagncechaa
