/- lotdrawerkeep.alive4. -/
import Derived.Test.YtbchdnmpohnkiaaP3
import Derived.Test.YtbchdnmpohnkiaaP6
import Derived.Test.YtbchdnmpohnkiaaP8
import Derived.Test.YtbchdnmpohnkiaaT5
namespace Go.Proofs.Ytbchdnmpohnkiaa
open Go.RowKit Go.Deep

theorem ip_lit (w : World) (l : List Int) (hl : l.length ≤ 1000) : IP (w.alloc (.cells (ivs l).toArray 3)) (some ⟨w.heap.size, 0, none⟩) l.length l :=
  ⟨Bs.vs (T := 3) (heap_alloc_new w _), Nat.le_refl _, by omega, fun h => by cases h⟩
theorem pval1 : dealR [0, 0, 1] = ([2, 0, 1], 0) := by decide +kernel
theorem pval2 : rankR [2, 0, 1] = (4, 0) := by decide +kernel
theorem pval3 : atR 3 4 = ([2, 0, 1], 0) := by decide +kernel
theorem pval4 : codeR [2, 0, 1] = ([2, 0, 0], 0) := by decide +kernel

set_option maxRecDepth 100000 in
set_option maxHeartbeats 2000000 in
theorem alive4_any (w : World) :
    Calls Try.prog 21 #[] w fun e w' => e = .returned (.bool true) ∧ Below w.heap.size w w' := by
  have h1 : Below w.heap.size w (w.alloc (.cells #[.int .i64 0, .int .i64 0, .int .i64 1] 3)) := (Below.refl _ _).alloc (Nat.le_refl _) _
  have C1 := Lib.hid (permDeal_any (some ⟨w.heap.size, 0, none⟩) 3 [0, 0, 1] _ (ip_lit w [0, 0, 1] (by simp)))
  rw [pval1] at C1
  have HB1 := Lib.hid h1
  clear h1
  go_enter Try.func21, Try.ntmps21
  go_wp2_with fail
  refine C1.out.mono ?_
  rintro e w1 ⟨Ra, ca, rfl, hIa, hb⟩
  have HB : Hid (Below w.heap.size w w1) := HB1.out.trans (hb.mono HB1.out.size)
  have h1 : Below w1.heap.size w1 (w1.alloc (.cells #[.int .i64 2, .int .i64 0, .int .i64 1] 3)) := (Below.refl _ _).alloc (Nat.le_refl _) _
  have C2 := Lib.hid (permRank_any (some ⟨w1.heap.size, 0, none⟩) 3 [2, 0, 1] _ (ip_lit w1 [2, 0, 1] (by simp)))
  rw [pval2] at C2
  have IA := Lib.hid (hIa.later h1)
  have HB := Lib.hid (HB.out.trans (h1.mono HB.out.size))
  clear h1 hb hIa C1 HB1
  unfold ltup
  unfold ptup at C2
  go_wp2_with fail
  refine C2.out.mono ?_
  rintro e w2 ⟨rfl, hb⟩
  have IA := Lib.hid (IA.out.later hb)
  have HB := Lib.hid (HB.out.trans (hb.mono HB.out.size))
  have C3 := Lib.hid (permAt_any 3 4 w2 (by omega))
  rw [pval3] at C3
  clear C2 hb
  go_wp2_with fail
  refine C3.out.mono ?_
  rintro e w3 ⟨Rp, cp, rfl, hIp, hb⟩
  have h1 : Below w3.heap.size w3 (w3.alloc (.cells #[.int .i64 2, .int .i64 0, .int .i64 1] 3)) := (Below.refl _ _).alloc (Nat.le_refl _) _
  have IA := Lib.hid ((IA.out.later hb).later h1)
  have IPp := Lib.hid (hIp.later h1)
  have HB := Lib.hid (HB.out.trans (hb.mono HB.out.size))
  have HB := Lib.hid (HB.out.trans (h1.mono HB.out.size))
  have C4 := Lib.hid (permCode_any (some ⟨w3.heap.size, 0, none⟩) 3 [2, 0, 1] _ (ip_lit w3 [2, 0, 1] (by simp)))
  rw [pval4] at C4
  clear C3 hb hIp h1
  unfold ltup
  go_wp2_with fail
  refine C4.out.mono ?_
  rintro e w4 ⟨Rc, cc, rfl, hIc, hb⟩
  have h1 : Below w4.heap.size w4 (w4.alloc (.cells #[.int .i64 2, .int .i64 0, .int .i64 1] 3)) := (Below.refl _ _).alloc (Nat.le_refl _) _
  have IA := (IA.out.later hb).later h1
  have IPp := Lib.hid ((IPp.out.later hb).later h1)
  have IC := Lib.hid (hIc.later h1)
  have HB := Lib.hid (HB.out.trans (hb.mono HB.out.size))
  have HB := Lib.hid (HB.out.trans (h1.mono HB.out.size))
  have C5 := Lib.hid (iequal_any Ra (some ⟨w4.heap.size, 0, none⟩) ca 3 [2, 0, 1] [2, 0, 1] _ IA.il (ip_lit w4 [2, 0, 1] (by simp)).il (by simp) (by simp))
  simp only [decide_true] at C5
  clear C4 hb hIc h1 IA
  unfold ltup
  go_wp2_with fail
  refine C5.out.mono ?_
  rintro e w5 ⟨rfl, hb⟩
  have h1 : Below w5.heap.size w5 (w5.alloc (.cells #[.int .i64 2, .int .i64 0, .int .i64 1] 3)) := (Below.refl _ _).alloc (Nat.le_refl _) _
  have IPp := (IPp.out.later hb).later h1
  have IC := Lib.hid ((IC.out.later hb).later h1)
  have HB := Lib.hid (HB.out.trans (hb.mono HB.out.size))
  have HB := Lib.hid (HB.out.trans (h1.mono HB.out.size))
  have C6 := Lib.hid (iequal_any Rp (some ⟨w5.heap.size, 0, none⟩) cp 3 [2, 0, 1] [2, 0, 1] _ IPp.il (ip_lit w5 [2, 0, 1] (by simp)).il (by simp) (by simp))
  simp only [decide_true] at C6
  clear C5 hb h1 IPp
  go_wp2_with fail
  refine C6.out.mono ?_
  rintro e w6 ⟨rfl, hb⟩
  have h1 : Below w6.heap.size w6 (w6.alloc (.cells #[.int .i64 2, .int .i64 0, .int .i64 0] 3)) := (Below.refl _ _).alloc (Nat.le_refl _) _
  have IC := (IC.out.later hb).later h1
  have HB := Lib.hid (HB.out.trans (hb.mono HB.out.size))
  have HB := Lib.hid (HB.out.trans (h1.mono HB.out.size))
  have C7 := Lib.hid (iequal_any Rc (some ⟨w6.heap.size, 0, none⟩) cc 3 [2, 0, 0] [2, 0, 0] _ IC.il (ip_lit w6 [2, 0, 0] (by simp)).il (by simp) (by simp))
  simp only [decide_true] at C7
  clear C6 hb h1 IC
  go_wp2_with fail
  refine C7.out.mono ?_
  rintro e w7 ⟨rfl, hb⟩
  have HB := Lib.hid (HB.out.trans (hb.mono HB.out.size))
  clear C7 hb
  go_wp2
  go_ret
  exact ⟨rfl, HB.out⟩
end Go.Proofs.Ytbchdnmpohnkiaa
