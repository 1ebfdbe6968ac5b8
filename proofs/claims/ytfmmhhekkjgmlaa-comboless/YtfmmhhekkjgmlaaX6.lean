/- lotdrawerkeep.alive5. -/
import Derived.Test.YtfmmhhekkjgmlaaX3
import Derived.Test.YtfmmhhekkjgmlaaX4
import Derived.Test.YtfmmhhekkjgmlaaX5
import Derived.Test.YtfmmhhekkjgmlaaT5
namespace Go.Proofs.Ytfmmhhekkjgmlaa
open Go.RowKit Go.Deep

theorem cval1 : ofR 60 30 = (118264581564861424, 0) := by
  have e : bc 60 30 = 118264581564861424 := by rw [← prow_at]; decide +kernel
  unfold ofR
  rw [if_neg (by omega), show Int.toNat 60 = 60 from rfl, show Int.toNat 30 = 30 from rfl, e]
  rfl
theorem cval2 : rankC 5 [1, 3] = (4, 0) := by decide +kernel
theorem cval3 : atRC 5 2 4 = ([1, 3], 0) := by decide +kernel
theorem cval4 : nextC 5 [1, 3] = ([2, 3], 0) := by decide +kernel
theorem cval5 : restC 4 [1] = ([0, 2, 3], 0) := by decide +kernel

set_option maxRecDepth 100000 in
set_option maxHeartbeats 2000000 in
theorem alive5_any (w : World) :
    Calls Try.prog 21 #[] w fun e w' => e = .returned (.bool true) ∧ Below w.heap.size w w' := by
  have C0 := Lib.hid (of_any 60 30 w (by omega))
  rw [cval1] at C0
  unfold ptup at C0
  go_enter Try.func21, Try.ntmps21
  go_wp2_with fail
  refine C0.out.mono ?_
  rintro e w0 ⟨rfl, rfl⟩
  clear C0
  have h1 : Below w0.heap.size w0 (w0.alloc (.cells #[.int .i64 1, .int .i64 3] 3)) := (Below.refl _ _).alloc (Nat.le_refl _) _
  have C1 := Lib.hid (rank_any5 5 (some ⟨w0.heap.size, 0, none⟩) 2 [1, 3] _ (ip_lit w0 [1, 3] (by simp)))
  rw [cval2] at C1
  unfold ptup at C1
  have HB := Lib.hid h1
  clear h1
  go_wp2_with fail
  refine C1.out.mono ?_
  rintro e w1 ⟨rfl, hw1⟩
  have HB : Hid (Below w0.heap.size w0 w1) := by show Below _ _ _; rw [hw1]; exact HB.out
  clear C1 hw1
  have C2 := Lib.hid (at_any5 5 2 4 w1 (by omega) (by omega))
  rw [cval3] at C2
  go_wp2_with fail
  refine C2.out.mono ?_
  rintro e w2 ⟨Ra, ca, rfl, hIa, hb⟩
  have h1 : Below w2.heap.size w2 (w2.alloc (.cells #[.int .i64 1, .int .i64 3] 3)) := (Below.refl _ _).alloc (Nat.le_refl _) _
  have HB := Lib.hid (HB.out.trans (hb.mono HB.out.size))
  have HB := Lib.hid (HB.out.trans (h1.mono HB.out.size))
  have IA := Lib.hid (hIa.later h1)
  have C3 := Lib.hid (next_any5 5 (some ⟨w2.heap.size, 0, none⟩) 2 [1, 3] _ (ip_lit w2 [1, 3] (by simp)))
  rw [cval4] at C3
  clear C2 hb hIa h1
  unfold ltup
  go_wp2_with fail
  refine C3.out.mono ?_
  rintro e w3 ⟨Rb, cb, rfl, hIb, hb⟩
  have h1 : Below w3.heap.size w3 (w3.alloc (.cells #[.int .i64 1] 3)) := (Below.refl _ _).alloc (Nat.le_refl _) _
  have HB := Lib.hid (HB.out.trans (hb.mono HB.out.size))
  have HB := Lib.hid (HB.out.trans (h1.mono HB.out.size))
  have IA := Lib.hid ((IA.out.later hb).later h1)
  have IB := Lib.hid (hIb.later h1)
  have C4 := Lib.hid (rest_any5 4 (some ⟨w3.heap.size, 0, none⟩) 1 [1] _ (ip_lit w3 [1] (by simp)))
  rw [cval5] at C4
  clear C3 hb hIb h1
  unfold ltup
  go_wp2_with fail
  refine C4.out.mono ?_
  rintro e w4 ⟨Rc, cc, rfl, hIc, hb⟩
  have h1 : Below w4.heap.size w4 (w4.alloc (.cells #[.int .i64 1, .int .i64 3] 3)) := (Below.refl _ _).alloc (Nat.le_refl _) _
  have HB := Lib.hid (HB.out.trans (hb.mono HB.out.size))
  have HB := Lib.hid (HB.out.trans (h1.mono HB.out.size))
  have IA := (IA.out.later hb).later h1
  have IB := Lib.hid ((IB.out.later hb).later h1)
  have IC := Lib.hid (hIc.later h1)
  have C5 := Lib.hid (iequal_any Ra (some ⟨w4.heap.size, 0, none⟩) ca 2 [1, 3] [1, 3] _ IA.il (ip_lit w4 [1, 3] (by simp)).il (by simp) (by simp))
  simp only [decide_true] at C5
  clear C4 hb hIc h1 IA
  unfold ltup
  go_wp2_with fail
  refine C5.out.mono ?_
  rintro e w5 ⟨rfl, hb⟩
  have h1 : Below w5.heap.size w5 (w5.alloc (.cells #[.int .i64 2, .int .i64 3] 3)) := (Below.refl _ _).alloc (Nat.le_refl _) _
  have IB := (IB.out.later hb).later h1
  have IC := Lib.hid ((IC.out.later hb).later h1)
  have HB := Lib.hid (HB.out.trans (hb.mono HB.out.size))
  have HB := Lib.hid (HB.out.trans (h1.mono HB.out.size))
  have C6 := Lib.hid (iequal_any Rb (some ⟨w5.heap.size, 0, none⟩) cb 2 [2, 3] [2, 3] _ IB.il (ip_lit w5 [2, 3] (by simp)).il (by simp) (by simp))
  simp only [decide_true] at C6
  clear C5 hb h1 IB
  go_wp2_with fail
  refine C6.out.mono ?_
  rintro e w6 ⟨rfl, hb⟩
  have h1 : Below w6.heap.size w6 (w6.alloc (.cells #[.int .i64 0, .int .i64 2, .int .i64 3] 3)) := (Below.refl _ _).alloc (Nat.le_refl _) _
  have IC := (IC.out.later hb).later h1
  have HB := Lib.hid (HB.out.trans (hb.mono HB.out.size))
  have HB := Lib.hid (HB.out.trans (h1.mono HB.out.size))
  have C7 := Lib.hid (iequal_any Rc (some ⟨w6.heap.size, 0, none⟩) cc 3 [0, 2, 3] [0, 2, 3] _ IC.il (ip_lit w6 [0, 2, 3] (by simp)).il (by simp) (by simp))
  simp only [decide_true] at C7
  clear C6 hb h1 IC
  go_wp2_with fail
  refine C7.out.mono ?_
  rintro e w7 ⟨rfl, hb⟩
  have HB := Lib.hid (HB.out.trans (hb.mono HB.out.size))
  clear C7 hb
  go_wp2
  go_ret
  exact ⟨rfl, HB.out⟩
end Go.Proofs.Ytfmmhhekkjgmlaa
