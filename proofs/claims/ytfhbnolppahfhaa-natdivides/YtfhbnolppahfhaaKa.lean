/- lotdrawerkeep.alive1: the four calls answer as they should. -/
import Derived.Test.YtfhbnolppahfhaaW4
import Derived.Test.YtfhbnolppahfhaaW8
import Derived.Test.YtfhbnolppahfhaaW9
namespace Go.Proofs.Ytfhbnolppahfhaa
open Go.RowKit Go.Deep

theorem fit_val {xs : List Nat} {n : Nat} (h : n = val xs) (hs : Sm xs) (hr : rt xs = true) : fitL n = xs ∧ fitE n = 0 := by
  have hlt := val_of_rt hs hr
  subst h
  unfold fitL fitE
  rw [if_pos hlt, if_pos hlt]
  exact ⟨words_rt hs hr, rfl⟩
/-- A literal of one word, of two. -/
theorem lit1 (w : World) {x : Nat} {X : Int} (hX : X = (x : Int)) (hx : x < Bw) : Wd (w.alloc (.cells #[.int .u64 X] 23)) (some ⟨w.heap.size, 0, none⟩) [x] := by
  subst hX
  have hB : Bk (w.alloc (.cells #[.int .u64 (x : Int)] 23)) w.heap.size [x] := by unfold Bk; rw [heap_alloc_new]; rfl
  exact hB.wd (Sm.one hx)
theorem lit2 (w : World) {x y : Nat} {X Y : Int} (hX : X = (x : Int)) (hY : Y = (y : Int)) (hx : x < Bw) (hy : y < Bw) : Wd (w.alloc (.cells #[.int .u64 X, .int .u64 Y] 23)) (some ⟨w.heap.size, 0, none⟩) [x, y] := by
  subst hX hY
  have hB : Bk (w.alloc (.cells #[.int .u64 (x : Int), .int .u64 (y : Int)] 23)) w.heap.size [x, y] := by unfold Bk; rw [heap_alloc_new]; rfl
  exact hB.wd (Sm.cons hx (Sm.one hy))
theorem below_alloc (w : World) (o : Obj) : Below w.heap.size w (w.alloc o) := (Below.refl _ _).alloc (Nat.le_refl _) _
theorem below_to {a b c : World} (h : Below a.heap.size a b) (k : Below b.heap.size b c) : Below a.heap.size a c := h.trans (k.mono h.size)

set_option maxRecDepth 100000 in
set_option maxHeartbeats 1000000 in
theorem alive1_any (w : World) : Calls Try.prog 28 #[] w fun e w' => e = .returned (.bool true) ∧ Below w.heap.size w w' := by
  have r1 : rt [18446744073709551615] = true := by decide
  have r2 : rt [1] = true := by decide
  have r3 : rt [2] = true := by decide
  have r4 : rt [0, 1] = true := by decide
  have f1 := fit_val (xs := [0, 1]) (n := val [18446744073709551615] + val [1]) (by decide) (Sm.cons (by decide) (Sm.one (by decide))) (by decide)
  have f2 := fit_val (xs := [18446744073709551614, 1]) (n := val [18446744073709551615] * val [2]) (by decide) (Sm.cons (by decide) (Sm.one (by decide))) (by decide)
  have f3 := fit_val (xs := [60]) (n := fall 5 3) (by decide) (Sm.one (by decide)) (by decide)
  have f4 : words (val [0, 1] / 3) = [6148914691236517205] := by
    have : val [0, 1] / 3 = val [6148914691236517205] := by decide
    rw [this]; exact words_val (Sm.one (by decide)) (.inr (by decide))
  have f5 : val [0, 1] % 3 = 1 := by decide
  have C1 := add_any (some ⟨w.heap.size, 0, none⟩) (some ⟨w.heap.size + 1, 0, none⟩) 1 1 [18446744073709551615] [1] ((w.alloc (.cells #[.int .u64 18446744073709551615] 23)).alloc (.cells #[.int .u64 1] 23))
    ((lit1 w rfl (by decide)).below (below_alloc _ _)) (by have := lit1 (w.alloc (.cells #[.int .u64 18446744073709551615] 23)) (x := 1) rfl (by decide); simpa using this) r1 r2
  rw [f1.1, f1.2] at C1
  have HC1 := Lib.hid C1
  clear C1
  go_enter Try.func28, Try.ntmps28
  go_wp2_with fail
  refine HC1.out.mono ?_
  rintro e w1 ⟨R1, c1, rfl, hW1, _, hB1⟩
  have HW1 := Lib.hid hW1
  have HB1 : Hid (Below w.heap.size w w1) := below_to (below_to (below_alloc _ _) (below_alloc _ _)) hB1
  clear hW1 hB1 HC1
  have C2 := mul_any (some ⟨w1.heap.size, 0, none⟩) (some ⟨w1.heap.size + 1, 0, none⟩) 1 1 [18446744073709551615] [2] ((w1.alloc (.cells #[.int .u64 18446744073709551615] 23)).alloc (.cells #[.int .u64 2] 23))
    ((lit1 w1 rfl (by decide)).below (below_alloc _ _)) (by have := lit1 (w1.alloc (.cells #[.int .u64 18446744073709551615] 23)) (x := 2) rfl (by decide); simpa using this) r1 r3
  rw [f2.1, f2.2] at C2
  have HC2 := Lib.hid C2
  clear C2
  go_wp2_with fail
  refine HC2.out.mono ?_
  rintro e w2 ⟨R2, c2, rfl, hW2, _, hB2⟩
  have HW2 := Lib.hid hW2
  have HB2 : Hid (Below w1.heap.size w1 w2) := below_to (below_to (below_alloc _ _) (below_alloc _ _)) hB2
  clear hW2 hB2 HC2
  have C3 := div_any (some ⟨w2.heap.size, 0, none⟩) 2 3 [0, 1] (w2.alloc (.cells #[.int .u64 0, .int .u64 1] 23)) (lit2 w2 rfl rfl (by decide) (by decide)) r4 (by decide) (by decide)
  rw [f4, f5] at C3
  have HC3 := Lib.hid C3
  clear C3
  go_wp2_with fail
  refine HC3.out.mono ?_
  rintro e w3 ⟨R3, c3, rfl, _, _, hB3⟩
  have HB3 : Hid (Below w2.heap.size w2 w3) := below_to (below_alloc _ _) hB3
  clear hB3 HC3
  have C4 := falling_any 5 3 w3 (by decide) (by decide)
  rw [f3.1, f3.2] at C4
  have HC4 := Lib.hid C4
  clear C4
  go_wp2_with fail
  refine HC4.out.mono ?_
  rintro e w4 ⟨R4, c4, rfl, hW4, hB4⟩
  have HW4 := Lib.hid hW4
  have HB4 := Lib.hid hB4
  clear hW4 hB4 HC4
  have B14 : Hid (Below w1.heap.size w1 w4) := below_to HB2.out (below_to HB3.out HB4.out)
  have B24 : Hid (Below w2.heap.size w2 w4) := below_to HB3.out HB4.out
  have E1 := Lib.hid (equal_any R1 (some ⟨w4.heap.size, 0, none⟩) c1 2 [0, 1] [0, 1] (w4.alloc (.cells #[.int .u64 0, .int .u64 1] 23)) ((HW1.out.below B14.out).below (below_alloc _ _)) (lit2 w4 rfl rfl (by decide) (by decide)) (by decide) (by decide))
  go_wp2_with fail
  refine E1.out.mono ?_
  rintro e w5 ⟨rfl, hB5⟩
  have HB5 : Hid (Below w4.heap.size w4 w5) := below_to (below_alloc _ _) hB5
  clear hB5 E1
  have E2 := Lib.hid (equal_any R2 (some ⟨w5.heap.size, 0, none⟩) c2 2 [18446744073709551614, 1] [18446744073709551614, 1] (w5.alloc (.cells #[.int .u64 18446744073709551614, .int .u64 1] 23)) ((HW2.out.below (below_to B24.out HB5.out)).below (below_alloc _ _)) (lit2 w5 rfl rfl (by decide) (by decide)) (by decide) (by decide))
  go_wp2_with fail
  refine E2.out.mono ?_
  rintro e w6 ⟨rfl, hB6⟩
  have HB6 : Hid (Below w5.heap.size w5 w6) := below_to (below_alloc _ _) hB6
  clear hB6 E2
  have E3 := Lib.hid (equal_any R4 (some ⟨w6.heap.size, 0, none⟩) c4 1 [60] [60] (w6.alloc (.cells #[.int .u64 60] 23)) ((HW4.out.below (below_to HB5.out HB6.out)).below (below_alloc _ _)) (lit1 w6 rfl (by decide)) (by decide) (by decide))
  go_wp2_with fail
  refine E3.out.mono ?_
  rintro e w7 ⟨rfl, hB7⟩
  have HB7 : Hid (Below w6.heap.size w6 w7) := below_to (below_alloc _ _) hB7
  clear hB7 E3
  go_wp2
  go_ret
  exact ⟨rfl, below_to HB1.out (below_to B14.out (below_to HB5.out (below_to HB6.out HB7.out)))⟩
end Go.Proofs.Ytfhbnolppahfhaa
