/- lotdrawerkeep.alive8. -/
import Derived.Test.YtjhcbjpbmbjgoaaH2
import Derived.Test.YtjhcbjpbmbjgoaaH6
import Derived.Test.YtjhcbjpbmbjgoaaH7
namespace Go.Proofs.Ytjhcbjpbmbjgoaa
open Go.RowKit Go.Deep

theorem mk_alive : makeC [1, 3, 2] = ([(3, 1), (6, 1), (6, 2)], 0) := by decide +kernel
theorem dr_alive : drawA [(3, 1), (6, 1), (6, 2)] 0 3 = (1, 0) := by decide +kernel
/-- A table that stands in the code. -/
theorem ap_lit3 (w : World) (a b c d e f : Int) : AP (w.alloc (.cells #[.int .i64 a, .int .i64 b, .int .i64 c, .int .i64 d, .int .i64 e, .int .i64 f] 41)) (some ⟨w.heap.size, 0, none⟩) 3 [(a, b), (c, d), (e, f)] := by
  have h : AB (w.alloc (.cells #[.int .i64 a, .int .i64 b, .int .i64 c, .int .i64 d, .int .i64 e, .int .i64 f] 41)) w.heap.size [(a, b), (c, d), (e, f)] := heap_alloc_new w _
  exact h.ap (by simp)

set_option maxRecDepth 100000 in
set_option maxHeartbeats 2000000 in
theorem alive8_any (w : World) : Calls Try.prog 19 #[] w fun e w' => e = .returned (.bool true) ∧ Below w.heap.size w w' := by
  have h1 : Below w.heap.size w (w.alloc (.cells #[.int .i64 1, .int .i64 3, .int .i64 2] 3)) := (Below.refl _ _).alloc (Nat.le_refl _) _
  have C1 := Lib.hid (make_any (some ⟨w.heap.size, 0, none⟩) 3 [1, 3, 2] _ (ip_lit w [1, 3, 2] (by simp)))
  rw [mk_alive] at C1
  have HB1 := Lib.hid h1
  clear h1
  go_enter Try.func19, Try.ntmps19
  go_wp2_with fail
  refine C1.out.mono ?_
  rintro e w1 ⟨R, ca, rfl, hA, hb⟩
  have HB : Hid (Below w.heap.size w w1) := HB1.out.trans (hb.mono HB1.out.size)
  have HA := Lib.hid hA
  have C2 := Lib.hid (drawA_any R ca [(3, 1), (6, 1), (6, 2)] 0 3 w1 hA)
  rw [dr_alive] at C2
  unfold ptup at C2
  clear hA hb C1 HB1
  go_wp2_with fail
  refine C2.out.mono ?_
  rintro e w2 ⟨rfl, rfl⟩
  have h1 : Below w1.heap.size w1 (w1.alloc (.cells #[.int .i64 3, .int .i64 1, .int .i64 6, .int .i64 1, .int .i64 6, .int .i64 2] 41)) := (Below.refl _ _).alloc (Nat.le_refl _) _
  have C3 := Lib.hid (aequal_any R (some ⟨w1.heap.size, 0, none⟩) ca 3 [(3, 1), (6, 1), (6, 2)] [(3, 1), (6, 1), (6, 2)] _ (HA.out.later h1) (ap_lit3 w1 3 1 6 1 6 2))
  simp only [decide_true] at C3
  have HB3 := Lib.hid (HB.out.trans (h1.mono HB.out.size))
  clear C2 h1 HA HB
  go_wp2_with fail
  refine C3.out.mono ?_
  rintro e w3 ⟨rfl, hb⟩
  have HB := Lib.hid (HB3.out.trans (hb.mono HB3.out.size))
  clear C3 hb HB3
  go_wp2
  go_ret
  exact ⟨rfl, HB.out⟩
end Go.Proofs.Ytjhcbjpbmbjgoaa
