/- lfsr.stepper makes the function. -/
import Derived.Test.YtcadpgpenjpdiaaXl3
namespace Go.Proofs.Ytcadpgpenjpdiaa
open Go.RowKit Go.Deep

set_option maxRecDepth 100000 in
set_option maxHeartbeats 1000000 in
theorem stepper_any {n t : Nat} (h : NR n t) (w : World) : Calls Try.prog 20 #[.int .i64 (n : Int), .int .u32 (t : Int)] w fun e w' => ∃ a b, e = .returned (sfv a b) ∧ SF w' a b n t ∧ Below w.heap.size w w' := by
  have hmf : ∀ (fn : Fn) (first cap : Array Value) (w : World), (Instr.makeFunc fn first cap).run Try.prog w = .ok (.func fn first cap) w := fun _ _ _ _ => rfl
  have hn := h.hi
  have b1 : Below w.heap.size w (w.alloc (.cells #[.int .u32 (t : Int)] 22)) := (Below.refl _ _).alloc (Nat.le_refl _) _
  obtain ⟨q, hq, hq1, hq2, hqi⟩ := pow20 (n := n) hn
  have e1 : (q : Int) - 1 = ((q - 1 : Nat) : Int) := by omega
  have hs : ∀ w' : World, w'.cell? ⟨w.heap.size + 1, 0, none⟩ = some (.int .u32 ((q - 1 : Nat) : Int)) → w'.cell? ⟨w.heap.size, 0, none⟩ = some (.int .u32 (t : Int)) → w.heap.size + 1 < w'.heap.size → SF w' (w.heap.size + 1) w.heap.size n t := fun w' h1 h2 h3 => ⟨by rw [hq]; exact h1, h2, h3, by omega⟩
  have HS : Hid (SF ((w.alloc (.cells #[.int .u32 (t : Int)] 22)).alloc (.cells #[.int .u32 ((q - 1 : Nat) : Int)] 22)) (w.heap.size + 1) w.heap.size n t) := by
    refine hs _ ?_ ?_ (by simp)
    · have := cell_of_row _ (w.heap.size + 1) 0 #[.int .u32 ((q - 1 : Nat) : Int)] 22 (0, 0) (heap_alloc2_new w (.cells #[.int .u32 (t : Int)] 22) _)
      exact this
    · have := cell_of_row _ w.heap.size 0 #[.int .u32 (t : Int)] 22 (0, 0) ((heap_alloc_old _ (.cells #[.int .u32 ((q - 1 : Nat) : Int)] 22) (by simp)).trans (heap_alloc_new w _))
      exact this
  have HB : Hid (Below w.heap.size w ((w.alloc (.cells #[.int .u32 (t : Int)] 22)).alloc (.cells #[.int .u32 ((q - 1 : Nat) : Int)] 22))) := b1.alloc (by simp) _
  clear hs h b1
  go_enter Try.func20, Try.ntmps20
  go_wp2
  go_ret
  exact ⟨_, _, rfl, HS.out, HB.out⟩
end Go.Proofs.Ytcadpgpenjpdiaa
