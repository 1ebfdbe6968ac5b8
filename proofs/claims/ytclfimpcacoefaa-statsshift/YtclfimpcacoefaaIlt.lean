/- Two or three lists that stand in the code, one behind the other (cut out of V9). -/
import Derived.Test.YtclfimpcacoefaaOi
namespace Go.Proofs.Ytclfimpcacoefaa
open Go.RowKit Go.Deep

theorem ip_lit2 (w : World) (o : Obj) (l : List Int) (hl : l.length ≤ 1000) : IP ((w.alloc o).alloc (.cells (ivs l).toArray 3)) (some ⟨w.heap.size + 1, 0, none⟩) l.length l := by
  have := ip_lit (w.alloc o) l hl
  rw [show (w.alloc o).heap.size = w.heap.size + 1 by simp] at this
  exact this
theorem ip_lit3 (w : World) (o o2 : Obj) (l : List Int) (hl : l.length ≤ 1000) : IP (((w.alloc o).alloc o2).alloc (.cells (ivs l).toArray 3)) (some ⟨w.heap.size + 1 + 1, 0, none⟩) l.length l := by
  have := ip_lit ((w.alloc o).alloc o2) l hl
  rw [show ((w.alloc o).alloc o2).heap.size = w.heap.size + 1 + 1 by simp] at this
  exact this
end Go.Proofs.Ytclfimpcacoefaa
