/- Digits of 32 bits in memory: what a slice of them reads as, and that it goes on reading so. -/
import Derived.Test.YtclfimpcacoefaaRows
import Derived.Test.YtclfimpcacoefaaHm
import Derived.WalkKit
import Derived.WalkSpells
import Derived.WalkLawsBesides
import Derived.Lib.Hide
namespace Go.Proofs.Ytclfimpcacoefaa.H
open Go.RowKit

theorem retB {a b : Bool} (h : a = b) : Ending.returned (.bool a) = .returned (.bool b) := by rw [h]
theorem retI {k : IntKind} {a b : Int} (h : a = b) : Ending.returned (.int k a) = .returned (.int k b) := by rw [h]
theorem eqz_no {x : Nat} (h : x ≠ 0) : ((x : Int) == 0) = false := by
  rw [beq_eq_false_iff_ne]; omega
theorem nez_yes {x : Nat} (h : x ≠ 0) : ((x : Int) != 0) = true := by
  rw [bne_iff_ne]; omega
theorem retS {A : Option Addr} {a b c : Nat} (h : a = b) : Ending.returned (.slice A a c) = .returned (.slice A b c) := by rw [h]

/-- The slice at A of so many elements reads as the words xs. -/
def Wd (w : World) (A : Option Addr) (xs : List Nat) : Prop :=
  Sm xs ∧ (0 < xs.length → ∃ b off : Nat, A = some ⟨b, off, none⟩ ∧ (b < w.heap.size ∧ ∃ cs fr, w.heap[b]? = some (.cells cs 63 fr)) ∧
    ∀ j, j < xs.length → w.cell? ⟨b, off + j, none⟩ = some (.int .u32 (wd xs j : Int)))

theorem Wd.nil {w : World} {A : Option Addr} : Wd w A [] := ⟨Sm.nil, by simp⟩
theorem Wd.below {w w' : World} {A : Option Addr} {xs : List Nat} (h : Wd w A xs) (hb : Below w.heap.size w w') : Wd w' A xs :=
  ⟨h.1, fun h0 => by
    obtain ⟨b, off, rfl, ⟨hlt, cs, fr, hcs⟩, hc⟩ := h.2 h0
    exact ⟨b, off, rfl, ⟨Nat.lt_of_lt_of_le hlt hb.size, cs, fr, (hb.block b hlt).trans hcs⟩, fun j hj => (hb.cell (p := ⟨b, off + j, none⟩) hlt).trans (hc j hj)⟩⟩
theorem Wd.take {w : World} {A : Option Addr} {xs : List Nat} (h : Wd w A xs) (n : Nat) : Wd w A (xs.take n) :=
  ⟨h.1.take n, fun h0 => by
    obtain ⟨b, off, rfl, hlt, hc⟩ := h.2 (by simp at h0; omega)
    refine ⟨b, off, rfl, hlt, fun j hj => ?_⟩
    simp at hj
    rw [hc j (by omega), wd_take (by omega)]⟩
/-- The words as cells. -/
def cellsOf (xs : List Nat) : List Value := xs.map fun (x : Nat) => .int .u32 (x : Int)
theorem cellsOf_len (xs : List Nat) : (cellsOf xs).length = xs.length := by simp [cellsOf]
theorem cellsOf_at {xs : List Nat} {j : Nat} (h : j < xs.length) : (cellsOf xs)[j]? = some (.int .u32 (wd xs j : Int)) := by
  simp [cellsOf, wd_in h]
/-- Block g is just these words. -/
def Bk (w : World) (g : Nat) (xs : List Nat) : Prop := w.heap[g]? = some (.cells (cellsOf xs).toArray 63 (0, 0))
theorem Bk.lt {w : World} {g : Nat} {xs : List Nat} (h : Bk w g xs) : g < w.heap.size := lt_of_block h
theorem Bk.cell {w : World} {g : Nat} {xs : List Nat} (h : Bk w g xs) {j : Nat} (hj : j < xs.length) : w.cell? ⟨g, j, none⟩ = some (.int .u32 (wd xs j : Int)) := by
  rw [cell_of_row w g j _ 63 (0, 0) h]
  simp [cellsOf_at hj]
theorem Bk.frozen {w : World} {g : Nat} {xs : List Nat} (h : Bk w g xs) (j : Nat) : w.frozen? ⟨g, j, none⟩ = false := frozen_of_row w g j _ 63 h
theorem Bk.wd {w : World} {g : Nat} {xs : List Nat} (h : Bk w g xs) (hs : Sm xs) : Wd w (some ⟨g, 0, none⟩) xs :=
  ⟨hs, fun _ => ⟨g, 0, rfl, ⟨h.lt, _, _, h⟩, fun j hj => by rw [Nat.zero_add]; exact h.cell hj⟩⟩
theorem Bk.set {w : World} {g : Nat} {xs : List Nat} (h : Bk w g xs) (i x : Nat) : Bk (w.setCell ⟨g, i, none⟩ (.int .u32 (x : Int))) g (xs.set i x) := by
  unfold Bk at h ⊢
  rw [heap_setCell_same w g i _ 63 _ h]
  simp [cellsOf, List.map_set]
theorem Bk.below {w w' : World} {g B : Nat} {xs : List Nat} (h : Bk w g xs) (hb : Below B w w') (hg : g < B) : Bk w' g xs := (hb.block g hg).trans h
/-- What 'make' lays. -/
theorem Bk.made (w : World) (n : Nat) : Bk (w.alloc (.cells (madeCells #[.int .u32 0] n) 63)) w.heap.size (List.replicate n 0) := by
  unfold Bk
  rw [heap_alloc_new]
  have := toList_madeCells_one (.int .u32 0) n
  congr 2
  apply Array.ext'
  rw [this]
  simp [cellsOf]
theorem wd_replicate (n j : Nat) : wd (List.replicate n 0) j = 0 := by
  unfold wd; rw [List.getD_eq_getElem?_getD, List.getElem?_replicate]; split <;> rfl

end Go.Proofs.Ytclfimpcacoefaa.H
