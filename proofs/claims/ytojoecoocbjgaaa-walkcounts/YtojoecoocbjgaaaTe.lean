/- Slices of values in memory: what a slice of one-cell values reads as, and that it goes on reading so. -/
import Derived.Test.YtojoecoocbjgaaaB0
import Derived.WalkKit
import Derived.WalkSpells
import Derived.WalkLawsBesides
import Derived.Lib.Hide
import Derived.OpenShut
namespace Go.Proofs.Ytojoecoocbjgaaa
open Go.RowKit

/-- The slice at A of so many elements reads as the values vs. -/
def Vs (w : World) (A : Option Addr) (vs : List Value) : Prop :=
  0 < vs.length → ∃ b off : Nat, A = some ⟨b, off, none⟩ ∧ b < w.heap.size ∧
    ∀ j, j < vs.length → w.cell? ⟨b, off + j, none⟩ = vs[j]?

theorem Vs.nil {w : World} {A : Option Addr} : Vs w A [] := fun h => absurd h (by simp)
theorem Vs.below {w w' : World} {A : Option Addr} {vs : List Value} {B : Nat} (h : Vs w A vs) (hb : Below B w w') (hB : w.heap.size ≤ B) : Vs w' A vs :=
  fun h0 => by
    obtain ⟨b, off, rfl, hlt, hc⟩ := h h0
    exact ⟨b, off, rfl, Nat.lt_of_lt_of_le hlt hb.size, fun j hj => (hb.cell (p := ⟨b, off + j, none⟩) (Nat.lt_of_lt_of_le hlt hB)).trans (hc j hj)⟩
theorem Vs.later {w w' : World} {A : Option Addr} {vs : List Value} (h : Vs w A vs) (hb : Below w.heap.size w w') : Vs w' A vs := h.below hb (Nat.le_refl _)
theorem Vs.take {w : World} {A : Option Addr} {vs : List Value} (h : Vs w A vs) (n : Nat) : Vs w A (vs.take n) :=
  fun h0 => by
    obtain ⟨b, off, rfl, hlt, hc⟩ := h (by simp at h0; omega)
    refine ⟨b, off, rfl, hlt, fun j hj => ?_⟩
    simp at hj
    rw [hc j (by omega), List.getElem?_take, if_pos (by omega)]
/-- Behind the first s elements: where there are some. -/
theorem Vs.drop {w : World} {b off : Nat} {vs : List Value} (h : Vs w (some ⟨b, off, none⟩) vs) (s : Nat) : Vs w (some ⟨b, off + s, none⟩) (vs.drop s) :=
  fun h0 => by
    simp at h0
    obtain ⟨b', off', e, hlt, hc⟩ := h (by omega)
    simp only [Option.some.injEq, Addr.mk.injEq, and_true] at e
    obtain ⟨rfl, rfl⟩ := e
    refine ⟨b, off + s, rfl, hlt, fun j hj => ?_⟩
    simp at hj
    rw [Nat.add_assoc, hc (s + j) (by omega), List.getElem?_drop]
/-- Block g is just these values, of type T. -/
def Bs (T : Nat) (w : World) (g : Nat) (vs : List Value) : Prop := w.heap[g]? = some (.cells vs.toArray T (0, 0))
theorem Bs.lt {T : Nat} {w : World} {g : Nat} {vs : List Value} (h : Bs T w g vs) : g < w.heap.size := lt_of_block h
theorem Bs.cell {T : Nat} {w : World} {g : Nat} {vs : List Value} (h : Bs T w g vs) {j : Nat} (hj : j < vs.length) : w.cell? ⟨g, j, none⟩ = vs[j]? := by
  rw [cell_of_row w g j _ T (0, 0) h]
  simp
theorem Bs.frozen {T : Nat} {w : World} {g : Nat} {vs : List Value} (h : Bs T w g vs) (j : Nat) : w.frozen? ⟨g, j, none⟩ = false := frozen_of_row w g j _ T h
theorem Bs.vs {T : Nat} {w : World} {g : Nat} {vs : List Value} (h : Bs T w g vs) : Vs w (some ⟨g, 0, none⟩) vs :=
  fun _ => ⟨g, 0, rfl, h.lt, fun j hj => by rw [Nat.zero_add]; exact h.cell hj⟩
theorem Bs.set {T : Nat} {w : World} {g : Nat} {vs : List Value} (h : Bs T w g vs) (i : Nat) (v : Value) : Bs T (w.setCell ⟨g, i, none⟩ v) g (vs.set i v) := by
  unfold Bs at h ⊢
  rw [heap_setCell_same w g i _ T _ h]
  simp
theorem Bs.below {T : Nat} {w w' : World} {g B : Nat} {vs : List Value} (h : Bs T w g vs) (hb : Below B w w') (hg : g < B) : Bs T w' g vs := (hb.block g hg).trans h
/-- What 'make' lays. -/
theorem Bs.made (T : Nat) (w : World) (v : Value) (n : Nat) : Bs T (w.alloc (.cells (madeCells #[v] n) T)) w.heap.size (List.replicate n v) := by
  unfold Bs
  rw [heap_alloc_new]
  have := toList_madeCells_one v n
  congr 2
  apply Array.ext'
  rw [this]

/-- Bits and integers as values. -/
def bvs (t : List Bool) : List Value := t.map .bool
def ivs (l : List Int) : List Value := l.map (.int .i64)
theorem bvs_len (t : List Bool) : (bvs t).length = t.length := by simp [bvs]
theorem ivs_len (l : List Int) : (ivs l).length = l.length := by simp [ivs]
theorem bvs_at {t : List Bool} {j : Nat} (h : j < t.length) : (bvs t)[j]? = some (.bool (t.getD j false)) := by
  simp [bvs, List.getD_eq_getElem?_getD, h]
theorem ivs_at {l : List Int} {j : Nat} (h : j < l.length) : (ivs l)[j]? = some (.int .i64 (l.getD j 0)) := by
  simp [ivs, List.getD_eq_getElem?_getD, h]
theorem bvs_take (t : List Bool) (n : Nat) : bvs (t.take n) = (bvs t).take n := by simp [bvs]
theorem bvs_drop (t : List Bool) (n : Nat) : bvs (t.drop n) = (bvs t).drop n := by simp [bvs]
theorem ivs_take (t : List Int) (n : Nat) : ivs (t.take n) = (ivs t).take n := by simp [ivs]
theorem ivs_drop (t : List Int) (n : Nat) : ivs (t.drop n) = (ivs t).drop n := by simp [ivs]
theorem ivs_append (a b : List Int) : ivs (a ++ b) = ivs a ++ ivs b := by simp [ivs]
theorem bvs_append (a b : List Bool) : bvs (a ++ b) = bvs a ++ bvs b := by simp [bvs]

/-- A tape: the slice at A reads as the bits t. -/
def Tp (w : World) (A : Option Addr) (t : List Bool) : Prop := Vs w A (bvs t)
def Il (w : World) (A : Option Addr) (l : List Int) : Prop := Vs w A (ivs l)
theorem Tp.at {w : World} {A : Option Addr} {t : List Bool} (h : Tp w A t) (h0 : 0 < t.length) : ∃ b off : Nat, A = some ⟨b, off, none⟩ ∧ b < w.heap.size ∧ ∀ j, j < t.length → w.cell? ⟨b, off + j, none⟩ = some (.bool (t.getD j false)) := by
  obtain ⟨b, off, e, hlt, hc⟩ := h (by rw [bvs_len]; exact h0)
  exact ⟨b, off, e, hlt, fun j hj => by rw [hc j (by rw [bvs_len]; exact hj), bvs_at hj]⟩
theorem Il.at {w : World} {A : Option Addr} {l : List Int} (h : Il w A l) (h0 : 0 < l.length) : ∃ b off : Nat, A = some ⟨b, off, none⟩ ∧ b < w.heap.size ∧ ∀ j, j < l.length → w.cell? ⟨b, off + j, none⟩ = some (.int .i64 (l.getD j 0)) := by
  obtain ⟨b, off, e, hlt, hc⟩ := h (by rw [ivs_len]; exact h0)
  exact ⟨b, off, e, hlt, fun j hj => by rw [hc j (by rw [ivs_len]; exact hj), ivs_at hj]⟩
theorem Tp.nil {w : World} {A : Option Addr} : Tp w A [] := Vs.nil
theorem Il.nil {w : World} {A : Option Addr} : Il w A [] := Vs.nil
theorem Tp.later {w w' : World} {A : Option Addr} {t : List Bool} (h : Tp w A t) (hb : Below w.heap.size w w') : Tp w' A t := Vs.later h hb
theorem Il.later {w w' : World} {A : Option Addr} {l : List Int} (h : Il w A l) (hb : Below w.heap.size w w') : Il w' A l := Vs.later h hb
theorem Tp.take {w : World} {A : Option Addr} {t : List Bool} (h : Tp w A t) (n : Nat) : Tp w A (t.take n) := by
  unfold Tp; rw [bvs_take]; exact Vs.take h n
theorem Il.take {w : World} {A : Option Addr} {t : List Int} (h : Il w A t) (n : Nat) : Il w A (t.take n) := by
  unfold Il; rw [ivs_take]; exact Vs.take h n
theorem Tp.drop {w : World} {b off : Nat} {t : List Bool} (h : Tp w (some ⟨b, off, none⟩) t) (n : Nat) : Tp w (some ⟨b, off + n, none⟩) (t.drop n) := by
  unfold Tp; rw [bvs_drop]; exact Vs.drop h n
end Go.Proofs.Ytojoecoocbjgaaa
