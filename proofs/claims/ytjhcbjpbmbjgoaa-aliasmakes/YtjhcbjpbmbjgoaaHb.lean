/- Alias tables in memory. -/
import Derived.Test.YtjhcbjpbmbjgoaaHa
import Derived.Test.YtjhcbjpbmbjgoaaIv
import Derived.Laws.MakeOwn
namespace Go.Proofs.Ytjhcbjpbmbjgoaa
open Go.RowKit Go.Deep

/-- The cells of a table. -/
def avs : AT → List Value
  | [] => []
  | e :: r => .int .i64 e.1 :: .int .i64 e.2 :: avs r
theorem avs_len (S : AT) : (avs S).length = S.length * 2 := by
  induction S with
  | nil => rfl
  | cons e r ih => simp only [avs, List.length_cons, ih]; omega
theorem avs_at0 : ∀ {S : AT} {i : Nat}, i < S.length → (avs S)[i * 2]? = some (.int .i64 (lev S i))
  | [], i, h => by simp at h
  | e :: r, 0, h => by simp [avs, lev]
  | e :: r, i + 1, h => by
    have := avs_at0 (S := r) (i := i) (by simpa using h)
    rw [show (i + 1) * 2 = i * 2 + 1 + 1 by omega, avs, List.getElem?_cons_succ, List.getElem?_cons_succ, this]
    rfl
theorem avs_at1 : ∀ {S : AT} {i : Nat}, i < S.length → (avs S)[i * 2 + 1]? = some (.int .i64 (too S i))
  | [], i, h => by simp at h
  | e :: r, 0, h => by simp [avs, too]
  | e :: r, i + 1, h => by
    have := avs_at1 (S := r) (i := i) (by simpa using h)
    rw [show (i + 1) * 2 + 1 = i * 2 + 1 + 1 + 1 by omega, avs, List.getElem?_cons_succ, List.getElem?_cons_succ, this]
    rfl
theorem avs_set0 : ∀ {S : AT} {i : Nat} (x : Int), i < S.length → (avs S).set (i * 2) (.int .i64 x) = avs (S.set i (x, too S i))
  | [], i, x, h => by simp at h
  | e :: r, 0, x, h => by simp [avs, too]
  | e :: r, i + 1, x, h => by
    have := avs_set0 (S := r) (i := i) x (by simpa using h)
    rw [show (i + 1) * 2 = i * 2 + 1 + 1 by omega, avs, List.set_cons_succ, List.set_cons_succ, this]
    rfl
theorem avs_set1 : ∀ {S : AT} {i : Nat} (x : Int), i < S.length → (avs S).set (i * 2 + 1) (.int .i64 x) = avs (S.set i (lev S i, x))
  | [], i, x, h => by simp at h
  | e :: r, 0, x, h => by simp [avs, lev]
  | e :: r, i + 1, x, h => by
    have := avs_set1 (S := r) (i := i) x (by simpa using h)
    rw [show (i + 1) * 2 + 1 = i * 2 + 1 + 1 + 1 by omega, avs, List.set_cons_succ, List.set_cons_succ, this]
    rfl

/-- A slice of alias entries that is well formed and reads as S. -/
structure AP (w : World) (A : Option Addr) (ca : Nat) (S : AT) : Prop where
  il : 0 < S.length → ∃ b off : Nat, A = some ⟨b, off, none⟩ ∧ b < w.heap.size ∧ ∀ i, i < S.length → w.cell? ⟨b, off + i * 2, none⟩ = some (.int .i64 (lev S i)) ∧ w.cell? ⟨b, off + i * 2 + 1, none⟩ = some (.int .i64 (too S i))
  le : S.length ≤ ca
  cap : ca ≤ 9223372036854775807
  none : A = none → ca = 0
theorem AP.keep {w w' : World} {A : Option Addr} {ca : Nat} {S : AT} (h : AP w A ca S) (hs : w.heap.size ≤ w'.heap.size) (hk : ∀ b o, b < w.heap.size → w'.cell? ⟨b, o, Option.none⟩ = w.cell? ⟨b, o, Option.none⟩) : AP w' A ca S :=
  ⟨fun h0 => by
    obtain ⟨b, off, e, hb2, hc⟩ := h.il h0
    exact ⟨b, off, e, by omega, fun i hi => ⟨(hk b _ hb2).trans (hc i hi).1, (hk b _ hb2).trans (hc i hi).2⟩⟩, h.le, h.cap, h.none⟩
theorem AP.later {w w' : World} {A : Option Addr} {ca : Nat} {S : AT} (h : AP w A ca S) (hb : Below w.heap.size w w') : AP w' A ca S :=
  h.keep hb.size fun b o h2 => hb.cell (p := ⟨b, o, Option.none⟩) h2
/-- Block g is just this table. -/
def AB (w : World) (g : Nat) (S : AT) : Prop := Bs 41 w g (avs S)
theorem AB.lt {w : World} {g : Nat} {S : AT} (h : AB w g S) : g < w.heap.size := Bs.lt h
theorem AB.at {w : World} {g : Nat} {S : AT} (h : AB w g S) {i : Nat} (hi : i < S.length) : w.cell? ⟨g, i * 2, none⟩ = some (.int .i64 (lev S i)) ∧ w.cell? ⟨g, i * 2 + 1, none⟩ = some (.int .i64 (too S i)) :=
  ⟨(Bs.cell h (by rw [avs_len]; omega)).trans (avs_at0 hi), (Bs.cell h (by rw [avs_len]; omega)).trans (avs_at1 hi)⟩
theorem AB.frozen {w : World} {g : Nat} {S : AT} (h : AB w g S) (j : Nat) : w.frozen? ⟨g, j, none⟩ = false := Bs.frozen h j
theorem AB.set0 {w : World} {g : Nat} {S : AT} (h : AB w g S) {i : Nat} (hi : i < S.length) (x : Int) : AB (w.setCell ⟨g, i * 2, none⟩ (.int .i64 x)) g (S.set i (x, too S i)) := by
  unfold AB; rw [← avs_set0 x hi]; exact Bs.set h _ _
theorem AB.set1 {w : World} {g : Nat} {S : AT} (h : AB w g S) {i : Nat} (hi : i < S.length) (x : Int) : AB (w.setCell ⟨g, i * 2 + 1, none⟩ (.int .i64 x)) g (S.set i (lev S i, x)) := by
  unfold AB; rw [← avs_set1 x hi]; exact Bs.set h _ _
theorem AB.set {w : World} {g : Nat} {S : AT} (h : AB w g S) {i : Nat} (hi : i < S.length) (x y : Int) : AB ((w.setCell ⟨g, i * 2, none⟩ (.int .i64 x)).setCell ⟨g, i * 2 + 1, none⟩ (.int .i64 y)) g (S.set i (x, y)) := by
  have h1 := h.set0 hi x
  have h2 := h1.set1 (by simpa using hi) y
  rw [List.set_set] at h2
  have e : lev (S.set i (x, too S i)) i = x := by unfold lev; rw [getD_set_same hi]
  rw [e] at h2
  exact h2
theorem AB.later {w w' : World} {g : Nat} {S : AT} (h : AB w g S) (hb : Below w.heap.size w w') : AB w' g S := Bs.below h hb (Bs.lt h)
theorem AB.below {w w' : World} {B g : Nat} {S : AT} (h : AB w g S) (hb : Below B w w') (hg : g < B) : AB w' g S := Bs.below h hb hg
theorem AB.other {w : World} {g : Nat} {S : AT} (h : AB w g S) {a : Addr} (ha : g ≠ a.block) (x : Value) : AB (w.setCell a x) g S := by
  unfold AB Bs at *
  rw [Below.heap_setCell _ _ _ _ ha]; exact h
theorem AB.alloc {w : World} {g : Nat} {S : AT} (h : AB w g S) (o : Obj) : AB (w.alloc o) g S := by
  unfold AB Bs at *
  rw [Below.heap_alloc w o g (lt_of_block h)]; exact h
theorem AB.ap {w : World} {g : Nat} {S : AT} (h : AB w g S) (hl : S.length ≤ 9223372036854775807) : AP w (some ⟨g, 0, none⟩) S.length S :=
  ⟨fun _ => ⟨g, 0, rfl, Bs.lt h, fun i hi => by rw [Nat.zero_add]; exact h.at hi⟩, Nat.le_refl _, hl, fun h => by cases h⟩
/-- What 'make' lays. -/
theorem avs_zero (n : Nat) : (madeCells #[.int .i64 0, .int .i64 0] n).size = n := size_madeCells _ _
theorem madeA (n : Nat) : (madeCells #[.int .i64 0, .int .i64 0] (n * 2)).toList = avs (List.replicate n (0, 0)) := by
  apply List.ext_getElem?
  intro j
  by_cases h : j < n * 2
  · have h1 : (madeCells #[.int .i64 0, .int .i64 0] (n * 2)).toList[j]? = some (.int .i64 0) := by
      simp only [madeCells, Array.toList_map, List.getElem?_map, Array.toList_range, List.getElem?_range h, Option.map_some]
      have : j % 2 = 0 ∨ j % 2 = 1 := by omega
      rcases this with e | e <;> simp [e]
    rw [h1]
    obtain ⟨m, e⟩ : ∃ m, j = m * 2 ∨ j = m * 2 + 1 := ⟨j / 2, by omega⟩
    have hm : m < n := by omega
    have hl : m < (List.replicate n ((0 : Int), (0 : Int))).length := by simpa using hm
    rcases e with rfl | rfl
    · rw [avs_at0 hl]; simp [lev, List.getD_eq_getElem?_getD, hm]
    · rw [avs_at1 hl]; simp [too, List.getD_eq_getElem?_getD, hm]
  · rw [List.getElem?_eq_none (by simp [madeCells]; omega), List.getElem?_eq_none (by rw [avs_len]; simp; omega)]
theorem AB.made (w : World) (n : Nat) : AB (w.alloc (.cells (madeCells #[.int .i64 0, .int .i64 0] (n * 2)) 41)) w.heap.size (List.replicate n (0, 0)) := by
  unfold AB Bs
  rw [heap_alloc_new, ← madeA]
theorem info_alias : (Try.prog.info? 41).map (fun i => (i.zero, i.size, i.bytes)) = some (some (.agg #[.int .i64 0, .int .i64 0]), 2, 16) := by kernel_rfl

/-- Weights that are in order. -/
def WR (W : List Int) : Prop := 0 < W.length ∧ W.length ≤ 400 ∧ ∀ x ∈ W, 0 ≤ x ∧ x ≤ 1048576
instance (W : List Int) : Decidable (WR W) := inferInstanceAs (Decidable (_ ∧ _ ∧ _))
/-- The sum and an error. -/
def sumC (W : List Int) : Int × Int := if WR W then (if sumW W = 0 then (0, 3) else (sumW W, 0)) else (0, 2)
theorem sumW_le : ∀ {W : List Int}, (∀ x ∈ W, 0 ≤ x ∧ x ≤ 1048576) → 0 ≤ sumW W ∧ sumW W ≤ 1048576 * (W.length : Int)
  | [], _ => by simp [sumW]
  | x :: r, h => by
    have h1 := sumW_le (W := r) (fun y hy => h y (List.mem_cons_of_mem _ hy))
    have h2 := h x List.mem_cons_self
    rw [sumW, List.length_cons]
    omega
theorem take_snocW {W : List Int} {k : Nat} (h : k < W.length) : W.take (k + 1) = W.take k ++ [W.getD k 0] := by
  rw [List.take_succ_eq_append_getElem h]
  simp [List.getD_eq_getElem?_getD, h]
theorem memW {W : List Int} {k : Nat} (h : k < W.length) : W.getD k 0 ∈ W := by
  rw [List.getD_eq_getElem?_getD, List.getElem?_eq_getElem h]
  exact List.getElem_mem h

/-- What a table has at a place for a level. -/
def drawA (S : AT) (p v : Int) : Int × Int := if 0 ≤ p ∧ p < S.length then (if v < lev S p.toNat then (p, 0) else (too S p.toNat, 0)) else (0, 3)
end Go.Proofs.Ytjhcbjpbmbjgoaa
