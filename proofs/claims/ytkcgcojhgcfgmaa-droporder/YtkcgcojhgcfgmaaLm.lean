/- The level by a list's places, from the last on. -/
import Derived.Test.YtkcgcojhgcfgmaaLa
import Derived.Test.YtkcgcojhgcfgmaaPe
namespace Go.Proofs.Ytkcgcojhgcfgmaa

/-- The values at these places. -/
def vls (ds : List Int) (js : List Nat) : List Int := js.map fun j => ds.getD (cl ds.length j) 0
theorem vls_snoc (ds : List Int) (js : List Nat) (j : Nat) : vls ds (js ++ [j]) = vls ds js ++ [ds.getD (cl ds.length j) 0] := by simp [vls]
theorem vls_down (ds : List Int) {m : Nat} (hm : m ≤ ds.length) : vls ds (downTo ds.length m) = ds.reverse.take m := by
  apply List.ext_getElem?
  intro i
  by_cases h : i < m
  · have h1 : i < ds.length := by omega
    have h2 : cl ds.length (ds.length - 1 - i) = ds.length - 1 - i := cl_lt (by omega)
    rw [List.getElem?_take_of_lt h, List.getElem?_reverse h1]
    simp [vls, downTo, h, h2, List.getD_eq_getElem?_getD, show ds.length - 1 - i < ds.length by omega]
  · simp [vls, downTo, h]
    omega
/-- What stands between two rounds: s and n, so many are gone. -/
def LvG (ds : List Int) (s0 n0 : Int) (pre : List Nat) (a b : Int) : Prop := (∀ rest, lv (vls ds pre ++ rest) s0 n0 = lv rest a b) ∧ 1 ≤ b ∧ b ≤ 400 ∧ a ≤ 419430400 ∧ -((pre.length : Int) * 1048576) ≤ a
theorem LvG.nil {ds : List Int} {s0 n0 : Int} (h1 : 1 ≤ n0) (h2 : n0 ≤ 400) (h3 : 0 ≤ s0) (h4 : s0 ≤ 419430400) : LvG ds s0 n0 [] s0 n0 := ⟨fun _ => rfl, h1, h2, h4, by simpa using h3⟩
theorem LvG.go {ds : List Int} {s0 n0 : Int} {pre : List Nat} {a b : Int} (h : LvG ds s0 n0 pre a b) (x : Nat) (hx : 1 ≤ ds.getD (cl ds.length x) 0 ∧ ds.getD (cl ds.length x) 0 ≤ 1048576) (hg : ¬ (b < 2 ∨ ds.getD (cl ds.length x) 0 * b ≤ a)) : LvG ds s0 n0 (pre ++ [x]) (a - ds.getD (cl ds.length x) 0) (b - 1) := by
  obtain ⟨h1, h2, h3, h4, h5⟩ := h
  refine ⟨fun rest => ?_, ?_, by omega, by omega, ?_⟩
  · rw [vls_snoc, List.append_assoc, h1, List.singleton_append, lv_go _ hg]
  · rw [not_or] at hg; omega
  · rw [List.length_append, List.length_singleton]; push_cast; omega
/-- It has stopped. -/
def LvX (ds : List Int) (s0 n0 : Int) (pre : List Nat) (a b : Int) : Prop := ∀ rest, lv (vls ds pre ++ rest) s0 n0 = (a, b)
theorem LvG.stop {ds : List Int} {s0 n0 : Int} {pre : List Nat} {a b : Int} (h : LvG ds s0 n0 pre a b) (x : Nat) (hg : b < 2 ∨ ds.getD (cl ds.length x) 0 * b ≤ a) : LvX ds s0 n0 (pre ++ [x]) a b := fun rest => by
  rw [vls_snoc, List.append_assoc, h.1, List.singleton_append, lv_stop _ hg]
theorem LvG.all {ds : List Int} {s0 n0 : Int} {a b : Int} (h : LvG ds s0 n0 (downTo ds.length ds.length) a b) : lv ds.reverse s0 n0 = (a, b) := by
  have := h.1 []
  rw [vls_down ds (Nat.le_refl _), List.append_nil, List.take_of_length_le (by simp)] at this
  exact this
theorem LvX.all {ds : List Int} {s0 n0 : Int} {pre : List Nat} {a b : Int} (h : LvX ds s0 n0 pre a b) (hp : ∃ m, m ≤ ds.length ∧ pre = downTo ds.length m) : lv ds.reverse s0 n0 = (a, b) := by
  obtain ⟨m, hm, rfl⟩ := hp
  have := h (ds.reverse.drop m)
  rw [vls_down ds hm, List.take_append_drop] at this
  exact this
end Go.Proofs.Ytkcgcojhgcfgmaa
