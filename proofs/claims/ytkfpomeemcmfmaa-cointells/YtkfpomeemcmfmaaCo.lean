/- Plain mathematics of a choice by weights. -/
import Derived.Test.YtkfpomeemcmfmaaCt
namespace Go.Proofs.Ytkfpomeemcmfmaa

/-- The sum of weights, where they are some. -/
def totF : Nat → List Int → Option Nat
  | s, [] => some s
  | s, x :: l => if x < 0 ∨ 1099511627776 - (s : Int) < x then none else totF (s + x.toNat) l
def total (l : List Int) : Int × Int := match totF 0 l with
  | none => (0, 2)
  | some s => if s = 0 then (0, 3) else ((s : Int), 0)
/-- Natural numbers as integers. -/
def nis (ws : List Nat) : List Int := ws.map (fun x : Nat => (x : Int))
theorem nis_len (ws : List Nat) : (nis ws).length = ws.length := by simp [nis]
theorem nis_at {ws : List Nat} {i : Nat} (h : i < ws.length) : (nis ws).getD i 0 = ((ws.getD i 0 : Nat) : Int) := by
  simp [nis, List.getD_eq_getElem?_getD, h]
theorem totF_some : ∀ {l : List Int} {s r : Nat}, totF s l = some r → s ≤ 1099511627776 → ∃ ws : List Nat, l = nis ws ∧ r = s + ws.sum ∧ r ≤ 1099511627776 := by
  intro l
  induction l with
  | nil => intro s r h hs; simp [totF] at h; exact ⟨[], rfl, by simp; omega, by omega⟩
  | cons x l ih =>
    intro s r h hs
    simp only [totF] at h
    split at h
    · simp at h
    · rename_i hx
      obtain ⟨ws, rfl, hr, hle⟩ := ih h (by omega)
      refine ⟨x.toNat :: ws, by simp [nis]; omega, by simp; omega, hle⟩
theorem totF_bad {s : Nat} {x : Int} {l : List Int} (h : x < 0 ∨ 1099511627776 - (s : Int) < x) : totF s (x :: l) = none := by simp [totF, h]
theorem totF_ok {s : Nat} {x : Int} {l : List Int} (h : ¬ (x < 0 ∨ 1099511627776 - (s : Int) < x)) : totF s (x :: l) = totF (s + x.toNat) l := by rw [totF, if_neg h]
theorem idrop_cons {l : List Int} {k : Nat} (h : k < l.length) : l.drop k = l.getD k 0 :: l.drop (k + 1) := by
  rw [List.drop_eq_getElem_cons h]; simp [List.getD_eq_getElem?_getD, h]
theorem ndrop_cons {l : List Nat} {k : Nat} (h : k < l.length) : l.drop k = l.getD k 0 :: l.drop (k + 1) := by
  rw [List.drop_eq_getElem_cons h]; simp [List.getD_eq_getElem?_getD, h]
/-- The choice: what is left of the weights is their sum. -/
def ofF : List Nat → Nat → List Bool → Option (Nat × Nat)
  | [], _, _ => none
  | x :: ws, left, t => match tosG x left t with
    | none => none
    | some (true, u) => some (0, u)
    | some (false, u) => tsh 1 u (ofF ws (left - x) (t.drop u))
theorem ofF_none {x : Nat} {ws : List Nat} {left : Nat} {t : List Bool} (h : tosG x left t = none) : ofF (x :: ws) left t = none := by simp [ofF, h]
theorem ofF_yes {x : Nat} {ws : List Nat} {left u : Nat} {t : List Bool} (h : tosG x left t = some (true, u)) : ofF (x :: ws) left t = some (0, u) := by simp [ofF, h]
theorem ofF_no {x : Nat} {ws : List Nat} {left u : Nat} {t : List Bool} (h : tosG x left t = some (false, u)) : ofF (x :: ws) left t = tsh 1 u (ofF ws (left - x) (t.drop u)) := by simp [ofF, h]
theorem tosG_no {x left u : Nat} {t : List Bool} (h : tosG x left t = some (false, u)) : x ≠ left := by
  intro e; simp [tosG, e] at h
/-- The choice at every argument. -/
def off (t : List Bool) (l : List Int) : Int × Int × Int := match totF 0 l with
  | none => (0, 0, 2)
  | some s => if s = 0 then (0, 0, 3) else tans (ofF (l.map Int.toNat) s t)
theorem nis_toNat (ws : List Nat) : (nis ws).map Int.toNat = ws := by
  induction ws with
  | nil => rfl
  | cons x ws ih => simp only [nis, List.map_cons] at ih ⊢; rw [ih]; simp
/-- The ways of the sum. -/
theorem tot_cases (l : List Int) : (totF 0 l = none) ∨ (totF 0 l = some 0) ∨ ∃ ws : List Nat, l = nis ws ∧ 0 < ws.sum ∧ ws.sum ≤ 1099511627776 ∧ totF 0 l = some ws.sum := by
  cases h : totF 0 l with
  | none => exact .inl rfl
  | some r =>
    obtain ⟨ws, rfl, hr, hle⟩ := totF_some h (by omega)
    by_cases h0 : r = 0
    · exact .inr (.inl (by rw [h0]))
    · exact .inr (.inr ⟨ws, rfl, by omega, by omega, by rw [hr]; simp⟩)
theorem off_good {t : List Bool} {ws : List Nat} (h : 0 < ws.sum) (h2 : totF 0 (nis ws) = some ws.sum) : off t (nis ws) = tans (ofF ws ws.sum t) := by
  unfold off
  rw [h2]
  simp only []
  rw [if_neg (by omega), nis_toNat]
end Go.Proofs.Ytkfpomeemcmfmaa
