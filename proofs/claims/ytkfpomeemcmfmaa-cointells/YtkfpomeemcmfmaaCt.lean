/- Plain mathematics of tosses until the first yes. -/
import Derived.Test.YtkfpomeemcmfmaaCm
namespace Go.Proofs.Ytkfpomeemcmfmaa

def tsh (k c : Nat) : Option (Nat × Nat) → Option (Nat × Nat)
  | none => none
  | some p => some (k + p.1, c + p.2)
theorem tsh_zero (o : Option (Nat × Nat)) : tsh 0 0 o = o := by cases o <;> simp [tsh]
theorem tsh_tsh (a b c e : Nat) (o : Option (Nat × Nat)) : tsh a b (tsh c e o) = tsh (a + c) (b + e) o := by
  cases o with
  | none => rfl
  | some p => simp [tsh]; omega
def turnG (n d : Nat) : Nat → List Bool → Option (Nat × Nat)
  | 0, _ => none
  | f + 1, t => match tosG n d t with
    | none => none
    | some (true, u) => some (1, u)
    | some (false, u) => tsh 1 u (turnG n d f (t.drop u))
theorem tosG_pos {n d : Nat} {t : List Bool} {u : Nat} (hn : 0 < n) (h : tosG n d t = some (false, u)) : 0 < u := by
  unfold tosG at h
  split at h
  · simp at h
  · have g : ∀ {o : Option (Bool × Nat)}, csh 1 o = some (false, u) → 0 < u := by
      intro o hh
      cases o with
      | none => simp [csh] at hh
      | some p => simp [csh] at hh; omega
    cases t with
    | nil => rw [tossF_end (by omega)] at h; simp at h
    | cons x t =>
      simp only [tossF] at h
      repeat' split at h
      all_goals first
        | exact g h
        | omega
        | (simp at h; done)
        | (simp at h; omega)
theorem turnG_fuel {n d : Nat} (hn : 0 < n) : ∀ (f g : Nat) (t : List Bool), t.length < f → t.length < g → turnG n d f t = turnG n d g t := by
  intro f
  induction f with
  | zero => intro g t h; omega
  | succ f ih =>
    intro g t h1 h2
    obtain ⟨g, rfl⟩ : ∃ g', g = g' + 1 := ⟨g - 1, by omega⟩
    rw [turnG, turnG]
    cases e : tosG n d t with
    | none => rfl
    | some p =>
      obtain ⟨b, u⟩ := p
      cases b with
      | true => rfl
      | false =>
        have := tosG_pos hn e
        have := tosG_le e
        simp only []
        rw [ih g (t.drop u) (by simp; omega) (by simp; omega)]
def turnF (n d : Nat) (t : List Bool) : Option (Nat × Nat) := turnG n d (t.length + 1) t
theorem turnF_none {n d : Nat} {t : List Bool} (h : tosG n d t = none) : turnF n d t = none := by simp [turnF, turnG, h]
theorem turnF_yes {n d u : Nat} {t : List Bool} (h : tosG n d t = some (true, u)) : turnF n d t = some (1, u) := by simp [turnF, turnG, h]
theorem turnF_no {n d u : Nat} {t : List Bool} (hn : 0 < n) (h : tosG n d t = some (false, u)) : turnF n d t = tsh 1 u (turnF n d (t.drop u)) := by
  have := tosG_pos hn h
  have := tosG_le h
  unfold turnF
  rw [turnG, h]
  simp only []
  rw [turnG_fuel hn t.length ((t.drop u).length + 1) (t.drop u) (by simp; omega) (by omega)]
/-- How many tosses, how many bits. -/
theorem turnF_le {n d : Nat} (hn : 0 < n) : ∀ (m : Nat) (t : List Bool), t.length ≤ m → ∀ {k u}, turnF n d t = some (k, u) → 0 < k ∧ k ≤ t.length + 1 ∧ u ≤ t.length := by
  intro m
  induction m with
  | zero =>
    intro t ht k u h
    cases e : tosG n d t with
    | none => rw [turnF_none e] at h; simp at h
    | some p =>
      obtain ⟨b, v⟩ := p
      have h1 := tosG_le e
      cases b with
      | true => rw [turnF_yes e] at h; simp at h; omega
      | false => have := tosG_pos hn e; omega
  | succ m ih =>
    intro t ht k u h
    cases e : tosG n d t with
    | none => rw [turnF_none e] at h; simp at h
    | some p =>
      obtain ⟨b, v⟩ := p
      have h1 := tosG_le e
      cases b with
      | true => rw [turnF_yes e] at h; simp at h; omega
      | false =>
        have h2 := tosG_pos hn e
        rw [turnF_no hn e] at h
        cases e2 : turnF n d (t.drop v) with
        | none => rw [e2] at h; simp [tsh] at h
        | some q =>
          obtain ⟨k', u'⟩ := q
          rw [e2] at h
          simp [tsh] at h
          have := ih (t.drop v) (by simp; omega) e2
          simp at this
          omega
def tans : Option (Nat × Nat) → Int × Int × Int
  | none => (0, 0, 7)
  | some p => ((p.1 : Int), (p.2 : Int), 0)
/-- Turn at every argument. -/
def turn (t : List Bool) (n d : Int) : Int × Int × Int := if rgt n d && decide (n ≠ 0) then tans (turnF n.toNat d.toNat t) else (0, 0, 2)
theorem turn_bad {t : List Bool} {n d : Int} (h : rgt n d = false ∨ n = 0) : turn t n d = (0, 0, 2) := by
  rcases h with h | h <;> simp [turn, h]
theorem turn_good {t : List Bool} {n d : Nat} (h0 : 0 < n) (h1 : 1 ≤ d) (h2 : d ≤ 1099511627776) (h3 : n ≤ d) : turn t n d = tans (turnF n d t) := by
  have : rgt n d = true := rgt_iff.2 (by omega)
  simp [turn, this]; omega
theorem turn_cases (t : List Bool) (n d : Int) : (turn t n d = (0, 0, 2) ∨ turn t n d = (0, 0, 7)) ∨ (∃ a b k u : Nat, n = a ∧ d = b ∧ 1 ≤ b ∧ b ≤ 1099511627776 ∧ a ≤ b ∧ 0 < a ∧
    turnF a b t = some (k, u) ∧ 0 < k ∧ k ≤ t.length + 1 ∧ u ≤ t.length ∧ turn t n d = ((k : Int), (u : Int), 0)) := by
  by_cases h : rgt n d = false ∨ n = 0
  · exact .inl (.inl (turn_bad h))
  · rw [not_or] at h
    have h' := rgt_iff.1 (by simpa using h.1)
    obtain ⟨a, rfl⟩ : ∃ a : Nat, n = a := ⟨n.toNat, by omega⟩
    obtain ⟨b, rfl⟩ : ∃ b : Nat, d = b := ⟨d.toNat, by omega⟩
    rw [turn_good (by omega) (by omega) (by omega) (by omega)]
    cases e : turnF a b t with
    | none => exact .inl (.inr rfl)
    | some p =>
      obtain ⟨k, u⟩ := p
      have := turnF_le (by omega) t.length t (Nat.le_refl _) e
      exact .inr ⟨a, b, k, u, rfl, rfl, by omega, by omega, by omega, by omega, e, this.1, this.2.1, this.2.2, rfl⟩
end Go.Proofs.Ytkfpomeemcmfmaa
