/- Plain mathematics of coins: a toss, tosses until the first yes, a choice by weights. -/
import Derived.Test.YtkfpomeemcmfmaaRows
namespace Go.Proofs.Ytkfpomeemcmfmaa

/-- A result behind k bits that were looked at ahead. -/
def csh (k : Nat) : Option (Bool × Nat) → Option (Bool × Nat)
  | none => none
  | some p => some (p.1, k + p.2)
theorem csh_zero (o : Option (Bool × Nat)) : csh 0 o = o := by cases o <;> simp [csh]
theorem csh_csh (a b : Nat) (o : Option (Bool × Nat)) : csh a (csh b o) = csh (a + b) o := by
  cases o with
  | none => rfl
  | some p => simp [csh]; omega
/-- The toss: what is left of the fraction is r / d. -/
def tossF (d : Nat) : Nat → List Bool → Option (Bool × Nat)
  | r, [] => if r = 0 then some (false, 0) else none
  | r, b :: t => if r = 0 then some (false, 0) else
      if d ≤ 2 * r then (if b then csh 1 (tossF d (2 * r - d) t) else some (true, 1))
      else (if b then some (false, 1) else csh 1 (tossF d (2 * r) t))
theorem tossF_zero (d : Nat) (t : List Bool) : tossF d 0 t = some (false, 0) := by cases t <;> simp [tossF]
theorem tossF_end {d r : Nat} (h : r ≠ 0) : tossF d r [] = none := by simp [tossF, h]
theorem drop_cons {t : List Bool} {k : Nat} (h : k < t.length) : t.drop k = t.getD k false :: t.drop (k + 1) := by
  rw [List.drop_eq_getElem_cons h]; simp [List.getD_eq_getElem?_getD, h]
theorem toss_diff {d r k : Nat} {t : List Bool} (hr : r ≠ 0) (hk : k < t.length) (h : t.getD k false ≠ decide (d ≤ 2 * r)) : tossF d r (t.drop k) = some (decide (d ≤ 2 * r), 1) := by
  rw [drop_cons hk, tossF, if_neg hr]
  generalize t.getD k false = b at *
  by_cases e : d ≤ 2 * r
  · simp [e] at h; simp [e, h]
  · simp [e] at h; simp [e, h]
theorem toss_high {d r k : Nat} {t : List Bool} (hr : r ≠ 0) (hk : k < t.length) (e : d ≤ 2 * r) (h : t.getD k false = true) : tossF d r (t.drop k) = csh 1 (tossF d (2 * r - d) (t.drop (k + 1))) := by
  rw [drop_cons hk, tossF, if_neg hr, if_pos e, h]; rfl
theorem toss_low {d r k : Nat} {t : List Bool} (hr : r ≠ 0) (hk : k < t.length) (e : ¬ d ≤ 2 * r) (h : t.getD k false = false) : tossF d r (t.drop k) = csh 1 (tossF d (2 * r) (t.drop (k + 1))) := by
  rw [drop_cons hk, tossF, if_neg hr, if_neg e, h]; rfl
theorem toss_none {d r k : Nat} {t : List Bool} (hr : r ≠ 0) (hk : k = t.length) : tossF d r (t.drop k) = none := by
  subst hk; rw [List.drop_length, tossF_end hr]
theorem tossF_le {d : Nat} : ∀ {t : List Bool} {r : Nat} {b : Bool} {u : Nat}, tossF d r t = some (b, u) → u ≤ t.length := by
  intro t
  induction t with
  | nil => intro r b u h; simp only [tossF] at h; split at h <;> simp at h; omega
  | cons x t ih =>
    intro r b u h
    have g : ∀ {r' b' u'}, csh 1 (tossF d r' t) = some (b', u') → u' ≤ (x :: t).length := by
      intro r' b' u' hh
      cases e : tossF d r' t with
      | none => rw [e] at hh; simp [csh] at hh
      | some p =>
        obtain ⟨pb, pu⟩ := p
        rw [e] at hh
        simp [csh] at hh
        have := ih e
        simp
        omega
    simp only [tossF] at h
    repeat' split at h
    all_goals first
      | exact g h
      | (simp at h; simp; omega)

/-- A probability that is one. -/
def rgt (n d : Int) : Bool := decide (1 ≤ d) && decide (d ≤ 1099511627776) && decide (0 ≤ n) && decide (n ≤ d)
theorem rgt_iff {n d : Int} : rgt n d = true ↔ 1 ≤ d ∧ d ≤ 1099511627776 ∧ 0 ≤ n ∧ n ≤ d := by
  simp [rgt]; omega
/-- The toss behind the check of its fraction: certain where n is d. -/
def tosG (n d : Nat) (t : List Bool) : Option (Bool × Nat) := if n = d then some (true, 0) else tossF d n t
/-- The toss at every argument. -/
def cans : Option (Bool × Nat) → Bool × Int × Int
  | none => (false, 0, 7)
  | some p => (p.1, (p.2 : Int), 0)
def toss (t : List Bool) (n d : Int) : Bool × Int × Int := if rgt n d then cans (tosG n.toNat d.toNat t) else (false, 0, 2)
theorem toss_bad {t : List Bool} {n d : Int} (h : rgt n d = false) : toss t n d = (false, 0, 2) := by simp [toss, h]
theorem toss_good {t : List Bool} {n d : Nat} (h1 : 1 ≤ d) (h2 : d ≤ 1099511627776) (h3 : n ≤ d) : toss t n d = cans (tosG n d t) := by
  have : rgt n d = true := rgt_iff.2 (by omega)
  simp [toss, this]
theorem tosG_le {n d : Nat} {t : List Bool} {b : Bool} {u : Nat} (h : tosG n d t = some (b, u)) : u ≤ t.length := by
  unfold tosG at h
  split at h
  · simp at h; omega
  · exact tossF_le h
/-- The ways of a toss. -/
theorem toss_cases (t : List Bool) (n d : Int) : (rgt n d = false ∧ toss t n d = (false, 0, 2)) ∨ (∃ a b : Nat, n = a ∧ d = b ∧ 1 ≤ b ∧ b ≤ 1099511627776 ∧ a ≤ b ∧
    ((tosG a b t = none ∧ toss t n d = (false, 0, 7)) ∨ ∃ (y : Bool) (u : Nat), tosG a b t = some (y, u) ∧ u ≤ t.length ∧ toss t n d = (y, (u : Int), 0))) := by
  cases h : rgt n d with
  | false => exact .inl ⟨rfl, toss_bad h⟩
  | true =>
    right
    have h' := rgt_iff.1 h
    refine ⟨n.toNat, d.toNat, by omega, by omega, by omega, by omega, by omega, ?_⟩
    have e : toss t n d = cans (tosG n.toNat d.toNat t) := by simp [toss, h]
    cases g : tosG n.toNat d.toNat t with
    | none => exact .inl ⟨rfl, by rw [e, g]; rfl⟩
    | some p => exact .inr ⟨p.1, p.2, rfl, tosG_le g, by rw [e, g]; rfl⟩

/-- A greater fraction says yes where a smaller one does. -/
theorem tossF_more {p q : Nat} (hp : 0 < p) (hq : 0 < q) : ∀ (t : List Bool) (r s : Nat), r * q ≤ s * p → ∀ {u b v}, tossF p r t = some (true, u) → tossF q s t = some (b, v) → b = true := by
  intro t
  induction t with
  | nil => intro r s _ u b v h; simp only [tossF] at h; split at h <;> simp at h
  | cons x t ih =>
    intro r s hrs u b v h g
    have shift : ∀ {o : Option (Bool × Nat)} {c w}, csh 1 o = some (c, w) → ∃ w', o = some (c, w') := by
      intro o c w hh
      cases o with
      | none => simp [csh] at hh
      | some p => simp [csh] at hh; exact ⟨p.2, by rw [← hh.1]⟩
    simp only [tossF] at h g
    by_cases r0 : r = 0
    · simp [r0] at h
    have s0 : s ≠ 0 := by
      intro e; subst e
      have : 0 < r * q := Nat.mul_pos (by omega) hq
      omega
    rw [if_neg r0] at h
    rw [if_neg s0] at g
    have hm : p ≤ 2 * r → q ≤ 2 * s := by
      intro e
      have h1 : p * q ≤ 2 * r * q := Nat.mul_le_mul_right q e
      have h2 : 2 * r * q ≤ 2 * s * p := by rw [Nat.mul_assoc, Nat.mul_assoc]; omega
      have h3 : p * q ≤ p * (2 * s) := by rw [Nat.mul_comm p (2 * s)]; omega
      exact Nat.le_of_mul_le_mul_left h3 hp
    by_cases e1 : p ≤ 2 * r
    · have e2 := hm e1
      rw [if_pos e1] at h
      rw [if_pos e2] at g
      cases x with
      | false => simp at g; exact g.1
      | true =>
        obtain ⟨u', h'⟩ := shift h
        obtain ⟨v', g'⟩ := shift g
        refine ih _ _ ?_ h' g'
        rw [Nat.sub_mul, Nat.sub_mul, Nat.mul_assoc, Nat.mul_assoc, Nat.mul_comm q p]
        omega
    · rw [if_neg e1] at h
      cases x with
      | true => simp at h
      | false =>
        by_cases e2 : q ≤ 2 * s
        · rw [if_pos e2] at g
          simp at g; exact g.1
        · rw [if_neg e2] at g
          obtain ⟨u', h'⟩ := shift h
          obtain ⟨v', g'⟩ := shift g
          refine ih _ _ ?_ h' g'
          rw [Nat.mul_assoc, Nat.mul_assoc]
          omega
theorem tosG_more {a p c q : Nat} (hp : 0 < p) (hq : 0 < q) (ha : a ≤ p) (hc : c ≤ q) (t : List Bool) (h : a * q ≤ c * p) {u b v} (h1 : tosG a p t = some (true, u)) (h2 : tosG c q t = some (b, v)) : b = true := by
  unfold tosG at h1 h2
  by_cases e2 : c = q
  · rw [if_pos e2] at h2; simp at h2; exact h2.1
  · rw [if_neg e2] at h2
    by_cases e1 : a = p
    · subst e1
      have : q ≤ c := Nat.le_of_mul_le_mul_left (by rw [Nat.mul_comm a c]; exact h) hp
      omega
    · rw [if_neg e1] at h1
      exact tossF_more hp hq t a c h h1 h2

/-- With all bits turned, and the rest, the answer is turned. -/
theorem tossF_not {d : Nat} : ∀ (t : List Bool) (r : Nat), 0 < r → r < d → tossF d (d - r) (t.map not) = (tossF d r t).map (fun p => (!p.1, p.2)) := by
  intro t
  induction t with
  | nil => intro r h1 h2; simp [tossF, show r ≠ 0 by omega, show d - r ≠ 0 by omega]
  | cons x t ih =>
    intro r h1 h2
    have hc : ∀ o : Option (Bool × Nat), csh 1 (o.map (fun p => (!p.1, p.2))) = (csh 1 o).map (fun p => (!p.1, p.2)) := by
      intro o; cases o <;> simp [csh]
    rw [List.map_cons, tossF, tossF, if_neg (show d - r ≠ 0 by omega), if_neg (show r ≠ 0 by omega)]
    by_cases e1 : d ≤ 2 * r
    · rw [if_pos e1]
      by_cases e2 : 2 * r = d
      · rw [if_pos (by omega), show 2 * (d - r) - d = 0 by omega, show 2 * r - d = 0 by omega, tossF_zero, tossF_zero]
        cases x <;> simp [csh]
      · rw [if_neg (by omega), show 2 * (d - r) = d - (2 * r - d) by omega, ih (2 * r - d) (by omega) (by omega), hc]
        cases x <;> simp
    · rw [if_neg e1, if_pos (by omega), show 2 * (d - r) - d = d - 2 * r by omega, ih (2 * r) (by omega) (by omega), hc]
      cases x <;> simp
theorem tosG_not {n d : Nat} (t : List Bool) (hd : 0 < d) (h : n ≤ d) : tosG (d - n) d (t.map not) = (tosG n d t).map (fun p => (!p.1, p.2)) := by
  unfold tosG
  by_cases e0 : n = 0
  · subst e0
    rw [if_pos (by omega), if_neg (by omega), tossF_zero]; rfl
  · rw [if_neg (by omega)]
    by_cases e1 : n = d
    · rw [if_pos e1, e1, Nat.sub_self, tossF_zero]; rfl
    · rw [if_neg e1]
      exact tossF_not t n (by omega) (by omega)
end Go.Proofs.Ytkfpomeemcmfmaa
