/- Swaps within a part of a list of words, and its order: the mathematics. -/
import Derived.Test.YtnihcpaakbhpcaaU0
namespace Go.Proofs.Ytnihcpaakbhpcaa

def ky (l : List W64) (i : Nat) : Nat := (l.getD i 0).toNat
def sw (l : List W64) (i j : Nat) : List W64 := (l.set i (l.getD j 0)).set j (l.getD i 0)
theorem sw_len (l : List W64) (i j : Nat) : (sw l i j).length = l.length := by simp [sw]
theorem sw_at {l : List W64} {i j : Nat} (hi : i < l.length) (hj : j < l.length) (k : Nat) : (sw l i j).getD k 0 = if k = j then l.getD i 0 else if k = i then l.getD j 0 else l.getD k 0 := by
  unfold sw
  simp only [List.getD_eq_getElem?_getD, List.getElem?_set, List.length_set]
  by_cases h1 : k = j
  · subst h1; simp [hj]
  · by_cases h2 : k = i
    · subst h2
      have h3 : ¬ j = k := fun e => h1 e.symm
      simp [hi, h1, h3]
    · have h3 : ¬ j = k := fun e => h1 e.symm
      have h4 : ¬ i = k := fun e => h2 e.symm
      simp [h1, h2, h3, h4]
theorem sw_ky {l : List W64} {i j : Nat} (hi : i < l.length) (hj : j < l.length) (k : Nat) : ky (sw l i j) k = if k = j then ky l i else if k = i then ky l j else ky l k := by
  unfold ky
  rw [sw_at hi hj]
  split
  · rfl
  · split <;> rfl
theorem sw_perm {l : List W64} {i j : Nat} (hi : i < l.length) (hj : j < l.length) : (sw l i j).Perm l := by
  unfold sw
  have e1 : l.getD i 0 = l[i] := by simp [List.getD_eq_getElem?_getD, hi]
  have e2 : l.getD j 0 = l[j] := by simp [List.getD_eq_getElem?_getD, hj]
  rw [e1, e2]
  exact List.set_set_perm hi hj
/-- l' comes out of l by swaps within [a, b). -/
inductive Sw (a b : Nat) : List W64 → List W64 → Prop
  | refl (l : List W64) : Sw a b l l
  | step {l l' : List W64} {i j : Nat} (h : Sw a b l l') (hi1 : a ≤ i) (hi2 : i < b) (hj1 : a ≤ j) (hj2 : j < b) (hb : b ≤ l'.length) : Sw a b l (sw l' i j)
theorem Sw.len {a b : Nat} {l l' : List W64} (h : Sw a b l l') : l'.length = l.length := by
  induction h with
  | refl => rfl
  | step _ _ _ _ _ _ ih => rw [sw_len, ih]
theorem Sw.perm {a b : Nat} {l l' : List W64} (h : Sw a b l l') : l'.Perm l := by
  induction h with
  | refl => exact List.Perm.refl _
  | step _ _ _ _ _ _ ih => exact (sw_perm (by omega) (by omega)).trans ih
theorem Sw.trans {a b : Nat} {l m n : List W64} (h1 : Sw a b l m) (h2 : Sw a b m n) : Sw a b l n := by
  induction h2 with
  | refl => exact h1
  | step _ p q r s t ih => exact .step ih p q r s t
theorem Sw.mono {a b c d : Nat} {l m : List W64} (h : Sw a b l m) (hc : c ≤ a) (hd : b ≤ d) (hl : d ≤ l.length) : Sw c d l m := by
  induction h with
  | refl => exact .refl _
  | step h p q r s t ih => exact .step ih (by omega) (by omega) (by omega) (by omega) (by rw [h.len]; exact hl)
theorem Sw.out {a b : Nat} {l l' : List W64} (h : Sw a b l l') {k : Nat} (hk : k < a ∨ b ≤ k) : ky l' k = ky l k := by
  induction h with
  | refl => rfl
  | step h p q r s t ih => rw [sw_ky (by omega) (by omega), if_neg (by omega), if_neg (by omega), ih]
theorem Sw.all {a b : Nat} {l l' : List W64} (h : Sw a b l l') {c d : Nat} (hc : c ≤ a) (hd : b ≤ d) {P : Nat → Prop} (hP : ∀ k, c ≤ k → k < d → P (ky l k)) : ∀ k, c ≤ k → k < d → P (ky l' k) := by
  induction h with
  | refl => exact hP
  | step h p q r s t ih =>
    intro k h1 h2
    rw [sw_ky (by omega) (by omega)]
    split
    · exact ih _ (by omega) (by omega)
    · split
      · exact ih _ (by omega) (by omega)
      · exact ih _ h1 h2
theorem Sw.one {a b : Nat} {l : List W64} {i j : Nat} (hi1 : a ≤ i) (hi2 : i < b) (hj1 : a ≤ j) (hj2 : j < b) (hb : b ≤ l.length) : Sw a b l (sw l i j) := .step (.refl l) hi1 hi2 hj1 hj2 hb
/-- In order on [a, b). -/
def Srt (l : List W64) (a b : Nat) : Prop := ∀ p q, a ≤ p → p < q → q < b → ky l p ≤ ky l q
theorem Srt.step {l : List W64} {a b : Nat} (h : ∀ k, a < k → k < b → ky l (k - 1) ≤ ky l k) : Srt l a b := by
  intro p q h1 h2 h3
  induction q with
  | zero => omega
  | succ q ih =>
    have := h (q + 1) (by omega) h3
    rw [Nat.add_sub_cancel] at this
    rcases Nat.lt_or_ge p q with h4 | h4
    · exact Nat.le_trans (ih h4 (by omega)) this
    · obtain rfl : p = q := by omega
      exact this
/-- All pairs of [a, b) are in order, but those whose later one is j: insertion at work. -/
def Ins (l : List W64) (a b j : Nat) : Prop := ∀ p q, a ≤ p → p < q → q < b → q ≠ j → ky l p ≤ ky l q
theorem Ins.start {l : List W64} {a i : Nat} (h : Srt l a i) : Ins l a (i + 1) i := fun p q h1 h2 h3 h4 => h p q h1 h2 (by omega)
theorem Ins.swap {l : List W64} {a b j : Nat} (h : Ins l a b j) (h1 : a < j) (h2 : j < b) (hb : b ≤ l.length) (hlt : ky l j < ky l (j - 1)) : Ins (sw l j (j - 1)) a b (j - 1) := by
  intro p q p1 p2 p3 p4
  rw [sw_ky (by omega) (by omega), sw_ky (by omega) (by omega)]
  by_cases e1 : p = j - 1
  · rw [if_pos e1, if_neg p4]
    by_cases e2 : q = j
    · rw [if_pos e2]; omega
    · rw [if_neg e2]
      have := h (j - 1) q (by omega) (by omega) p3 e2
      omega
  · rw [if_neg e1, if_neg p4]
    by_cases e2 : p = j
    · rw [if_pos e2, if_neg (by omega)]
      exact h (j - 1) q (by omega) (by omega) p3 (by omega)
    · rw [if_neg e2]
      by_cases e3 : q = j
      · rw [if_pos e3]
        exact h p (j - 1) p1 (by omega) (by omega) (by omega)
      · rw [if_neg e3]
        exact h p q p1 p2 p3 e3
theorem Ins.done {l : List W64} {a b j : Nat} (h : Ins l a b j) (h2 : j = a ∨ ky l (j - 1) ≤ ky l j) : Srt l a b := by
  intro p q p1 p2 p3
  by_cases e : q = j
  · subst e
    rcases h2 with h2 | h2
    · omega
    · rcases Nat.lt_or_ge p (q - 1) with h4 | h4
      · exact Nat.le_trans (h p (q - 1) p1 h4 (by omega) (by omega)) h2
      · obtain rfl : p = q - 1 := by omega
        exact h2
  · exact h p q p1 p2 p3 e
/-- All pairs of [a, b) are in order, but those within [c, d). -/
def Jn (l : List W64) (a b c d : Nat) : Prop := ∀ p q, a ≤ p → p < q → q < b → p < c ∨ d ≤ q → ky l p ≤ ky l q
theorem Jn.start (l : List W64) (a b : Nat) : Jn l a b a b := fun p q h1 h2 h3 h4 => by omega
theorem Jn.keep {l m : List W64} {a b c d : Nat} (h : Jn l a b c d) (hs : Sw c d l m) (h1 : a ≤ c) (h2 : d ≤ b) : Jn m a b c d := by
  intro p q p1 p2 p3 p4
  rcases p4 with p4 | p4
  · rw [hs.out (.inl p4)]
    by_cases e : c ≤ q ∧ q < d
    · exact hs.all (Nat.le_refl _) (Nat.le_refl _) (P := fun x => ky l p ≤ x) (fun k k1 k2 => h p k p1 (by omega) (by omega) (.inl p4)) q e.1 e.2
    · rw [hs.out (by omega)]
      exact h p q p1 p2 p3 (.inl p4)
  · rw [hs.out (k := q) (.inr p4)]
    by_cases e : c ≤ p ∧ p < d
    · exact hs.all (Nat.le_refl _) (Nat.le_refl _) (P := fun x => x ≤ ky l q) (fun k k1 k2 => h k q (by omega) (by omega) p3 (.inr p4)) p e.1 e.2
    · rw [hs.out (by omega)]
      exact h p q p1 p2 p3 (.inr p4)
theorem Jn.done {l : List W64} {a b c d : Nat} (h : Jn l a b c d) (hs : Srt l c d) : Srt l a b := by
  intro p q p1 p2 p3
  by_cases e : c ≤ p ∧ q < d
  · exact hs p q e.1 p2 e.2
  · exact h p q p1 p2 p3 (by omega)
/-- Nothing of [a, b) is less than what stands ahead of it. -/
def Lo (l : List W64) (a b : Nat) : Prop := a = 0 ∨ ∀ k, a ≤ k → k < b → ky l (a - 1) ≤ ky l k
theorem Lo.keep {l m : List W64} {a b : Nat} (h : Lo l a b) (hs : Sw a b l m) : Lo m a b := by
  rcases h with h | h
  · exact .inl h
  · by_cases h0 : a = 0
    · exact .inl h0
    · refine .inr (fun k h1 h2 => ?_)
      rw [hs.out (k := a - 1) (by omega)]
      exact hs.all (Nat.le_refl _) (Nat.le_refl _) (P := fun x => ky l (a - 1) ≤ x) h k h1 h2
theorem Jn.lo {l : List W64} {a b c d : Nat} (h : Jn l a b c d) (hl : Lo l a b) (h1 : a ≤ c) (h2 : d ≤ b) : Lo l c d := by
  by_cases e : a = c
  · subst e
    rcases hl with hl | hl
    · exact .inl hl
    · exact .inr (fun k k1 k2 => hl k k1 (by omega))
  · exact .inr (fun k k1 k2 => h (c - 1) k (by omega) (by omega) (by omega) (.inl (by omega)))
/-- Behind a partition: what stands at m parts [c, d). -/
def Pt (l : List W64) (c d m : Nat) : Prop := (∀ k, c ≤ k → k < m → ky l k ≤ ky l m) ∧ ∀ k, m < k → k < d → ky l m ≤ ky l k
theorem Pt.cross {l : List W64} {c d m : Nat} (h : Pt l c d m) (hm1 : c ≤ m) (hm2 : m < d) {p q : Nat} (p1 : c ≤ p) (p2 : p ≤ m) (q1 : m ≤ q) (q2 : q < d) : ky l p ≤ ky l q := by
  have x : ky l p ≤ ky l m := by
    by_cases e : p = m
    · rw [e]; omega
    · exact h.1 p p1 (by omega)
  have y : ky l m ≤ ky l q := by
    by_cases e : q = m
    · rw [e]; omega
    · exact h.2 q (by omega) q2
  omega
/-- The left part is in order: go on with the right one. -/
theorem Jn.right {l : List W64} {a b c d m : Nat} (h : Jn l a b c d) (hp : Pt l c d m) (hs : Srt l c m) (h1 : a ≤ c) (h2 : d ≤ b) (hm1 : c ≤ m) (hm2 : m < d) : Jn l a b (m + 1) d := by
  intro p q p1 p2 p3 p4
  by_cases e : p < c ∨ d ≤ q
  · exact h p q p1 p2 p3 e
  · by_cases e2 : q < m
    · exact hs p q (by omega) p2 e2
    · exact hp.cross hm1 hm2 (by omega) (by omega) (by omega) (by omega)
theorem Jn.left {l : List W64} {a b c d m : Nat} (h : Jn l a b c d) (hp : Pt l c d m) (hs : Srt l (m + 1) d) (h1 : a ≤ c) (h2 : d ≤ b) (hm1 : c ≤ m) (hm2 : m < d) : Jn l a b c m := by
  intro p q p1 p2 p3 p4
  by_cases e : p < c ∨ d ≤ q
  · exact h p q p1 p2 p3 e
  · by_cases e2 : m < p
    · exact hs p q (by omega) p2 (by omega)
    · exact hp.cross hm1 hm2 (by omega) (by omega) (by omega) (by omega)
/-- Sorting one part of a partition leaves the partition. -/
theorem Pt.keepL {l n : List W64} {c d m : Nat} (h : Pt l c d m) (hs : Sw c m l n) (hm : m < d) : Pt n c d m := by
  refine ⟨?_, fun k k1 k2 => ?_⟩
  · rw [hs.out (k := m) (.inr (Nat.le_refl _))]
    exact hs.all (Nat.le_refl _) (Nat.le_refl _) (P := fun x => x ≤ ky l m) h.1
  · rw [hs.out (k := m) (.inr (Nat.le_refl _)), hs.out (k := k) (.inr (by omega))]
    exact h.2 k k1 k2
theorem Pt.keepR {l n : List W64} {c d m : Nat} (h : Pt l c d m) (hs : Sw (m + 1) d l n) : Pt n c d m := by
  refine ⟨fun k k1 k2 => ?_, fun k k1 k2 => ?_⟩
  · rw [hs.out (k := m) (.inl (by omega)), hs.out (k := k) (.inl (by omega))]
    exact h.1 k k1 k2
  · rw [hs.out (k := m) (.inl (by omega))]
    exact hs.all (Nat.le_refl _) (Nat.le_refl _) (P := fun x => ky l m ≤ x) (fun k k1 k2 => h.2 k (by omega) k2) k (by omega) k2
/-- Behind partitionEqual: [c, m) are all equal to the one ahead of c. -/
theorem Jn.equal {l : List W64} {a b c d m : Nat} (h : Jn l a b c d) (v : Nat) (he : ∀ k, c ≤ k → k < m → ky l k ≤ v) (hg : ∀ k, m ≤ k → k < d → v ≤ ky l k) (hv : ∀ k, c ≤ k → k < d → v ≤ ky l k) (hm : m ≤ d) : Jn l a b m d := by
  intro p q p1 p2 p3 p4
  by_cases e : p < c ∨ d ≤ q
  · exact h p q p1 p2 p3 e
  · have := he p (by omega) (by omega)
    have := hv q (by omega) (by omega)
    omega
end Go.Proofs.Ytnihcpaakbhpcaa
