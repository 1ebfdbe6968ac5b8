/- Orders of the numbers from 0: the mathematics of package perm. -/
import Derived.Test.YtojoecoocbjgaaaTe
namespace Go.Proofs.Ytojoecoocbjgaaa

/-- An order of at most twenty. -/
def Ok (p : List Int) : Prop := p.length ≤ 20 ∧ (∀ x ∈ p, 0 ≤ x ∧ x < (p.length : Int)) ∧ p.Nodup
instance (p : List Int) : Decidable (Ok p) := by unfold Ok; infer_instance

/-- 0, 1, .., n - 1. -/
def idn (n : Nat) : List Int := (List.range n).map fun (k : Nat) => (k : Int)
theorem idn_len (n : Nat) : (idn n).length = n := by simp [idn]
theorem idn_at {n k : Nat} (h : k < n) : (idn n).getD k 0 = (k : Int) := by simp [idn, List.getD_eq_getElem?_getD, h]
theorem mem_idn {n : Nat} {x : Int} : x ∈ idn n ↔ 0 ≤ x ∧ x < (n : Int) := by
  simp only [idn, List.mem_map, List.mem_range]
  constructor
  · rintro ⟨k, hk, rfl⟩; omega
  · intro h; exact ⟨x.toNat, by omega, by omega⟩
theorem idn_nodup (n : Nat) : (idn n).Nodup := by
  unfold idn
  rw [List.Nodup, List.pairwise_map]
  refine List.Pairwise.imp ?_ (List.nodup_range (n := n))
  intro a b h; omega

theorem getD_mem {p : List Int} {k : Nat} (h : k < p.length) : p.getD k 0 ∈ p := by
  rw [List.getD_eq_getElem?_getD, List.getElem?_eq_getElem h]; exact List.getElem_mem h
theorem mem_getD {p : List Int} {x : Int} (h : x ∈ p) : ∃ k, k < p.length ∧ p.getD k 0 = x := by
  obtain ⟨k, hk, e⟩ := List.getElem_of_mem h
  exact ⟨k, hk, by rw [List.getD_eq_getElem?_getD, List.getElem?_eq_getElem hk]; exact e⟩
theorem ext_getD {a b : List Int} (hl : a.length = b.length) (h : ∀ k, k < a.length → a.getD k 0 = b.getD k 0) : a = b := by
  apply List.ext_getElem hl
  intro i h1 h2
  have e := h i h1
  simpa [List.getD_eq_getElem?_getD, h1, h2] using e
theorem take_snoc {p : List Int} {k : Nat} (h : k < p.length) : p.take (k + 1) = p.take k ++ [p.getD k 0] := by
  rw [List.take_succ_eq_append_getElem h]; simp [List.getD_eq_getElem?_getD, h]
theorem drop_cons {p : List Int} {k : Nat} (h : k < p.length) : p.drop k = p.getD k 0 :: p.drop (k + 1) := by
  rw [List.drop_eq_getElem_cons h]; simp [List.getD_eq_getElem?_getD, h]

/-- Which of the first n numbers stand in l. -/
def mk (n : Nat) (l : List Int) : List Bool := (List.range n).map fun (j : Nat) => decide ((j : Int) ∈ l)
theorem mk_len (n : Nat) (l : List Int) : (mk n l).length = n := by simp [mk]
theorem mk_at {n j : Nat} (l : List Int) (h : j < n) : (mk n l).getD j false = decide ((j : Int) ∈ l) := by simp [mk, List.getD_eq_getElem?_getD, h]
theorem mk_nil (n : Nat) : mk n [] = List.replicate n false := by
  apply List.ext_getElem
  · simp [mk]
  · intro i h1 h2; simp [mk]
theorem mk_set {n e : Nat} (l : List Int) (h : e < n) : (mk n l).set e true = mk n (l ++ [(e : Int)]) := by
  apply List.ext_getElem
  · simp [mk]
  · intro i h1 h2
    rw [List.getElem_set]
    by_cases hi : e = i
    · subst hi; simp [mk]
    · simp only [hi, if_false]
      simp only [mk, List.getElem_map, List.getElem_range, List.mem_append, List.mem_singleton]
      have : ¬ ((i : Int) = (e : Int)) := by omega
      simp [this]
theorem nodup_snoc {l : List Int} {x : Int} : (l ++ [x]).Nodup ↔ l.Nodup ∧ x ∉ l := by
  rw [List.nodup_append]
  simp only [List.nodup_cons, List.not_mem_nil, not_false_eq_true, List.nodup_nil, and_self, true_and]
  constructor
  · rintro ⟨h1, h2⟩; exact ⟨h1, fun hx => h2 x hx x (by simp) rfl⟩
  · rintro ⟨h1, h2⟩; exact ⟨h1, fun a ha b hb e => by simp at hb; subst hb; subst e; exact h2 ha⟩

/-- Behind the first k of p all is well so far. -/
def okUp (p : List Int) (k : Nat) : Prop := (∀ x ∈ p.take k, 0 ≤ x ∧ x < (p.length : Int)) ∧ (p.take k).Nodup
theorem okUp_zero (p : List Int) : okUp p 0 := by simp [okUp]
theorem okUp_step {p : List Int} {k : Nat} (h : okUp p k) (hk : k < p.length) (h0 : 0 ≤ p.getD k 0) (h1 : p.getD k 0 < (p.length : Int)) (h2 : p.getD k 0 ∉ p.take k) : okUp p (k + 1) := by
  unfold okUp
  rw [take_snoc hk, nodup_snoc]
  refine ⟨fun x hx => ?_, h.2, h2⟩
  rcases List.mem_append.1 hx with hx | hx
  · exact h.1 x hx
  · simp only [List.mem_singleton] at hx; rw [hx]; exact ⟨h0, h1⟩
theorem okUp_fail {p : List Int} {k : Nat} (hk : k < p.length) (h : p.getD k 0 < 0 ∨ (p.length : Int) ≤ p.getD k 0 ∨ p.getD k 0 ∈ p.take k) : ¬ Ok p := by
  rintro ⟨_, h1, h2⟩
  have := h1 _ (getD_mem hk)
  rcases h with h | h | h
  · omega
  · omega
  · have e : p = p.take k ++ p.drop k := (List.take_append_drop k p).symm
    rw [drop_cons hk] at e
    rw [e, List.nodup_append] at h2
    exact h2.2.2 _ h (p.getD k 0) (by simp) rfl
theorem okUp_end {p : List Int} (h : okUp p p.length) (hl : p.length ≤ 20) : Ok p := by
  unfold okUp at h
  rw [List.take_length] at h
  exact ⟨hl, h.1, h.2⟩

theorem Ok.len {p : List Int} (h : Ok p) : p.length ≤ 20 := h.1
/-- What stands at a place of an order. -/
theorem Ok.at {p : List Int} (h : Ok p) {k : Nat} (hk : k < p.length) : ∃ e : Nat, p.getD k 0 = (e : Int) ∧ e < p.length := by
  have := h.2.1 _ (getD_mem hk)
  exact ⟨(p.getD k 0).toNat, by omega, by omega⟩

/-! Code -/
def cnt (x : Int) (l : List Int) : Nat := l.countP fun y => decide (y < x)
theorem cnt_le (x : Int) (l : List Int) : cnt x l ≤ l.length := List.countP_le_length
theorem cnt_snoc (x y : Int) (l : List Int) : cnt x (l ++ [y]) = cnt x l + if y < x then 1 else 0 := by
  unfold cnt
  rw [List.countP_append]
  by_cases h : y < x <;> simp [h]
def code : List Int → List Nat
  | [] => []
  | x :: r => cnt x r :: code r
theorem code_len (p : List Int) : (code p).length = p.length := by
  induction p with
  | nil => rfl
  | cons x r ih => simp [code, ih]
theorem code_drop (p : List Int) : ∀ k, (code p).drop k = code (p.drop k) := by
  induction p with
  | nil => intro k; simp [code]
  | cons x r ih =>
    intro k
    cases k with
    | zero => rfl
    | succ k => simp [code, ih]
def ints (l : List Nat) : List Int := l.map fun (k : Nat) => (k : Int)
theorem ints_len (l : List Nat) : (ints l).length = l.length := by simp [ints]
theorem ints_at {l : List Nat} (k : Nat) : (ints l).getD k 0 = ((l.getD k 0 : Nat) : Int) := by
  simp only [ints, List.getD_eq_getElem?_getD, List.getElem?_map]
  cases l[k]? <;> rfl
theorem code_at {p : List Int} {k : Nat} (h : k < p.length) : (code p).getD k 0 = cnt (p.getD k 0) (p.drop (k + 1)) := by
  have e := code_drop p k
  rw [drop_cons h] at e
  have : ((code p).drop k).getD 0 0 = cnt (p.getD k 0) (p.drop (k + 1)) := by rw [e]; rfl
  rw [← this]; simp [List.getD_eq_getElem?_getD]
/-- The code so far, and zeros. -/
def codeUp (p : List Int) (k : Nat) (c : Nat) : List Int := ints ((code p).take k ++ (c :: List.replicate (p.length - (k + 1)) 0))
def codeTo (p : List Int) (k : Nat) : List Int := ints ((code p).take k ++ List.replicate (p.length - k) 0)
theorem codeTo_zero (p : List Int) : codeTo p 0 = List.replicate p.length 0 := by simp [codeTo, ints]
theorem codeTo_len {p : List Int} {k : Nat} (h : k ≤ p.length) : (codeTo p k).length = p.length := by simp [codeTo, ints, code_len]; omega
theorem codeTo_up {p : List Int} {k : Nat} (h : k < p.length) : codeTo p k = codeUp p k 0 := by
  unfold codeTo codeUp
  rw [show p.length - k = (p.length - (k + 1)) + 1 by omega, List.replicate_succ]
theorem codeUp_to {p : List Int} {k : Nat} (h : k < p.length) : codeUp p k (cnt (p.getD k 0) (p.drop (k + 1))) = codeTo p (k + 1) := by
  unfold codeTo codeUp
  have hk : k < (code p).length := by rw [code_len]; exact h
  rw [← code_at h, List.take_succ_eq_append_getElem hk, List.append_assoc]
  congr 2
  simp [List.getD_eq_getElem?_getD, hk]
theorem codeUp_len {p : List Int} {k c : Nat} (h : k < p.length) : (codeUp p k c).length = p.length := by simp [codeUp, ints, code_len]; omega
theorem codeUp_at {p : List Int} {k c : Nat} (h : k < p.length) : (codeUp p k c).getD k 0 = (c : Int) := by
  have e : ((code p).take k).length = k := by simp [code_len]; omega
  unfold codeUp
  rw [ints_at, List.getD_eq_getElem?_getD, List.getElem?_append_right (by omega), e, Nat.sub_self]
  rfl
theorem codeUp_set {p : List Int} {k c : Nat} (h : k < p.length) (d : Nat) : (codeUp p k c).set k (d : Int) = codeUp p k d := by
  have e : ((code p).take k).length = k := by simp [code_len]; omega
  unfold codeUp ints
  rw [← List.map_set (f := fun (k : Nat) => (k : Int)) (a := d)]
  congr 1
  rw [List.set_append_right _ _ (by omega), e, Nat.sub_self]
  rfl
theorem codeTo_end (p : List Int) : codeTo p p.length = ints (code p) := by
  unfold codeTo
  rw [List.take_of_length_le (by rw [code_len]; exact Nat.le_refl _)]; simp

/-! Rank -/
def fact : Nat → Nat
  | 0 => 1
  | n + 1 => (n + 1) * fact n
theorem fact_pos (n : Nat) : 0 < fact n := by
  induction n with
  | zero => decide
  | succ n ih => rw [fact]; exact Nat.mul_pos (by omega) ih
theorem fact_le_succ (n : Nat) : fact n ≤ fact (n + 1) := by
  rw [fact]; exact Nat.le_mul_of_pos_left _ (by omega)
theorem fact_le {a b : Nat} (h : a ≤ b) : fact a ≤ fact b := by
  induction h with
  | refl => exact Nat.le_refl _
  | step _ ih => exact Nat.le_trans ih (fact_le_succ _)
theorem fact20 : fact 20 = 2432902008176640000 := by decide +kernel
theorem fact_small {n : Nat} (h : n ≤ 20) : fact n ≤ 2432902008176640000 := by rw [← fact20]; exact fact_le h
/-- Digits with the bases 1, 2, .. from the last on. -/
def rc : List Nat → Nat
  | [] => 0
  | c :: cs => c * fact cs.length + rc cs
/-- Each digit is below its base. -/
def dig : List Nat → Prop
  | [] => True
  | c :: cs => c ≤ cs.length ∧ dig cs
theorem code_dig (p : List Int) : dig (code p) := by
  induction p with
  | nil => trivial
  | cons x r ih => exact ⟨by rw [code_len]; exact cnt_le x r, ih⟩
theorem rc_lt {c : List Nat} (h : dig c) : rc c < fact c.length := by
  induction c with
  | nil => decide
  | cons x r ih =>
    have := ih h.2
    have h2 : x * fact r.length ≤ r.length * fact r.length := Nat.mul_le_mul_right _ h.1
    simp only [rc, List.length_cons, fact, Nat.add_mul, Nat.one_mul]
    omega
/-- The rank by Horner's way. -/
def horn (a : Nat) : List Nat → Nat
  | [] => a
  | c :: cs => horn (a * (cs.length + 1) + c) cs
theorem horn_eq (c : List Nat) : ∀ a, horn a c = a * fact c.length + rc c := by
  induction c with
  | nil => intro a; simp [horn, rc, fact]
  | cons x r ih =>
    intro a
    rw [horn, ih, rc, List.length_cons, fact, Nat.add_mul, Nat.mul_assoc]
    omega
theorem horn_ge (c : List Nat) (a : Nat) : a ≤ horn a c := by
  rw [horn_eq]
  have := Nat.le_mul_of_pos_right a (fact_pos c.length)
  omega
def rank (p : List Int) : Nat := rc (code p)
theorem rank_lt (p : List Int) : rank p < fact p.length := by
  have := rc_lt (code_dig p)
  rwa [code_len] at this
theorem ints_drop (q : List Nat) (k : Nat) : (ints q).drop k = ints (q.drop k) := by simp [ints, List.map_drop]
theorem ints_snoc (q : List Nat) (x : Nat) : ints q ++ [(x : Int)] = ints (q ++ [x]) := by simp [ints]
end Go.Proofs.Ytojoecoocbjgaaa
