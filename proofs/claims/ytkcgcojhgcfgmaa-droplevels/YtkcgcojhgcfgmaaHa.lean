/- Alias tables: mathematics. -/
import Derived.Lib.Hide
namespace Go.Proofs.Ytkcgcojhgcfgmaa

/-- The first index below n with p, or -1. -/
def fstI (p : Nat → Bool) : Nat → Nat → Int
  | _, 0 => -1
  | i, m + 1 => if p i then (i : Int) else fstI p (i + 1) m
def first (p : Nat → Bool) (n : Nat) : Int := fstI p 0 n
theorem fstI_hit {p : Nat → Bool} {k : Nat} (hk : p k = true) : ∀ (m i : Nat), i ≤ k → k < i + m → (∀ j, i ≤ j → j < k → p j = false) → fstI p i m = (k : Int)
  | 0, i, h1, h2, _ => by omega
  | m + 1, i, h1, h2, h3 => by
    rw [fstI]
    by_cases e : i = k
    · subst e; rw [if_pos hk]
    · rw [if_neg (by rw [h3 i (Nat.le_refl _) (by omega)]; simp)]
      exact fstI_hit hk m (i + 1) (by omega) (by omega) (fun j h4 h5 => h3 j (by omega) h5)
theorem fstI_miss {p : Nat → Bool} : ∀ (m i : Nat), (∀ j, i ≤ j → j < i + m → p j = false) → fstI p i m = -1
  | 0, i, _ => rfl
  | m + 1, i, h3 => by
    rw [fstI, if_neg (by rw [h3 i (Nat.le_refl _) (by omega)]; simp)]
    exact fstI_miss m (i + 1) (fun j h4 h5 => h3 j (by omega) (by omega))
theorem first_hit {p : Nat → Bool} {n k : Nat} (hk : p k = true) (hn : k < n) (h : ∀ j, j < k → p j = false) : first p n = (k : Int) := fstI_hit hk n 0 (Nat.zero_le _) (by omega) (fun j _ h2 => h j h2)
theorem first_miss {p : Nat → Bool} {n : Nat} (h : ∀ j, j < n → p j = false) : first p n = -1 := fstI_miss n 0 (fun j _ h2 => h j (by omega))
theorem fstI_cases {p : Nat → Bool} : ∀ (m i : Nat), (fstI p i m = -1 ∧ ∀ j, i ≤ j → j < i + m → p j = false) ∨ ∃ k : Nat, fstI p i m = (k : Int) ∧ i ≤ k ∧ k < i + m ∧ p k = true ∧ ∀ j, i ≤ j → j < k → p j = false
  | 0, i => .inl ⟨rfl, fun j h1 h2 => by omega⟩
  | m + 1, i => by
    rw [fstI]
    by_cases e : p i = true
    · rw [if_pos e]
      exact .inr ⟨i, rfl, Nat.le_refl _, by omega, e, fun j h1 h2 => by omega⟩
    · rw [if_neg e]
      have e : p i = false := by simpa using e
      rcases fstI_cases (p := p) m (i + 1) with ⟨h1, h2⟩ | ⟨k, h1, h2, h3, h4, h5⟩
      · refine .inl ⟨h1, fun j h3 h4 => ?_⟩
        by_cases e2 : j = i
        · subst e2; exact e
        · exact h2 j (by omega) (by omega)
      · refine .inr ⟨k, h1, by omega, by omega, h4, fun j h6 h7 => ?_⟩
        by_cases e2 : j = i
        · subst e2; exact e
        · exact h5 j (by omega) h7
theorem first_cases (p : Nat → Bool) (n : Nat) : (first p n = -1 ∧ ∀ j, j < n → p j = false) ∨ ∃ k : Nat, first p n = (k : Int) ∧ k < n ∧ p k = true ∧ ∀ j, j < k → p j = false := by
  rcases fstI_cases (p := p) n 0 with ⟨h1, h2⟩ | ⟨k, h1, h2, h3, h4, h5⟩
  · exact .inl ⟨h1, fun j h => h2 j (Nat.zero_le _) (by omega)⟩
  · exact .inr ⟨k, h1, by omega, h4, fun j h => h5 j (Nat.zero_le _) h⟩
theorem first_congr {p q : Nat → Bool} {n : Nat} (h : ∀ j, j < n → p j = q j) : first p n = first q n := by
  rcases first_cases q n with ⟨h1, h2⟩ | ⟨k, h1, h2, h3, h4⟩
  · rw [h1]; exact first_miss (fun j hj => by rw [h j hj]; exact h2 j hj)
  · rw [h1]; exact first_hit (by rw [h k h2]; exact h3) h2 (fun j hj => by rw [h j (by omega)]; exact h4 j hj)

/-- A table: level (or amount) and to. -/
abbrev AT := List (Int × Int)
def lev (S : AT) (i : Nat) : Int := (S.getD i (0, 0)).1
def too (S : AT) (i : Nat) : Int := (S.getD i (0, 0)).2
def lowP (s : Int) (S : AT) (i : Nat) : Bool := decide (too S i = i) && decide (lev S i < s)
def highP (s : Int) (S : AT) (i : Nat) : Bool := decide (s < lev S i)
def loI (s : Int) (S : AT) : Int := first (lowP s S) S.length
def hiI (s : Int) (S : AT) : Int := first (highP s S) S.length
/-- L is closed with H. -/
def pairA (s : Int) (S : AT) (L H : Nat) : AT := (S.set L (lev S L, (H : Int))).set H (lev S H - (s - lev S L), too S H)
def stepA (s : Int) (S : AT) : AT := pairA s S (loI s S).toNat (hiI s S).toNat
def runA (s : Int) : Nat → AT → AT
  | 0, S => S
  | m + 1, S => if 0 ≤ loI s S ∧ 0 ≤ hiI s S then runA s m (stepA s S) else S
theorem runA_stop {s : Int} {m : Nat} {S : AT} (h : ¬ (0 ≤ loI s S ∧ 0 ≤ hiI s S)) : runA s m S = S := by
  cases m with
  | zero => rfl
  | succ m => rw [runA, if_neg h]
theorem runA_go {s : Int} {m : Nat} {S : AT} (h : 0 ≤ loI s S ∧ 0 ≤ hiI s S) : runA s (m + 1) S = runA s m (stepA s S) := by rw [runA, if_pos h]

theorem getD_set_same {S : AT} {i : Nat} (h : i < S.length) (e : Int × Int) : (S.set i e).getD i (0, 0) = e := by simp [List.getD_eq_getElem?_getD, h]
theorem getD_set_other {S : AT} {i j : Nat} (h : i ≠ j) (e : Int × Int) : (S.set i e).getD j (0, 0) = S.getD j (0, 0) := by simp [List.getD_eq_getElem?_getD, h]
theorem pairA_len (s : Int) (S : AT) (L H : Nat) : (pairA s S L H).length = S.length := by simp [pairA]
theorem pairA_L {s : Int} {S : AT} {L H : Nat} (h : L < S.length) (hne : L ≠ H) : (pairA s S L H).getD L (0, 0) = (lev S L, (H : Int)) := by
  rw [pairA, getD_set_other (fun e => hne e.symm), getD_set_same h]
theorem pairA_H {s : Int} {S : AT} {L H : Nat} (h : H < S.length) : (pairA s S L H).getD H (0, 0) = (lev S H - (s - lev S L), too S H) := by
  rw [pairA, getD_set_same (by simpa using h)]
theorem pairA_other {s : Int} {S : AT} {L H i : Nat} (h1 : i ≠ L) (h2 : i ≠ H) : (pairA s S L H).getD i (0, 0) = S.getD i (0, 0) := by
  rw [pairA, getD_set_other (fun e => h2 e.symm), getD_set_other (fun e => h1 e.symm)]

/-- A sum over a table, with the index. -/
def sumA (f : Nat → Int × Int → Int) : Nat → AT → Int
  | _, [] => 0
  | i, e :: r => f i e + sumA f (i + 1) r
theorem sumA_set (f : Nat → Int × Int → Int) : ∀ (S : AT) (i j : Nat) (e : Int × Int), j < S.length → sumA f i (S.set j e) = sumA f i S - f (i + j) (S.getD j (0, 0)) + f (i + j) e
  | [], i, j, e, h => by simp at h
  | x :: r, i, 0, e, h => by simp [sumA]; omega
  | x :: r, i, j + 1, e, h => by
    have := sumA_set f r (i + 1) j e (by simpa using h)
    have e2 : i + (j + 1) = i + 1 + j := by omega
    rw [List.set_cons_succ, sumA, sumA, this, e2]
    simp only [List.getD_cons_succ]
    omega
theorem sumA_congr {f g : Nat → Int × Int → Int} : ∀ (S : AT) (i : Nat), (∀ j, j < S.length → f (i + j) (S.getD j (0, 0)) = g (i + j) (S.getD j (0, 0))) → sumA f i S = sumA g i S
  | [], _, _ => rfl
  | x :: r, i, h => by
    have h1 : sumA f (i + 1) r = sumA g (i + 1) r := sumA_congr r (i + 1) (fun j hj => by
      have := h (j + 1) (by simp; omega)
      simp only [List.getD_cons_succ] at this
      rw [show i + 1 + j = i + (j + 1) by omega]
      exact this)
    have := h 0 (by simp)
    simp at this
    rw [sumA, sumA, this, h1]
theorem sumA_pair (f : Nat → Int × Int → Int) {s : Int} {S : AT} {L H : Nat} (hL : L < S.length) (hH : H < S.length) (hne : L ≠ H) :
    sumA f 0 (pairA s S L H) = sumA f 0 S - f L (lev S L, too S L) + f L (lev S L, (H : Int)) - f H (lev S H, too S H) + f H (lev S H - (s - lev S L), too S H) := by
  unfold pairA
  rw [sumA_set f _ 0 H _ (by simpa using hH), sumA_set f S 0 L _ hL, getD_set_other hne, Nat.zero_add, Nat.zero_add]
  rfl
theorem sumA_zero {f : Nat → Int × Int → Int} (S : AT) (i : Nat) (h : ∀ j, j < S.length → f (i + j) (S.getD j (0, 0)) = 0) : sumA f i S = 0 := by
  have := sumA_congr (f := f) (g := fun _ _ => 0) S i h
  rw [this]
  clear this h
  induction S generalizing i with
  | nil => rfl
  | cons x r ih => rw [sumA, ih]; rfl
theorem sumA_nonneg {f : Nat → Int × Int → Int} : ∀ (S : AT) (i : Nat), (∀ j, j < S.length → 0 ≤ f (i + j) (S.getD j (0, 0))) → 0 ≤ sumA f i S ∧ ∀ j, j < S.length → f (i + j) (S.getD j (0, 0)) ≤ sumA f i S
  | [], _, _ => ⟨Int.le_refl _, fun j hj => by simp at hj⟩
  | x :: r, i, h => by
    obtain ⟨h1, h2⟩ := sumA_nonneg (f := f) r (i + 1) (fun j hj => by
      have := h (j + 1) (by simp; omega)
      simp only [List.getD_cons_succ] at this
      rw [show i + 1 + j = i + (j + 1) by omega]
      exact this)
    have h0 := h 0 (by simp)
    simp at h0
    rw [sumA]
    refine ⟨by omega, fun j hj => ?_⟩
    cases j with
    | zero => simp; omega
    | succ j =>
      have := h2 j (by simpa using hj)
      simp only [List.getD_cons_succ]
      rw [show i + (j + 1) = i + 1 + j by omega]
      omega

/-- What an open one lacks or has too much. -/
def exA (s : Int) (i : Nat) (e : Int × Int) : Int := if e.2 = i then e.1 - s else 0
def opA (i : Nat) (e : Int × Int) : Int := if e.2 = i then 1 else 0
/-- How often index k comes. -/
def cnA (s : Int) (k : Nat) (i : Nat) (e : Int × Int) : Int := (if i = k then e.1 else 0) + (if e.2 = k ∧ e.2 ≠ i then s - e.1 else 0)

/-- What stays: amounts are within, whatever is closed has less than s and goes to another one. -/
structure InvA (s : Int) (W : List Int) (S : AT) : Prop where
  len : S.length = W.length
  lo : ∀ i, i < S.length → 0 ≤ lev S i
  up : ∀ i, i < S.length → lev S i ≤ W.getD i 0 * (W.length : Int)
  to0 : ∀ i, i < S.length → 0 ≤ too S i ∧ too S i < (S.length : Int)
  cl : ∀ i : Nat, i < S.length → too S i ≠ i → lev S i < s
  ex : sumA (exA s) 0 S = 0
  cn : ∀ k : Nat, k < S.length → sumA (cnA s k) 0 S = W.getD k 0 * (W.length : Int)

theorem lo_cases (s : Int) (S : AT) : (loI s S = -1 ∧ ∀ i : Nat, i < S.length → too S i = i → s ≤ lev S i) ∨ ∃ L : Nat, loI s S = L ∧ L < S.length ∧ too S L = L ∧ lev S L < s := by
  rcases first_cases (lowP s S) S.length with ⟨h1, h2⟩ | ⟨L, h1, h2, h3, h4⟩
  · refine .inl ⟨h1, fun i hi ht => ?_⟩
    have := h2 i hi
    simp [lowP, ht] at this
    exact this
  · simp [lowP] at h3
    exact .inr ⟨L, h1, h2, h3.1, h3.2⟩
theorem hi_cases (s : Int) (S : AT) : (hiI s S = -1 ∧ ∀ i : Nat, i < S.length → lev S i ≤ s) ∨ ∃ H : Nat, hiI s S = H ∧ H < S.length ∧ s < lev S H := by
  rcases first_cases (highP s S) S.length with ⟨h1, h2⟩ | ⟨H, h1, h2, h3, h4⟩
  · refine .inl ⟨h1, fun i hi => ?_⟩
    have := h2 i hi
    simp [highP] at this
    exact this
  · simp [highP] at h3
    exact .inr ⟨H, h1, h2, h3⟩
theorem lev_pairL {s : Int} {S : AT} {L H : Nat} (h : L < S.length) (hne : L ≠ H) : lev (pairA s S L H) L = lev S L ∧ too (pairA s S L H) L = H := by
  unfold lev too; rw [pairA_L h hne]; exact ⟨rfl, rfl⟩
theorem lev_pairH {s : Int} {S : AT} {L H : Nat} (h : H < S.length) : lev (pairA s S L H) H = lev S H - (s - lev S L) ∧ too (pairA s S L H) H = too S H := by
  rw [lev, too, pairA_H h]; exact ⟨rfl, rfl⟩
theorem lev_pairO {s : Int} {S : AT} {L H i : Nat} (h1 : i ≠ L) (h2 : i ≠ H) : lev (pairA s S L H) i = lev S i ∧ too (pairA s S L H) i = too S i := by
  unfold lev too; rw [pairA_other h1 h2]; exact ⟨rfl, rfl⟩
/-- One more closed: all stays, and fewer are open. -/
theorem InvA.step {s : Int} {W : List Int} {S : AT} (h : InvA s W S) {L H : Nat} (hL : L < S.length) (hH : H < S.length) (tL : too S L = L) (lL : lev S L < s) (lH : s < lev S H) :
    InvA s W (pairA s S L H) ∧ sumA opA 0 (pairA s S L H) = sumA opA 0 S - 1 ∧ too S H = H ∧ L ≠ H := by
  have hne : L ≠ H := by rintro rfl; omega
  have tH : too S H = H := Classical.byContradiction fun e => by have := h.cl H hH e; omega
  have aL := h.lo L hL
  refine ⟨⟨by rw [pairA_len]; exact h.len, fun i hi => ?_, fun i hi => ?_, fun i hi => ?_, fun i hi => ?_, ?_, fun k hk => ?_⟩, ?_, tH, hne⟩
  · rw [pairA_len] at hi
    by_cases e1 : i = L
    · subst e1; rw [(lev_pairL hL hne).1]; exact h.lo _ hi
    · by_cases e2 : i = H
      · subst e2; rw [(lev_pairH hH).1]; omega
      · rw [(lev_pairO e1 e2).1]; exact h.lo _ hi
  · rw [pairA_len] at hi
    by_cases e1 : i = L
    · subst e1; rw [(lev_pairL hL hne).1]; exact h.up _ hi
    · by_cases e2 : i = H
      · subst e2; rw [(lev_pairH hH).1]; have := h.up _ hi; omega
      · rw [(lev_pairO e1 e2).1]; exact h.up _ hi
  · rw [pairA_len] at hi ⊢
    by_cases e1 : i = L
    · subst e1; rw [(lev_pairL hL hne).2]; omega
    · by_cases e2 : i = H
      · subst e2; rw [(lev_pairH hH).2]; exact h.to0 _ hi
      · rw [(lev_pairO e1 e2).2]; exact h.to0 _ hi
  · rw [pairA_len] at hi
    intro ht
    by_cases e1 : i = L
    · subst e1; rw [(lev_pairL hL hne).1]; exact lL
    · by_cases e2 : i = H
      · subst e2; rw [(lev_pairH hH).2] at ht; exact absurd tH ht
      · rw [(lev_pairO e1 e2).2] at ht; rw [(lev_pairO e1 e2).1]; exact h.cl _ hi ht
  · rw [sumA_pair _ hL hH hne, h.ex]
    simp only [exA, tL, tH]
    rw [if_pos trivial, if_neg (by omega), if_pos trivial, if_pos trivial]
    omega
  · rw [pairA_len] at hk
    rw [sumA_pair _ hL hH hne, h.cn k hk]
    simp only [cnA, tL, tH]
    rw [if_neg (c := (L : Int) = k ∧ (L : Int) ≠ L) (fun e => e.2 rfl), if_neg (c := (H : Int) = k ∧ (H : Int) ≠ H) (fun e => e.2 rfl)]
    by_cases e1 : H = k
    · subst e1
      rw [if_neg (c := L = H) hne, if_pos (c := H = H) rfl, if_pos (c := H = H) rfl, if_pos (⟨rfl, by omega⟩)]
      omega
    · rw [if_neg (c := H = k) e1, if_neg (c := H = k) e1, if_neg (c := (H : Int) = k ∧ (H : Int) ≠ L) (fun e => e1 (by omega))]
      omega
  · rw [sumA_pair _ hL hH hne]
    simp only [opA, tL, tH]
    rw [if_neg (c := (H : Int) = L) (by omega)]
    simp

def sumW : List Int → Int
  | [] => 0
  | w :: r => w + sumW r
theorem sumW_snoc (l : List Int) (x : Int) : sumW (l ++ [x]) = sumW l + x := by
  induction l with
  | nil => simp [sumW]
  | cons y r ih => rw [List.cons_append, sumW, ih, sumW]; omega
/-- All open. -/
def initA (W : List Int) : AT := (List.range W.length).map fun i => (W.getD i 0 * (W.length : Int), (i : Int))
theorem initA_len (W : List Int) : (initA W).length = W.length := by simp [initA]
theorem initA_at {W : List Int} {i : Nat} (h : i < W.length) : (initA W).getD i (0, 0) = (W.getD i 0 * (W.length : Int), (i : Int)) := by
  simp [initA, List.getD_eq_getElem?_getD, h]
theorem sumA_init (g : Nat → Int) : ∀ (W : List Int) (i c : Nat), sumA (fun k e => if e.2 = k then e.1 - g 0 else 0) i ((List.range W.length).map fun j => (W.getD j 0 * (c : Int), ((i + j : Nat) : Int))) = sumW W * c - W.length * g 0
  | [], i, c => by simp [sumA, sumW]
  | w :: r, i, c => by
    have ih := sumA_init g r (i + 1) c
    rw [List.length_cons, List.range_succ_eq_map, List.map_cons, List.map_map, sumA, sumW]
    have e : ((fun j => ((w :: r).getD j 0 * (c : Int), ((i + j : Nat) : Int))) ∘ Nat.succ) = fun j => (r.getD j 0 * (c : Int), ((i + 1 + j : Nat) : Int)) := by
      funext j
      simp only [Function.comp, List.getD_cons_succ]
      rw [show i + Nat.succ j = i + 1 + j by omega]
    rw [e, ih]
    simp only [List.getD_cons_zero, Nat.add_zero, if_true]
    grind
theorem initA_inv {W : List Int} (h0 : ∀ x ∈ W, 0 ≤ x) : InvA (sumW W) W (initA W) := by
  have hmem : ∀ i, i < W.length → 0 ≤ W.getD i 0 := fun i hi => by
    rw [List.getD_eq_getElem?_getD, List.getElem?_eq_getElem hi]
    exact h0 _ (List.getElem_mem hi)
  have hl : ∀ i, i < W.length → lev (initA W) i = W.getD i 0 * (W.length : Int) ∧ too (initA W) i = i := fun i hi => by
    unfold lev too; rw [initA_at hi]; exact ⟨rfl, rfl⟩
  refine ⟨initA_len W, fun i hi => ?_, fun i hi => ?_, fun i hi => ?_, fun i hi ht => ?_, ?_, fun k hk => ?_⟩
  · rw [initA_len] at hi
    rw [(hl i hi).1]
    exact Int.mul_nonneg (hmem i hi) (by omega)
  · rw [initA_len] at hi
    rw [(hl i hi).1]
    exact Int.le_refl _
  · rw [initA_len] at hi ⊢
    rw [(hl i hi).2]
    omega
  · rw [initA_len] at hi
    exact absurd (hl i hi).2 ht
  · have := sumA_init (fun _ => sumW W) W 0 W.length
    unfold exA initA
    simp only [Nat.zero_add] at this
    rw [this]
    rw [Int.mul_comm]
    omega
  · rw [initA_len] at hk
    -- only k itself counts
    have e : ∀ (S : AT) (f : Nat → Int × Int → Int) (i : Nat), (∀ j, j < S.length → i + j ≠ k → f (i + j) (S.getD j (0, 0)) = 0) → i ≤ k → k < i + S.length → sumA f i S = f k (S.getD (k - i) (0, 0)) := by
      intro S
      induction S with
      | nil => intro f i _ h1 h2; simp at h2; omega
      | cons x r ih =>
        intro f i h h1 h2
        rw [sumA]
        by_cases e : i = k
        · subst e
          rw [sumA_zero r (i + 1) (fun j hj => by
            have := h (j + 1) (by simp; omega) (by omega)
            simp only [List.getD_cons_succ] at this
            rw [show i + 1 + j = i + (j + 1) by omega]
            exact this)]
          simp
        · have hz := h 0 (by simp) (by omega)
          simp at hz
          rw [hz, ih f (i + 1) (fun j hj hne => by
            have := h (j + 1) (by simp; omega) (by omega)
            simp only [List.getD_cons_succ] at this
            rw [show i + 1 + j = i + (j + 1) by omega]
            exact this) (by omega) (by simp at h2; omega)]
          rw [show k - i = (k - (i + 1)) + 1 by omega, List.getD_cons_succ]
          omega
    rw [e (initA W) (cnA (sumW W) k) 0 ?_ (Nat.zero_le _) (by rw [initA_len]; omega)]
    · rw [Nat.sub_zero, initA_at hk]
      simp [cnA]
    · intro j hj hne
      rw [initA_len] at hj
      rw [initA_at hj, Nat.zero_add] at *
      simp only [cnA]
      rw [if_neg (by omega), if_neg (fun h => h.2 rfl)]
      rfl

theorem runA_inv {s : Int} {W : List Int} : ∀ (m : Nat) {S : AT}, InvA s W S → InvA s W (runA s m S)
  | 0, _, h => h
  | m + 1, S, h => by
    by_cases hc : 0 ≤ loI s S ∧ 0 ≤ hiI s S
    · rw [runA_go hc]
      refine runA_inv m ?_
      rcases lo_cases s S with ⟨h1, _⟩ | ⟨L, h1, h2, h3, h4⟩
      · omega
      rcases hi_cases s S with ⟨k1, _⟩ | ⟨H, k1, k2, k3⟩
      · omega
      unfold stepA
      rw [h1, k1, Int.toNat_natCast, Int.toNat_natCast]
      exact (h.step h2 k2 h3 h4 k3).1
    · rw [runA_stop hc]; exact h
theorem opA_le {S : AT} : 0 ≤ sumA opA 0 S ∧ sumA opA 0 S ≤ (S.length : Int) := by
  have h : ∀ (S : AT) (i : Nat), 0 ≤ sumA opA i S ∧ sumA opA i S ≤ (S.length : Int) := by
    intro S
    induction S with
    | nil => intro i; simp [sumA]
    | cons x r ih =>
      intro i
      have := ih (i + 1)
      rw [sumA, List.length_cons]
      unfold opA at this ⊢
      split <;> omega
  exact h S 0
theorem opA_pos {S : AT} {L : Nat} (h : L < S.length) (t : too S L = L) : 1 ≤ sumA opA 0 S := by
  have := (sumA_nonneg (f := opA) S 0 (fun j _ => by unfold opA; split <;> omega)).2 L h
  have e : opA (0 + L) (S.getD L (0, 0)) = 1 := by
    unfold opA; unfold too at t; rw [if_pos (by rw [t]; omega)]
  omega
/-- As many rounds as are open are enough. -/
theorem runA_end {s : Int} {W : List Int} : ∀ (m : Nat) {S : AT}, InvA s W S → sumA opA 0 S ≤ (m : Int) → ¬ (0 ≤ loI s (runA s m S) ∧ 0 ≤ hiI s (runA s m S))
  | 0, S, h, hm => by
    rintro ⟨h5, _⟩
    rcases lo_cases s S with ⟨h1, _⟩ | ⟨L, h1, h2, h3, h4⟩
    · unfold runA at h5; omega
    · have := opA_pos h2 h3
      omega
  | m + 1, S, h, hm => by
    by_cases hc : 0 ≤ loI s S ∧ 0 ≤ hiI s S
    · rw [runA_go hc]
      rcases lo_cases s S with ⟨h1, _⟩ | ⟨L, h1, h2, h3, h4⟩
      · omega
      rcases hi_cases s S with ⟨k1, _⟩ | ⟨H, k1, k2, k3⟩
      · omega
      have hs := h.step h2 k2 h3 h4 k3
      have e : stepA s S = pairA s S L H := by unfold stepA; rw [h1, k1, Int.toNat_natCast, Int.toNat_natCast]
      rw [e]
      exact runA_end m hs.1 (by rw [hs.2.1]; omega)
    · rw [runA_stop hc]; exact hc
/-- At the end whatever is open has just s. -/
theorem endA {s : Int} {W : List Int} {S : AT} (h : InvA s W S) (hs : ¬ (0 ≤ loI s S ∧ 0 ≤ hiI s S)) : ∀ i : Nat, i < S.length → too S i = i → lev S i = s := by
  intro i hi ht
  have ex := h.ex
  rcases lo_cases s S with ⟨h1, h2⟩ | ⟨L, h1, h2, h3, h4⟩
  · -- none is low
    have := (sumA_nonneg (f := exA s) S 0 (fun j hj => by
      unfold exA
      split
      · rename_i e
        have := h2 j hj (by unfold too; rw [e]; omega)
        unfold lev at this; omega
      · exact Int.le_refl _)).2 i hi
    rw [ex] at this
    unfold exA at this
    unfold too at ht
    rw [if_pos (by rw [ht]; omega)] at this
    have h3 := h2 i hi ht
    unfold lev at h3 ⊢
    omega
  · rcases hi_cases s S with ⟨k1, k2⟩ | ⟨H, k1, k2, k3⟩
    · -- none is high
      have hn : sumA (fun i e => - exA s i e) 0 S = 0 := by
        have hneg : ∀ (S : AT) (i : Nat), sumA (fun i e => - exA s i e) i S = - sumA (exA s) i S := by
          intro S
          induction S with
          | nil => intro i; rfl
          | cons x r ih => intro i; rw [sumA, sumA, ih]; omega
        rw [hneg, ex]; rfl
      have := (sumA_nonneg (f := fun i e => - exA s i e) S 0 (fun j hj => by
        unfold exA
        have := k2 j hj
        unfold lev at this
        split <;> omega)).2 i hi
      rw [hn] at this
      unfold exA at this
      unfold too at ht
      rw [if_pos (by rw [ht]; omega)] at this
      have h3 := k2 i hi
      unfold lev at h3 ⊢
      omega
    · omega
/-- The table of weights. -/
def makeA (W : List Int) : AT := runA (sumW W) W.length (initA W)
theorem makeA_inv {W : List Int} (h0 : ∀ x ∈ W, 0 ≤ x) : InvA (sumW W) W (makeA W) := runA_inv _ (initA_inv h0)
theorem makeA_len {W : List Int} (h0 : ∀ x ∈ W, 0 ≤ x) : (makeA W).length = W.length := (makeA_inv h0).len
theorem makeA_end {W : List Int} (h0 : ∀ x ∈ W, 0 ≤ x) : ¬ (0 ≤ loI (sumW W) (makeA W) ∧ 0 ≤ hiI (sumW W) (makeA W)) := by
  refine runA_end _ (initA_inv h0) ?_
  have := (opA_le (S := initA W)).2
  rw [initA_len] at this
  exact this
theorem makeA_open {W : List Int} (h0 : ∀ x ∈ W, 0 ≤ x) : ∀ i : Nat, i < W.length → too (makeA W) i = i → lev (makeA W) i = sumW W := fun i hi ht => endA (makeA_inv h0) (makeA_end h0) i (by rw [makeA_len h0]; exact hi) ht
end Go.Proofs.Ytkcgcojhgcfgmaa
