/- Counting over all tapes of one length: tosses, and choices by weights. -/
import Derived.Test.YtkfpomeemcmfmaaCo
import Derived.Test.YtkfpomeemcmfmaaBi
namespace Go.Proofs.Ytkfpomeemcmfmaa

/-- The sum over all tapes of one length. -/
def sumT : Nat → (List Bool → Nat) → Nat
  | 0, f => f []
  | n + 1, f => sumT n (fun t => f (false :: t)) + sumT n (fun t => f (true :: t))
/-- .. over the first x of them. -/
def runS (g : Nat → Nat) : Nat → Nat
  | 0 => 0
  | x + 1 => runS g x + g x
theorem runS_congr {g h : Nat → Nat} : ∀ x, (∀ i, i < x → g i = h i) → runS g x = runS h x
  | 0, _ => rfl
  | x + 1, e => by rw [runS, runS, runS_congr x (fun i hi => e i (by omega)), e x (by omega)]
theorem runS_add (g : Nat → Nat) (a : Nat) : ∀ b, runS g (a + b) = runS g a + runS (fun i => g (a + i)) b
  | 0 => rfl
  | b + 1 => by rw [← Nat.add_assoc, runS, runS, runS_add g a b]; omega
theorem bitsOf_mod (n : Nat) : ∀ x k, bitsOf (x + 2 ^ n * k) n = bitsOf x n := by
  induction n with
  | zero => intro x k; rfl
  | succ n ih =>
    intro x k
    have e : x + 2 ^ (n + 1) * k = x + 2 * (2 ^ n * k) := by rw [Nat.pow_succ, Nat.mul_comm (2 ^ n) 2, Nat.mul_assoc]
    rw [bitsOf, bitsOf, e, show (x + 2 * (2 ^ n * k)) / 2 = x / 2 + 2 ^ n * k by omega, ih, show (x + 2 * (2 ^ n * k)) % 2 = x % 2 by omega]
theorem bitsOf_top (n : Nat) : ∀ x, bitsOf x (n + 1) = (x / 2 ^ n % 2 == 1) :: bitsOf x n := by
  induction n with
  | zero => intro x; simp [bitsOf]
  | succ n ih =>
    intro x
    rw [bitsOf, ih, bitsOf, Nat.div_div_eq_div_mul, Nat.pow_succ, Nat.mul_comm 2, List.cons_append]
theorem runS_sumT : ∀ (n : Nat) (f : List Bool → Nat), runS (fun i => f (bitsOf i n)) (2 ^ n) = sumT n f := by
  intro n
  induction n with
  | zero => intro f; simp [runS, sumT, bitsOf]
  | succ n ih =>
    intro f
    rw [Nat.pow_succ, Nat.mul_two, runS_add, sumT, ← ih, ← ih]
    congr 1
    · refine runS_congr _ fun i hi => ?_
      rw [bitsOf_top, Nat.div_eq_of_lt hi]; rfl
    · refine runS_congr _ fun i hi => ?_
      have e := bitsOf_mod n i 1
      rw [Nat.mul_one, Nat.add_comm] at e
      rw [bitsOf_top, e, Nat.add_div_left i (Nat.two_pow_pos n), Nat.div_eq_of_lt hi]; rfl
theorem sumT_const (c : Nat) : ∀ n, sumT n (fun _ => c) = c * 2 ^ n
  | 0 => by simp [sumT]
  | n + 1 => by rw [sumT, sumT_const c n, Nat.pow_succ, ← Nat.mul_assoc]; omega

/-- A toss and what follows it: A behind a yes, G on the rest behind a no, Z where the tape ends. -/
def tf (A Z : Nat) (G : List Bool → Nat) (d r : Nat) (t : List Bool) : Nat := match tossF d r t with
  | none => Z
  | some (true, _) => A
  | some (false, u) => G (t.drop u)
theorem tf_zero (A Z : Nat) (G : List Bool → Nat) (d : Nat) (t : List Bool) : tf A Z G d 0 t = G t := by simp [tf, tossF_zero]
theorem tf_end {A Z : Nat} {G : List Bool → Nat} {d r : Nat} (h : r ≠ 0) : tf A Z G d r [] = Z := by simp [tf, tossF_end h]
theorem tf_high0 {A Z : Nat} {G : List Bool → Nat} {d r : Nat} (h : r ≠ 0) (e : d ≤ 2 * r) (t : List Bool) : tf A Z G d r (false :: t) = A := by simp [tf, tossF, h, e]
theorem tf_low1 {A Z : Nat} {G : List Bool → Nat} {d r : Nat} (h : r ≠ 0) (e : ¬ d ≤ 2 * r) (t : List Bool) : tf A Z G d r (true :: t) = G t := by simp [tf, tossF, h, e]
theorem tf_csh {A Z : Nat} {G : List Bool → Nat} {x : Bool} {t : List Bool} (o : Option (Bool × Nat)) :
    (match csh 1 o with | none => Z | some (true, _) => A | some (false, u) => G ((x :: t).drop u)) = (match o with | none => Z | some (true, _) => A | some (false, u) => G (t.drop u)) := by
  cases o with
  | none => rfl
  | some p =>
    obtain ⟨b, u⟩ := p
    cases b with
    | true => rfl
    | false => simp [csh, Nat.add_comm 1 u]
theorem tf_high1 {A Z : Nat} {G : List Bool → Nat} {d r : Nat} (h : r ≠ 0) (e : d ≤ 2 * r) (t : List Bool) : tf A Z G d r (true :: t) = tf A Z G d (2 * r - d) t := by
  unfold tf
  rw [tossF, if_neg h, if_pos e, if_pos rfl]
  exact tf_csh _
theorem tf_low0 {A Z : Nat} {G : List Bool → Nat} {d r : Nat} (h : r ≠ 0) (e : ¬ d ≤ 2 * r) (t : List Bool) : tf A Z G d r (false :: t) = tf A Z G d (2 * r) t := by
  unfold tf
  rw [tossF, if_neg h, if_neg e, if_neg (by decide)]
  exact tf_csh _
theorem tf_le (A : Nat) (G : List Bool → Nat) (c D d : Nat) (hG : ∀ m, sumT m G * D ≤ c * 2 ^ m) : ∀ n r, r < d → sumT n (tf A 0 G d r) * (d * D) ≤ (A * r * D + (d - r) * c) * 2 ^ n := by
  intro n
  induction n with
  | zero =>
    intro r hr
    by_cases r0 : r = 0
    · subst r0
      rw [show tf A 0 G d 0 = G from funext (tf_zero A 0 G d)]
      have := Nat.mul_le_mul_left d (hG 0)
      grind
    · rw [sumT, tf_end r0]; omega
  | succ n ih =>
    intro r hr
    by_cases r0 : r = 0
    · subst r0
      rw [show tf A 0 G d 0 = G from funext (tf_zero A 0 G d)]
      have := Nat.mul_le_mul_left d (hG (n + 1))
      grind
    · rw [sumT]
      by_cases e : d ≤ 2 * r
      · rw [show (fun t => tf A 0 G d r (false :: t)) = (fun _ => A) from funext (tf_high0 r0 e), show (fun t => tf A 0 G d r (true :: t)) = tf A 0 G d (2 * r - d) from funext (tf_high1 r0 e), sumT_const]
        have := ih (2 * r - d) (by omega)
        obtain ⟨k, hk⟩ : ∃ k, 2 * r = d + k := ⟨2 * r - d, by omega⟩
        obtain ⟨m, hm⟩ : ∃ m, d = r + m := ⟨d - r, by omega⟩
        rw [show 2 * r - d = k by omega] at *
        rw [show d - k = 2 * m by omega] at this
        rw [show d - r = m by omega, Nat.pow_succ]
        generalize sumT n (tf A 0 G d k) = S at *
        generalize 2 ^ n = P at *
        have e1 : (A * r * D + m * c) * (P * 2) = A * P * (d * D) + (A * k * D + 2 * m * c) * P := by
          have : A * r * D * (P * 2) = A * P * D * (2 * r) := by grind
          grind
        rw [e1, Nat.add_mul (A * P) S]
        omega
      · rw [show (fun t => tf A 0 G d r (false :: t)) = tf A 0 G d (2 * r) from funext (tf_low0 r0 e), show (fun t => tf A 0 G d r (true :: t)) = G from funext (tf_low1 r0 e)]
        have h1 := ih (2 * r) (by omega)
        have h2 := Nat.mul_le_mul_left d (hG n)
        obtain ⟨m, hm⟩ : ∃ m, d = 2 * r + m := ⟨d - 2 * r, by omega⟩
        rw [show d - 2 * r = m by omega] at h1
        rw [show d - r = r + m by omega, Nat.pow_succ]
        generalize sumT n (tf A 0 G d (2 * r)) = S at *
        generalize sumT n G = R at *
        generalize 2 ^ n = P at *
        have e1 : (A * r * D + (r + m) * c) * (P * 2) = (A * (2 * r) * D + m * c) * P + d * (c * P) := by
          rw [hm]; grind
        rw [e1, Nat.add_mul S R, ← Nat.mul_assoc R d D, Nat.mul_comm R d, Nat.mul_assoc d R D]
        omega
theorem tf_ge (A : Nat) (G : List Bool → Nat) (c D d : Nat) (hA : A ≤ 1) (hc : c ≤ D) (hG : ∀ m, c * 2 ^ m ≤ sumT m G * D) : ∀ n r, r < d → (A * r * D + (d - r) * c) * 2 ^ n ≤ sumT n (tf A 1 G d r) * (d * D) := by
  intro n
  induction n with
  | zero =>
    intro r hr
    by_cases r0 : r = 0
    · subst r0
      rw [show tf A 1 G d 0 = G from funext (tf_zero A 1 G d)]
      have := Nat.mul_le_mul_left d (hG 0)
      grind
    · rw [sumT, tf_end r0]
      have h1 : A * r * D ≤ r * D := Nat.mul_le_mul_right D (by have := Nat.mul_le_mul_right r hA; omega)
      have h2 : (d - r) * c ≤ (d - r) * D := Nat.mul_le_mul_left _ hc
      have h3 : r * D + (d - r) * D = d * D := by rw [← Nat.add_mul]; congr 1; omega
      omega
  | succ n ih =>
    intro r hr
    by_cases r0 : r = 0
    · subst r0
      rw [show tf A 1 G d 0 = G from funext (tf_zero A 1 G d)]
      have := Nat.mul_le_mul_left d (hG (n + 1))
      grind
    · rw [sumT]
      by_cases e : d ≤ 2 * r
      · rw [show (fun t => tf A 1 G d r (false :: t)) = (fun _ => A) from funext (tf_high0 r0 e), show (fun t => tf A 1 G d r (true :: t)) = tf A 1 G d (2 * r - d) from funext (tf_high1 r0 e), sumT_const]
        have := ih (2 * r - d) (by omega)
        obtain ⟨k, hk⟩ : ∃ k, 2 * r = d + k := ⟨2 * r - d, by omega⟩
        obtain ⟨m, hm⟩ : ∃ m, d = r + m := ⟨d - r, by omega⟩
        rw [show 2 * r - d = k by omega] at *
        rw [show d - k = 2 * m by omega] at this
        rw [show d - r = m by omega, Nat.pow_succ]
        generalize sumT n (tf A 1 G d k) = S at *
        generalize 2 ^ n = P at *
        have e1 : (A * r * D + m * c) * (P * 2) = A * P * (d * D) + (A * k * D + 2 * m * c) * P := by
          have : A * r * D * (P * 2) = A * P * D * (2 * r) := by grind
          grind
        rw [e1, Nat.add_mul (A * P) S]
        omega
      · rw [show (fun t => tf A 1 G d r (false :: t)) = tf A 1 G d (2 * r) from funext (tf_low0 r0 e), show (fun t => tf A 1 G d r (true :: t)) = G from funext (tf_low1 r0 e)]
        have h1 := ih (2 * r) (by omega)
        have h2 := Nat.mul_le_mul_left d (hG n)
        obtain ⟨m, hm⟩ : ∃ m, d = 2 * r + m := ⟨d - 2 * r, by omega⟩
        rw [show d - 2 * r = m by omega] at h1
        rw [show d - r = r + m by omega, Nat.pow_succ]
        generalize sumT n (tf A 1 G d (2 * r)) = S at *
        generalize sumT n G = R at *
        generalize 2 ^ n = P at *
        have e1 : (A * r * D + (r + m) * c) * (P * 2) = (A * (2 * r) * D + m * c) * P + d * (c * P) := by
          rw [hm]; grind
        rw [e1, Nat.add_mul S R, ← Nat.mul_assoc R d D, Nat.mul_comm R d, Nat.mul_assoc d R D]
        omega

/-- How often a choice is k; whether the tape ended. -/
def hit (k : Nat) : Option (Nat × Nat) → Nat
  | none => 0
  | some p => if p.1 = k then 1 else 0
def fin : Option (Nat × Nat) → Nat
  | none => 1
  | some _ => 0
theorem hit_tsh (k u : Nat) (o : Option (Nat × Nat)) : hit (k + 1) (tsh 1 u o) = hit k o := by
  cases o with
  | none => rfl
  | some p => simp only [tsh, hit]; congr 1; simp; omega
theorem hit_tsh0 (u : Nat) (o : Option (Nat × Nat)) : hit 0 (tsh 1 u o) = 0 := by
  cases o with
  | none => rfl
  | some p => simp [tsh, hit]
theorem fin_tsh (k u : Nat) (o : Option (Nat × Nat)) : fin (tsh k u o) = fin o := by cases o <;> rfl
theorem ofF_tf {x s : Nat} {ws : List Nat} (h : x ≠ s) (f : Option (Nat × Nat) → Nat) (t : List Bool) :
    f (ofF (x :: ws) s t) = match tossF s x t with | none => f none | some (true, u) => f (some (0, u)) | some (false, u) => f (tsh 1 u (ofF ws (s - x) (t.drop u))) := by
  rw [ofF]
  unfold tosG
  rw [if_neg h]
  cases tossF s x t with
  | none => rfl
  | some p =>
    obtain ⟨b, u⟩ := p
    cases b <;> rfl
theorem ofF_one {x s : Nat} {ws : List Nat} (h : x = s) (t : List Bool) : ofF (x :: ws) s t = some (0, 0) := by
  rw [ofF]; unfold tosG; rw [if_pos h]
theorem getD_le_sum (ws : List Nat) : ∀ k, ws.getD k 0 ≤ ws.sum := by
  induction ws with
  | nil => intro k; simp
  | cons x ws ih =>
    intro k
    cases k with
    | zero => simp
    | succ k => have := ih k; simp at this ⊢; omega
theorem split_le : ∀ (ws : List Nat) (k n : Nat), 0 < ws.sum → sumT n (fun t => hit k (ofF ws ws.sum t)) * ws.sum ≤ ws.getD k 0 * 2 ^ n := by
  intro ws
  induction ws with
  | nil => intro k n h; simp at h
  | cons x ws ih =>
    intro k n h
    rw [List.sum_cons] at h ⊢
    by_cases e : x = x + ws.sum
    · simp only [ofF_one e]
      cases k with
      | zero => rw [sumT_const]; simp [hit]; rw [Nat.mul_comm, show ws.sum = 0 by omega]; simp
      | succ k => rw [sumT_const]; simp [hit]
    · have hp : 0 < ws.sum := by omega
      cases k with
      | zero =>
        have := tf_le 1 (fun _ => 0) 0 1 (x + ws.sum) (fun m => by rw [sumT_const]; simp) n x (by omega)
        have e2 : (fun t => hit 0 (ofF (x :: ws) (x + ws.sum) t)) = tf 1 0 (fun _ => 0) (x + ws.sum) x := by
          funext t
          rw [ofF_tf e (hit 0)]
          unfold tf
          cases tossF (x + ws.sum) x t with
          | none => rfl
          | some p =>
            obtain ⟨b, u⟩ := p
            cases b with
            | true => rfl
            | false => exact hit_tsh0 u _
        rw [e2]
        simpa using this
      | succ k =>
        have := tf_le 0 (fun t => hit k (ofF ws ws.sum t)) (ws.getD k 0) ws.sum (x + ws.sum) (fun m => ih k m hp) n x (by omega)
        have e2 : (fun t => hit (k + 1) (ofF (x :: ws) (x + ws.sum) t)) = tf 0 0 (fun t => hit k (ofF ws ws.sum t)) (x + ws.sum) x := by
          funext t
          rw [ofF_tf e (hit (k + 1))]
          unfold tf
          cases tossF (x + ws.sum) x t with
          | none => rfl
          | some p =>
            obtain ⟨b, u⟩ := p
            cases b with
            | true => rfl
            | false => simp only [Nat.add_sub_cancel_left]; exact hit_tsh k u _
        rw [e2]
        rw [show x + ws.sum - x = ws.sum by omega] at this
        generalize sumT n (tf 0 0 (fun t => hit k (ofF ws ws.sum t)) (x + ws.sum) x) = S at *
        have e3 : (x :: ws).getD (k + 1) 0 = ws.getD k 0 := by simp
        rw [e3]
        generalize ws.getD k 0 = c at *
        generalize ws.sum = q at *
        refine Nat.le_of_mul_le_mul_left ?_ hp
        generalize 2 ^ n = P at *
        have a1 : q * (S * (x + q)) = S * ((x + q) * q) := by grind
        have a2 : q * (c * P) = (0 * x * q + q * c) * P := by grind
        rw [a1, a2]
        exact this
theorem split_ge : ∀ (ws : List Nat) (k n : Nat), 0 < ws.sum → ws.getD k 0 * 2 ^ n ≤ sumT n (fun t => hit k (ofF ws ws.sum t) + fin (ofF ws ws.sum t)) * ws.sum := by
  intro ws
  induction ws with
  | nil => intro k n h; simp at h
  | cons x ws ih =>
    intro k n h
    rw [List.sum_cons] at h ⊢
    by_cases e : x = x + ws.sum
    · simp only [ofF_one e]
      cases k with
      | zero => rw [sumT_const]; simp [hit, fin]; rw [Nat.mul_comm, show ws.sum = 0 by omega]; simp
      | succ k =>
        have := getD_le_sum ws k
        rw [show ws.sum = 0 by omega] at this
        have e3 : (x :: ws).getD (k + 1) 0 = ws.getD k 0 := by simp
        rw [e3, show ws.getD k 0 = 0 by omega]; simp
    · have hp : 0 < ws.sum := by omega
      cases k with
      | zero =>
        have := tf_ge 1 (fun t => fin (ofF ws ws.sum t)) 0 1 (x + ws.sum) (by omega) (by omega) (fun m => by simp) n x (by omega)
        have e2 : (fun t => hit 0 (ofF (x :: ws) (x + ws.sum) t) + fin (ofF (x :: ws) (x + ws.sum) t)) = tf 1 1 (fun t => fin (ofF ws ws.sum t)) (x + ws.sum) x := by
          funext t
          rw [ofF_tf e (fun o => hit 0 o + fin o)]
          unfold tf
          cases tossF (x + ws.sum) x t with
          | none => rfl
          | some p =>
            obtain ⟨b, u⟩ := p
            cases b with
            | true => rfl
            | false => simp only [Nat.add_sub_cancel_left]; rw [hit_tsh0, fin_tsh]; simp
        rw [e2]
        simpa using this
      | succ k =>
        have := tf_ge 0 (fun t => hit k (ofF ws ws.sum t) + fin (ofF ws ws.sum t)) (ws.getD k 0) ws.sum (x + ws.sum) (by omega) (getD_le_sum ws k) (fun m => ih k m hp) n x (by omega)
        have e2 : (fun t => hit (k + 1) (ofF (x :: ws) (x + ws.sum) t) + fin (ofF (x :: ws) (x + ws.sum) t)) = tf 0 1 (fun t => hit k (ofF ws ws.sum t) + fin (ofF ws ws.sum t)) (x + ws.sum) x := by
          funext t
          rw [ofF_tf e (fun o => hit (k + 1) o + fin o)]
          unfold tf
          cases tossF (x + ws.sum) x t with
          | none => rfl
          | some p =>
            obtain ⟨b, u⟩ := p
            cases b with
            | true => rfl
            | false => simp only [Nat.add_sub_cancel_left]; rw [hit_tsh, fin_tsh]
        rw [e2]
        rw [show x + ws.sum - x = ws.sum by omega] at this
        generalize sumT n (tf 0 1 (fun t => hit k (ofF ws ws.sum t) + fin (ofF ws ws.sum t)) (x + ws.sum) x) = S at *
        have e3 : (x :: ws).getD (k + 1) 0 = ws.getD k 0 := by simp
        rw [e3]
        generalize ws.getD k 0 = c at *
        generalize ws.sum = q at *
        refine Nat.le_of_mul_le_mul_left ?_ hp
        generalize 2 ^ n = P at *
        have a1 : q * (S * (x + q)) = S * ((x + q) * q) := by grind
        have a2 : q * (c * P) = (0 * x * q + q * c) * P := by grind
        rw [a1, a2]
        exact this

/-- How many tapes say yes; whether one ends. -/
def yesI : Option (Bool × Nat) → Nat
  | none => 0
  | some p => if p.1 then 1 else 0
def endI : Option (Bool × Nat) → Nat
  | none => 1
  | some _ => 0
theorem yesI_csh (k : Nat) (o : Option (Bool × Nat)) : yesI (csh k o) = yesI o := by cases o <;> rfl
theorem endI_csh (k : Nat) (o : Option (Bool × Nat)) : endI (csh k o) = endI o := by cases o <;> rfl
theorem tossF_high0 {d r : Nat} (h : r ≠ 0) (e : d ≤ 2 * r) (t : List Bool) : tossF d r (false :: t) = some (true, 1) := by simp [tossF, h, e]
theorem tossF_high1 {d r : Nat} (h : r ≠ 0) (e : d ≤ 2 * r) (t : List Bool) : tossF d r (true :: t) = csh 1 (tossF d (2 * r - d) t) := by simp [tossF, h, e]
theorem tossF_low0 {d r : Nat} (h : r ≠ 0) (e : ¬ d ≤ 2 * r) (t : List Bool) : tossF d r (false :: t) = csh 1 (tossF d (2 * r) t) := by simp [tossF, h, e]
theorem tossF_low1 {d r : Nat} (h : r ≠ 0) (e : ¬ d ≤ 2 * r) (t : List Bool) : tossF d r (true :: t) = some (false, 1) := by simp [tossF, h, e]
theorem yes_count {d : Nat} (hd : 0 < d) : ∀ n r, r < d → sumT n (fun t => yesI (tossF d r t)) = r * 2 ^ n / d := by
  intro n
  induction n with
  | zero =>
    intro r hr
    rw [sumT]
    by_cases r0 : r = 0
    · rw [r0, tossF_zero]; simp [yesI]
    · rw [tossF_end r0]; simp [yesI, Nat.div_eq_of_lt hr]
  | succ n ih =>
    intro r hr
    rw [sumT]
    by_cases r0 : r = 0
    · subst r0
      simp only [tossF_zero]
      rw [sumT_const]; simp [yesI]
    · by_cases e : d ≤ 2 * r
      · simp only [tossF_high0 r0 e, tossF_high1 r0 e, yesI_csh]
        rw [sumT_const, ih _ (by omega)]
        have e1 : r * 2 ^ (n + 1) = (2 * r - d) * 2 ^ n + d * 2 ^ n := by
          rw [← Nat.add_mul, Nat.pow_succ, show 2 * r - d + d = 2 * r by omega]; grind
        rw [e1, Nat.add_mul_div_left _ _ hd]
        simp [yesI]; omega
      · simp only [tossF_low0 r0 e, tossF_low1 r0 e, yesI_csh]
        rw [sumT_const, ih _ (by omega)]
        simp [yesI]
        congr 1
        rw [Nat.pow_succ]; grind
theorem end_count {d : Nat} (hd : 0 < d) : ∀ n r, r < d → sumT n (fun t => endI (tossF d r t)) = if r * 2 ^ n % d = 0 then 0 else 1 := by
  intro n
  induction n with
  | zero =>
    intro r hr
    rw [sumT]
    by_cases r0 : r = 0
    · rw [r0, tossF_zero]; simp [endI]
    · rw [tossF_end r0]; simp [endI, Nat.mod_eq_of_lt hr, r0]
  | succ n ih =>
    intro r hr
    rw [sumT]
    by_cases r0 : r = 0
    · subst r0
      simp only [tossF_zero]
      rw [sumT_const]; simp [endI]
    · by_cases e : d ≤ 2 * r
      · simp only [tossF_high0 r0 e, tossF_high1 r0 e, endI_csh]
        rw [sumT_const, ih _ (by omega)]
        have e1 : r * 2 ^ (n + 1) = (2 * r - d) * 2 ^ n + d * 2 ^ n := by
          rw [← Nat.add_mul, Nat.pow_succ, show 2 * r - d + d = 2 * r by omega]; grind
        rw [e1, Nat.add_mul_mod_self_left]
        simp [endI]
      · simp only [tossF_low0 r0 e, tossF_low1 r0 e, endI_csh]
        rw [sumT_const, ih _ (by omega)]
        have e1 : r * 2 ^ (n + 1) = 2 * r * 2 ^ n := by rw [Nat.pow_succ]; grind
        rw [e1]
        simp [endI]
theorem yesG_count {a d n : Nat} (hd : 0 < d) (h : a ≤ d) : runS (fun i => yesI (tosG a d (bitsOf i n))) (2 ^ n) = a * 2 ^ n / d := by
  rw [runS_sumT n (fun t => yesI (tosG a d t))]
  unfold tosG
  by_cases e : a = d
  · simp only [if_pos e]
    rw [sumT_const, e, Nat.mul_div_cancel_left _ hd]; simp [yesI]
  · simp only [if_neg e]
    exact yes_count hd n a (by omega)
theorem endG_count {a d n : Nat} (hd : 0 < d) (h : a ≤ d) : runS (fun i => endI (tosG a d (bitsOf i n))) (2 ^ n) = if a * 2 ^ n % d = 0 then 0 else 1 := by
  rw [runS_sumT n (fun t => endI (tosG a d t))]
  unfold tosG
  by_cases e : a = d
  · simp only [if_pos e]
    rw [sumT_const, e, Nat.mul_mod_right]; simp [endI]
  · simp only [if_neg e]
    exact end_count hd n a (by omega)
end Go.Proofs.Ytkfpomeemcmfmaa
