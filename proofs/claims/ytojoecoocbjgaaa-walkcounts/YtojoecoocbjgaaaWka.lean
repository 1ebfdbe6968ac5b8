/- walk: ways as binomial coefficients; between two bounds as a sum over turns. -/
import Derived.Test.YtojoecoocbjgaaaWk1
import Derived.Test.YtojoecoocbjgaaaXm
namespace Go.Proofs.Ytojoecoocbjgaaa

theorem free_bc : ∀ n k : Nat, free n (2 * (k : Int) - n) = bc n k
  | 0, 0 => by decide
  | 0, k + 1 => by rw [free_zero, if_neg (by omega)]; rfl
  | n + 1, 0 => by
    rw [free_succ, bc_zero]
    have h1 : free n (2 * ((0 : Nat) : Int) - ((n + 1 : Nat) : Int) - 1) = 0 := ways_far _ _ _ _ (by omega)
    have h2 := free_bc n 0
    rw [bc_zero] at h2
    rw [h1, show 2 * ((0 : Nat) : Int) - ((n + 1 : Nat) : Int) + 1 = 2 * ((0 : Nat) : Int) - (n : Int) by omega, h2]; rfl
  | n + 1, k + 1 => by
    have h1 := free_bc n k
    have h2 := free_bc n (k + 1)
    rw [free_succ, bc_succ, show 2 * ((k + 1 : Nat) : Int) - ((n + 1 : Nat) : Int) - 1 = 2 * (k : Int) - n by omega, show 2 * ((k + 1 : Nat) : Int) - ((n + 1 : Nat) : Int) + 1 = 2 * ((k + 1 : Nat) : Int) - n by omega, h1, h2]
    push_cast; rfl
theorem free_far {n : Nat} {r : Int} (h : r < -(n : Int) ∨ (n : Int) < r) : free n r = 0 := ways_far _ _ _ _ (by omega)
theorem free_odd {n : Nat} {r : Int} (h : ((n : Int) + r) % 2 ≠ 0) : free n r = 0 := ways_odd _ _ _ _ (by omega)
theorem free_half {n k : Nat} {r : Int} (h : (n : Int) + r = 2 * k) : free n r = bc n k := by
  rw [← free_bc, show 2 * (k : Int) - n = r by omega]

/-- A sum over so many numbers from lo on. -/
def runS (G : Int → Int) (lo : Int) : Nat → Int
  | 0 => 0
  | m + 1 => runS G lo m + G (lo + m)
theorem runS_add (F G : Int → Int) (lo : Int) : ∀ m, runS (fun k => F k + G k) lo m = runS F lo m + runS G lo m
  | 0 => rfl
  | m + 1 => by unfold runS; rw [runS_add F G lo m]; omega
theorem runS_congr {F G : Int → Int} (lo : Int) : ∀ m : Nat, (∀ k : Int, lo ≤ k → k < lo + m → F k = G k) → runS F lo m = runS G lo m
  | 0, _ => rfl
  | m + 1, h => by unfold runS; rw [runS_congr lo m (fun k h1 h2 => h k h1 (by omega)), h _ (by omega) (by omega)]
theorem runS_none (lo : Int) : ∀ m, runS (fun _ => 0) lo m = 0
  | 0 => rfl
  | m + 1 => by unfold runS; rw [runS_none lo m]; rfl
theorem runS_tele (g : Int → Int) (lo : Int) : ∀ m : Nat, runS (fun k => g k - g (k - 1)) lo m = g (lo + m - 1) - g (lo - 1)
  | 0 => by unfold runS; rw [show lo + ((0 : Nat) : Int) - 1 = lo - 1 by omega]; omega
  | m + 1 => by
    unfold runS
    rw [runS_tele g lo m, show lo + ((m + 1 : Nat) : Int) - 1 = lo + (m : Int) by omega]; omega
theorem runS_one (c : Int) (lo : Int) : ∀ m : Nat, runS (fun k => if k = 0 then c else 0) lo m = if lo ≤ 0 ∧ 0 < lo + m then c else 0
  | 0 => by rw [if_neg (by omega)]; rfl
  | m + 1 => by
    unfold runS
    rw [runS_one c lo m]
    by_cases e : lo + (m : Int) = 0
    · rw [if_neg (by omega), if_pos e, if_pos (by omega)]; omega
    · rw [if_neg e]
      by_cases h : lo ≤ 0 ∧ 0 < lo + m
      · rw [if_pos h, if_pos (by omega)]; omega
      · rw [if_neg h, if_neg (by omega)]; rfl
theorem runS_bd {G : Int → Int} {c : Int} (lo : Int) (h : ∀ k, -c ≤ G k ∧ G k ≤ c) : ∀ m : Nat, -(c * m) ≤ runS G lo m ∧ runS G lo m ≤ c * m
  | 0 => by unfold runS; simp
  | m + 1 => by
    have h1 := runS_bd lo h m
    have h2 := h (lo + m)
    have h3 : c * ((m + 1 : Nat) : Int) = c * m + c := by push_cast; rw [Int.mul_add, Int.mul_one]
    unfold runS
    rw [h3]; omega
/-- Reflected at both bounds: one turn. -/
def tnG (T : Int) (n : Nat) (a h : Int) (k : Int) : Int := free n (T * k + h - a) - free n (T * k - h - a)
theorem tnG_succ (T : Int) (n : Nat) (a h k : Int) : tnG T (n + 1) a h k = tnG T n a (h - 1) k + tnG T n a (h + 1) k := by
  unfold tnG
  rw [free_succ, free_succ, show T * k + h - a - 1 = T * k + (h - 1) - a by omega, show T * k + h - a + 1 = T * k + (h + 1) - a by omega, show T * k - h - a - 1 = T * k - (h + 1) - a by omega, show T * k - h - a + 1 = T * k - (h - 1) - a by omega]
  omega
theorem big_turn {t : Int} {K : Nat} (ht : 1 ≤ t) : (K : Int) ≤ 2 * t * (K : Int) := by
  have h := Int.mul_le_mul_of_nonneg_right (show (1 : Int) ≤ 2 * t by omega) (show (0 : Int) ≤ (K : Int) by omega)
  omega
theorem small_turn {t x : Int} (k : Int) (hx : -(2 * t) < x ∧ x < 2 * t) (h : 2 * t * k + x = 0) (h0 : 0 < t) : k = 0 := by
  by_cases h1 : 1 ≤ k
  · have := Int.mul_le_mul_of_nonneg_left h1 (show (0 : Int) ≤ 2 * t by omega)
    omega
  · by_cases h2 : k ≤ -1
    · have := Int.mul_le_mul_of_nonneg_left h2 (show (0 : Int) ≤ 2 * t by omega)
      omega
    · omega
theorem between_sum {t a : Int} (K : Nat) (h0 : 0 < a) (h1 : a < t) : ∀ n : Nat, n ≤ K → ∀ h : Int, 0 ≤ h → h ≤ t → runS (tnG (2 * t) n a h) (-(K : Int)) (2 * K + 1) = bet t n a h
  | n, hn, h, hh0, hh1 => by
    by_cases e0 : h = 0
    · subst e0
      rw [bet_out (by omega), runS_congr (G := fun _ => 0) _ _ (fun k _ _ => by unfold tnG; rw [Int.add_zero, Int.sub_zero]; omega), runS_none]
    · by_cases e1 : h = t
      · subst e1
        rw [bet_out (by omega), runS_congr (G := fun k => (fun k => free n (2 * h * k + h - a)) k - (fun k => free n (2 * h * k + h - a)) (k - 1)) _ _ (fun k _ _ => by
          unfold tnG
          show _ = free n (2 * h * k + h - a) - free n (2 * h * (k - 1) + h - a)
          rw [Int.mul_sub, Int.mul_one, show 2 * h * k - h - a = 2 * h * k - 2 * h + h - a by omega]), runS_tele]
        show free n (2 * h * (-(K : Int) + ((2 * K + 1 : Nat) : Int) - 1) + h - a) - free n (2 * h * (-(K : Int) - 1) + h - a) = 0
        have hb := big_turn (t := h) (K := K) (by omega)
        rw [show -(K : Int) + ((2 * K + 1 : Nat) : Int) - 1 = (K : Int) by omega, Int.mul_sub, Int.mul_neg, Int.mul_one, free_far (by omega), free_far (by omega)]; rfl
      · have hin : 0 < h ∧ h < t := by omega
        cases n with
        | zero =>
          rw [bet_zero, runS_congr (G := fun k => if k = 0 then (if h = a then 1 else 0) else 0) _ _ (fun k _ _ => by
            unfold tnG
            rw [free_zero, free_zero]
            have n2 : ¬ 2 * t * k - h - a = 0 := fun e => by
              have := small_turn (t := t) (x := -h - a) k (by omega) (by omega) (by omega)
              subst this; omega
            rw [if_neg n2]
            by_cases e : 2 * t * k + h - a = 0
            · have := small_turn (t := t) (x := h - a) k (by omega) (by omega) (by omega)
              subst this
              rw [if_pos e, if_pos rfl, if_pos (by omega)]; rfl
            · rw [if_neg e]
              by_cases ek : k = 0
              · subst ek; rw [if_pos rfl, if_neg (by omega)]; rfl
              · rw [if_neg ek]; rfl), runS_one, if_pos (by omega)]
          by_cases e : h = a
          · rw [if_pos e, if_pos ⟨⟨h0, h1⟩, e⟩]
          · rw [if_neg e, if_neg (fun x => e x.2)]
        | succ n =>
          rw [bet_succ hin, ← between_sum K h0 h1 n (by omega) (h - 1) (by omega) (by omega), ← between_sum K h0 h1 n (by omega) (h + 1) (by omega) (by omega), ← runS_add]
          exact runS_congr _ _ (fun k _ _ => tnG_succ _ _ _ _ _)
  termination_by n => n
/-- From below none is above. -/
theorem ways_low (may : Nat → Int → Bool) (a : Int) (h0 : may 0 a = false) : ∀ (n : Nat) (h : Int), ways may a n h = 0
  | 0, h => by unfold ways; rw [if_neg]; rw [h0]; simp
  | n + 1, h => by unfold ways; rw [ways_low may a h0 n, ways_low may a h0 n]; split <;> rfl
theorem above_low (n : Nat) {a : Int} (h : Int) (ha : a ≤ 0) : above n a h = 0 := ways_low _ _ (by unfold mayUp; simp; omega) n h
theorem bet_low {t : Int} (n : Nat) {a : Int} (h : Int) (ha : ¬ (0 < a ∧ a < t)) : bet t n a h = 0 := ways_low _ _ (by
  unfold mayIn
  by_cases h1 : 0 < a
  · rw [decide_eq_true h1, decide_eq_false (show ¬ a < t by omega)]; rfl
  · rw [decide_eq_false h1]; rfl) n h
end Go.Proofs.Ytojoecoocbjgaaa
