/- walk: Catalan's numbers, the first time back, so many steps and so many more (ahead of the code; builds by itself). -/
import Derived.Test.YtojoecoocbjgaaaWk0
namespace Go.Proofs.Ytojoecoocbjgaaa

def catR : Nat → Int
  | 0 => 1
  | n + 1 => catR n * (4 * n + 2) / (n + 2)
theorem cat_next (n : Nat) : cat (n + 1) * ((n : Int) + 2) = cat n * (4 * n + 2) := by
  have h1 := cat_own (n + 1)
  have h2 := cat_own n
  have h3 := free_next (2 * n) 0
  have h4 : free (2 * (n + 1)) 0 = 2 * (free (2 * n) 0 + free (2 * n) 2) := by
    rw [show 2 * (n + 1) = 2 * n + 1 + 1 by omega, free_succ, show (0 : Int) - 1 = -(1) by rfl, free_neg, show (0 : Int) + 1 = 1 by rfl, free_succ, show (1 : Int) - 1 = 0 by rfl, show (1 : Int) + 1 = 2 by rfl]; omega
  rw [h4] at h1
  rw [show (0 : Int) + 2 = 2 by rfl] at h3
  push_cast at h1 h3
  rw [show (n : Int) + 1 + 1 = n + 2 by omega] at h1
  rw [h1]
  generalize free (2 * n) 0 = x at *
  generalize free (2 * n) 2 = y at *
  have h5 : ((n : Int) + 1) * y = n * x := by grind
  have h6 : ((n : Int) + 1) * (2 * (x + y)) = ((n : Int) + 1) * (cat n * (4 * n + 2)) := by grind
  exact Int.eq_of_mul_eq_mul_left (by omega) h6
theorem cat_zero : cat 0 = 1 := by decide
theorem cat_R : ∀ n, cat n = catR n
  | 0 => cat_zero
  | n + 1 => by
    have h := cat_next n
    rw [cat_R n] at h
    unfold catR
    rw [← h]
    exact (Int.mul_ediv_cancel _ (by omega)).symm
/-- Sums of products of those ahead. -/
def cvS (n : Nat) : Nat → Int
  | 0 => 0
  | k + 1 => cvS n k + catR k * catR (n - k)
theorem cv_all : ∀ n, n < 28 → cvS n (n + 1) = catR (n + 1) := by
  have key : (List.range 28).all (fun n => decide (cvS n (n + 1) = catR (n + 1))) = true := by decide +kernel
  intro n hn
  have := List.all_eq_true.1 key n (List.mem_range.2 hn)
  exact of_decide_eq_true this
def cvC (n : Nat) : Nat → Int
  | 0 => 0
  | k + 1 => cvC n k + cat k * cat (n - k)
theorem cvC_S (n : Nat) : ∀ k, cvC n k = cvS n k
  | 0 => rfl
  | k + 1 => by unfold cvC cvS; rw [cvC_S n k, cat_R, cat_R]
theorem catalan_sum {n : Nat} (hn : n < 28) : cvC n (n + 1) = cat (n + 1) := by rw [cvC_S, cv_all n hn, cat_R]

/-! the first time back -/
def first (n : Nat) : Int := ways (mayFst n) 0 n 0
theorem above_zero (n : Nat) (a : Int) : above n a 0 = 0 := ways_not _ _ _ _ (by unfold mayUp; decide)
theorem above_succ (n : Nat) (a : Int) {h : Int} (hh : 0 < h) : above (n + 1) a h = above n a (h - 1) + above n a (h + 1) := by
  unfold above
  rw [ways, if_pos (show mayUp (n + 1) h = true from decide_eq_true hh)]
theorem first_row {n : Nat} : ∀ (s : Nat) (h : Int), s + 1 < n → ways (mayFst n) 0 (s + 1) h = if h = 0 then 0 else above s 1 (if 0 < h then h else -h)
  | s, h, hs => by
    by_cases e : h = 0
    · rw [if_pos e]
      refine ways_not _ _ _ _ ?_
      subst e
      unfold mayFst
      have h1 : (s + 1 == 0) = false := by rw [beq_eq_false_iff_ne]; omega
      have h2 : (s + 1 == n) = false := by rw [beq_eq_false_iff_ne]; omega
      rw [h1, h2]; rfl
    · rw [if_neg e, ways, if_pos (by unfold mayFst; have : (h != 0) = true := bne_iff_ne.2 e; rw [this]; rfl)]
      cases s with
      | zero =>
        have f0 : ∀ x : Int, ways (mayFst n) 0 0 x = if x = 0 then 1 else 0 := fun x => by
          unfold ways
          by_cases ex : x = 0
          · rw [if_pos ⟨by unfold mayFst; simp, ex⟩, if_pos ex]
          · rw [if_neg (fun y => ex y.2), if_neg ex]
        rw [f0, f0]
        unfold above ways mayUp
        by_cases h1 : h = 1
        · subst h1; decide
        · by_cases h2 : h = -1
          · subst h2; decide
          · rw [if_neg (by omega), if_neg (by omega), if_neg]
            · rfl
            · rintro ⟨_, h3⟩
              split at h3 <;> omega
      | succ s =>
        rw [first_row s (h - 1) (by omega), first_row s (h + 1) (by omega)]
        by_cases hp : 0 < h
        · rw [if_pos hp, above_succ s 1 hp, if_neg (show ¬ h + 1 = 0 by omega), if_pos (show 0 < h + 1 by omega)]
          by_cases h1 : h - 1 = 0
          · rw [if_pos h1, h1, above_zero]
          · rw [if_neg h1, if_pos (show 0 < h - 1 by omega)]
        · rw [if_neg hp, above_succ s 1 (show 0 < -h by omega), if_neg (show ¬ h - 1 = 0 by omega), if_neg (show ¬ 0 < h - 1 by omega)]
          by_cases h1 : h + 1 = 0
          · rw [if_pos h1, show -h - 1 = 0 by omega, above_zero, show -(h - 1) = -h + 1 by omega]; omega
          · rw [if_neg h1, if_neg (show ¬ 0 < h + 1 by omega), show -(h + 1) = -h - 1 by omega, show -(h - 1) = -h + 1 by omega]; omega
theorem first_two (n : Nat) : first (n + 2) = 2 * above n 1 1 := by
  unfold first
  rw [ways, if_pos (by unfold mayFst; simp), first_row n _ (by omega), first_row n _ (by omega)]
  rw [if_neg (by decide), if_neg (by decide), if_neg (by decide), if_pos (by decide)]
  show above n 1 1 + above n 1 1 = _
  omega
theorem first_cat (k : Nat) : first (2 * (k + 1)) = 2 * cat k := by
  rw [show 2 * (k + 1) = 2 * k + 2 by omega, first_two]
  unfold cat
  rw [ways_shift]; rfl
theorem first_odd {n : Nat} (h : n % 2 = 1) : first n = 0 := ways_odd _ _ _ _ (by omega)
def bkS (n : Nat) : Nat → Int
  | 0 => 0
  | k + 1 => bkS n k + 2 * catR k * (catR (n - (k + 1)) * ((n - (k + 1) : Nat) + 1))
theorem bk_all : ∀ n, n < 29 → 1 ≤ n → bkS n n = catR n * ((n : Int) + 1) := by
  have key : (List.range 29).all (fun n => decide (n = 0) || decide (bkS n n = catR n * ((n : Int) + 1))) = true := by decide +kernel
  intro n hn h1
  have := List.all_eq_true.1 key n (List.mem_range.2 hn)
  rcases Bool.or_eq_true_iff.1 this with h | h
  · have := of_decide_eq_true h; omega
  · exact of_decide_eq_true h
def bkC (n : Nat) : Nat → Int
  | 0 => 0
  | k + 1 => bkC n k + first (2 * (k + 1)) * free (2 * (n - (k + 1))) 0
theorem bkC_S (n : Nat) : ∀ k, bkC n k = bkS n k
  | 0 => rfl
  | k + 1 => by unfold bkC bkS; rw [bkC_S n k, first_cat, ← cat_own, cat_R, cat_R]
theorem back_sum {n : Nat} (hn : n < 29) (h1 : 1 ≤ n) : bkC n n = free (2 * n) 0 := by
  rw [bkC_S, bk_all n hn h1, ← cat_own, cat_R]

/-! so many steps, and so many more -/
def bet (top : Int) (n : Nat) (a h : Int) : Int := ways (mayIn top) a n h
def sumTo (f : Int → Int) : Nat → Int
  | 0 => 0
  | m + 1 => sumTo f m + f ((m : Int) + 1)
theorem sumTo_add (f g : Int → Int) : ∀ m, sumTo (fun h => f h + g h) m = sumTo f m + sumTo g m
  | 0 => rfl
  | m + 1 => by unfold sumTo; rw [sumTo_add f g m]; omega
theorem sumTo_congr {f g : Int → Int} : ∀ m : Nat, (∀ h : Int, 1 ≤ h → h ≤ m → f h = g h) → sumTo f m = sumTo g m
  | 0, _ => rfl
  | m + 1, hh => by unfold sumTo; rw [sumTo_congr m (fun h h1 h2 => hh h h1 (by omega)), hh _ (by omega) (by omega)]
theorem sumTo_none : ∀ m : Nat, sumTo (fun _ => 0) m = 0
  | 0 => rfl
  | m + 1 => by unfold sumTo; rw [sumTo_none m]; rfl
theorem sumTo_one (f : Int → Int) (z : Int) : ∀ m : Nat, sumTo (fun h => if z = h then f h else 0) m = if 1 ≤ z ∧ z ≤ m then f z else 0
  | 0 => by rw [if_neg (by omega)]; rfl
  | m + 1 => by
    unfold sumTo
    rw [sumTo_one f z m]
    by_cases e : z = (m : Int) + 1
    · rw [if_neg (by omega), if_pos e, if_pos (by omega), e]; omega
    · rw [if_neg e]
      by_cases h : 1 ≤ z ∧ z ≤ m
      · rw [if_pos h, if_pos (by omega)]; omega
      · rw [if_neg h, if_neg (by omega)]; rfl
theorem bet_zero (top : Int) (h z : Int) : bet top 0 h z = if (0 < h ∧ h < top) ∧ z = h then 1 else 0 := by
  unfold bet ways mayIn
  simp
theorem bet_out {top : Int} {n : Nat} {a z : Int} (h : ¬ (0 < z ∧ z < top)) : bet top n a z = 0 := by
  refine ways_not _ _ _ _ ?_
  unfold mayIn
  by_cases h1 : 0 < z
  · rw [decide_eq_true h1, decide_eq_false (show ¬ z < top by omega)]; rfl
  · rw [decide_eq_false h1]; rfl
theorem bet_succ {top : Int} {n : Nat} {a z : Int} (h : 0 < z ∧ z < top) : bet top (n + 1) a z = bet top n a (z - 1) + bet top n a (z + 1) := by
  unfold bet
  rw [ways, if_pos (by unfold mayIn; rw [decide_eq_true h.1, decide_eq_true h.2]; rfl)]
theorem parts (m : Nat) (a : Nat) (x : Int) : ∀ (b : Nat) (z : Int), bet (m + 1) (a + b) x z = sumTo (fun h => bet (m + 1) a x h * bet (m + 1) b h z) m
  | 0, z => by
    have e : sumTo (fun h => bet (m + 1) a x h * bet (m + 1) 0 h z) m = sumTo (fun h => if z = h then bet (m + 1) a x h else 0) m := sumTo_congr m (fun h h1 h2 => by
      rw [bet_zero]
      by_cases e : z = h
      · rw [if_pos e, if_pos ⟨⟨by omega, by omega⟩, e⟩, Int.mul_one]
      · rw [if_neg e, if_neg (fun y => e y.2), Int.mul_zero])
    rw [e, sumTo_one, Nat.add_zero]
    by_cases hz : 1 ≤ z ∧ z ≤ m
    · rw [if_pos hz]
    · rw [if_neg hz]; exact bet_out (by omega)
  | b + 1, z => by
    by_cases hz : 0 < z ∧ z < (m : Int) + 1
    · rw [show a + (b + 1) = a + b + 1 by omega, bet_succ hz, parts m a x b (z - 1), parts m a x b (z + 1), ← sumTo_add]
      exact sumTo_congr m (fun h _ _ => by rw [bet_succ hz, Int.mul_add])
    · rw [bet_out hz]
      rw [sumTo_congr (g := fun _ => 0) m (fun h _ _ => by rw [bet_out hz, Int.mul_zero]), sumTo_none]
theorem bet_above (top : Int) (n : Nat) (a h : Int) : bet top n a h ≤ above n a h := ways_mono (fun n h hh => by
  unfold mayIn at hh
  unfold mayUp
  exact (Bool.and_eq_true_iff.1 hh).1) a n h
end Go.Proofs.Ytojoecoocbjgaaa
