/- walk: counting ways, step by step; reflection, ballots (ahead of the code; builds by itself). -/
namespace Go.Proofs.Ytojoecoocbjgaaa

/-- At how many ways a height is come to behind so many steps, of those that may be. -/
def ways (may : Nat → Int → Bool) (a : Int) : Nat → Int → Int
  | 0, h => if may 0 a = true ∧ h = a then 1 else 0
  | n + 1, h => if may (n + 1) h = true then ways may a n (h - 1) + ways may a n (h + 1) else 0
theorem ways_nonneg (may : Nat → Int → Bool) (a : Int) : ∀ n h, 0 ≤ ways may a n h
  | 0, h => by unfold ways; split <;> omega
  | n + 1, h => by
    have h1 := ways_nonneg may a n (h - 1)
    have h2 := ways_nonneg may a n (h + 1)
    unfold ways; split <;> omega
/-- No farther than there are steps. -/
theorem ways_far (may : Nat → Int → Bool) (a : Int) : ∀ (n : Nat) (h : Int), (h < a - (n : Int) ∨ a + (n : Int) < h) → ways may a n h = 0
  | 0, h, hh => by unfold ways; rw [if_neg]; intro x; omega
  | n + 1, h, hh => by
    have h1 := ways_far may a n (h - 1) (by omega)
    have h2 := ways_far may a n (h + 1) (by omega)
    unfold ways; split <;> omega
theorem ways_odd (may : Nat → Int → Bool) (a : Int) : ∀ (n : Nat) (h : Int), (h - a - (n : Int)) % 2 ≠ 0 → ways may a n h = 0
  | 0, h, hh => by unfold ways; rw [if_neg]; intro x; omega
  | n + 1, h, hh => by
    have h1 := ways_odd may a n (h - 1) (by omega)
    have h2 := ways_odd may a n (h + 1) (by omega)
    unfold ways; split <;> omega
theorem ways_not (may : Nat → Int → Bool) (a : Int) (n : Nat) (h : Int) (hm : may n h = false) : ways may a n h = 0 := by
  cases n with
  | zero =>
    unfold ways; rw [if_neg]
    rintro ⟨h1, rfl⟩
    rw [hm] at h1; cases h1
  | succ n => unfold ways; rw [if_neg]; rw [hm]; decide
/-- The fewer may be, the fewer ways. -/
theorem ways_mono {may may' : Nat → Int → Bool} (hm : ∀ n h, may n h = true → may' n h = true) (a : Int) : ∀ n h, ways may a n h ≤ ways may' a n h
  | 0, h => by
    unfold ways
    by_cases h1 : may 0 a = true ∧ h = a
    · rw [if_pos h1, if_pos ⟨hm _ _ h1.1, h1.2⟩]; omega
    · rw [if_neg h1]; split <;> omega
  | n + 1, h => by
    have h1 := ways_mono hm a n (h - 1)
    have h2 := ways_mono hm a n (h + 1)
    have h3 := ways_nonneg may' a n (h - 1)
    have h4 := ways_nonneg may' a n (h + 1)
    unfold ways
    by_cases h5 : may (n + 1) h = true
    · rw [if_pos h5, if_pos (hm _ _ h5)]; omega
    · rw [if_neg h5]; split <;> omega
theorem ways_le (may : Nat → Int → Bool) (a : Int) : ∀ n h, ways may a n h ≤ 2 ^ n
  | 0, h => by unfold ways; split <;> decide
  | n + 1, h => by
    have h1 := ways_le may a n (h - 1)
    have h2 := ways_le may a n (h + 1)
    have h3 : (0 : Int) < 2 ^ n := Int.pow_pos (by decide)
    have h4 : (2 : Int) ^ (n + 1) = 2 ^ n * 2 := Int.pow_succ 2 n
    unfold ways; split <;> omega

def mayAll : Nat → Int → Bool := fun _ _ => true
def mayUp : Nat → Int → Bool := fun _ h => decide (0 < h)
def mayIn (top : Int) : Nat → Int → Bool := fun _ h => decide (0 < h) && decide (h < top)
def mayOn : Nat → Int → Bool := fun _ h => decide (0 ≤ h)
def mayFst (n : Nat) : Nat → Int → Bool := fun s h => h != 0 || s == 0 || s == n
/-- All ways from 0. -/
def free (n : Nat) (h : Int) : Int := ways mayAll 0 n h
theorem free_zero (h : Int) : free 0 h = if h = 0 then 1 else 0 := by
  unfold free ways mayAll; simp
theorem free_succ (n : Nat) (h : Int) : free (n + 1) h = free n (h - 1) + free n (h + 1) := by
  show ways mayAll 0 (n + 1) h = _
  rw [ways, if_pos (show mayAll (n + 1) h = true from rfl)]; rfl
theorem free_neg : ∀ n h, free n (-h) = free n h
  | 0, h => by
    rw [free_zero, free_zero]
    by_cases e : h = 0
    · rw [if_pos e, if_pos (by omega)]
    · rw [if_neg e, if_neg (by omega)]
  | n + 1, h => by
    have h1 := free_neg n (h - 1)
    have h2 := free_neg n (h + 1)
    rw [free_succ, free_succ, ← h1, ← h2, show -h - 1 = -(h + 1) by omega, show -h + 1 = -(h - 1) by omega]
    omega
def above (n : Nat) (a h : Int) : Int := ways mayUp a n h
/-- Andre: those above 0 are all but those that lead from the one, turned over. -/
theorem andre {a : Int} (ha : 1 ≤ a) : ∀ (n : Nat) (h : Int), 0 ≤ h → above n a h = free n (h - a) - free n (h + a)
  | 0, h, h0 => by
    rw [free_zero, free_zero, if_neg (show ¬ h + a = 0 by omega)]
    unfold above ways mayUp
    by_cases e : h = a
    · rw [if_pos ⟨decide_eq_true (show 0 < a by omega), e⟩, if_pos (by omega)]; omega
    · rw [if_neg (fun x => e x.2), if_neg (by omega)]; omega
  | n + 1, h, h0 => by
    unfold above
    rw [ways]
    by_cases e : 0 < h
    · have h1 := andre ha n (h - 1) (by omega)
      have h2 := andre ha n (h + 1) (by omega)
      unfold above at h1 h2
      rw [if_pos (show mayUp (n + 1) h = true from decide_eq_true e), h1, h2, free_succ, free_succ, show h - a - 1 = h - 1 - a by omega, show h - a + 1 = h + 1 - a by omega, show h + a - 1 = h - 1 + a by omega, show h + a + 1 = h + 1 + a by omega]
      omega
    · obtain rfl : h = 0 := by omega
      rw [if_neg (by unfold mayUp; decide), show (0 : Int) - a = -(0 + a) by omega, free_neg]; omega
theorem above_comm {a h : Int} (ha : 1 ≤ a) (hh : 1 ≤ h) (n : Nat) : above n a h = above n h a := by
  rw [andre ha n h (by omega), andre hh n a (by omega), show a - h = -(h - a) by omega, free_neg, Int.add_comm h a]
/-- One to the next. -/
theorem free_next : ∀ (n : Nat) (l : Int), ((n : Int) + l + 2) * free n (l + 2) = ((n : Int) - l) * free n l
  | 0, l => by
    rw [free_zero, free_zero]
    by_cases e1 : l = 0
    · subst e1; simp
    · by_cases e2 : l + 2 = 0
      · rw [if_pos e2, if_neg e1, show ((0 : Nat) : Int) + l + 2 = 0 by omega]; simp
      · rw [if_neg e1, if_neg e2]; simp
  | n + 1, l => by
    have h1 := free_next n (l + 1)
    have h2 := free_next n (l - 1)
    rw [show l + 1 + 2 = l + 3 by omega] at h1
    rw [show l - 1 + 2 = l + 1 by omega] at h2
    rw [free_succ, free_succ, show l + 2 - 1 = l + 1 by omega, show l + 2 + 1 = l + 3 by omega]
    push_cast
    generalize free n (l + 1) = x at *
    generalize free n (l + 3) = y at *
    generalize free n (l - 1) = z at *
    grind
/-- Bertrand. -/
theorem ballot {n : Nat} (l : Int) (hn : 1 ≤ n) (hl : 1 ≤ l) : above (n - 1) 1 l * n = free n l * l := by
  obtain ⟨m, rfl⟩ : ∃ m, n = m + 1 := ⟨n - 1, by omega⟩
  rw [show m + 1 - 1 = m by omega, andre (by decide) m l (by omega), free_succ]
  have h := free_next m (l - 1)
  rw [show l - 1 + 2 = l + 1 by omega] at h
  push_cast
  generalize free m (l + 1) = x at *
  generalize free m (l - 1) = z at *
  grind
/-- Not below 0 is above 0, one higher. -/
theorem ways_shift : ∀ (n : Nat) (a h : Int), ways mayOn a n h = above n (a + 1) (h + 1)
  | 0, a, h => by
    unfold above ways mayOn mayUp
    by_cases e : 0 ≤ a ∧ h = a
    · rw [if_pos ⟨decide_eq_true e.1, e.2⟩, if_pos ⟨decide_eq_true (by omega), by omega⟩]
    · rw [if_neg (fun x => e ⟨of_decide_eq_true x.1, x.2⟩), if_neg (fun x => e ⟨by have := of_decide_eq_true x.1; omega, by omega⟩)]
  | n + 1, a, h => by
    have h1 := ways_shift n a (h - 1)
    have h2 := ways_shift n a (h + 1)
    unfold above at *
    rw [ways, ways]
    by_cases e : 0 ≤ h
    · rw [if_pos (show mayOn (n + 1) h = true from decide_eq_true e), if_pos (show mayUp (n + 1) (h + 1) = true from decide_eq_true (by omega)), h1, h2, show h - 1 + 1 = h + 1 - 1 by omega]
    · rw [if_neg (by unfold mayOn; simp; omega), if_neg (by unfold mayUp; simp; omega)]
def cat (n : Nat) : Int := ways mayOn 0 (2 * n) 0
theorem cat_free (n : Nat) : cat n = free (2 * n) 0 - free (2 * n) 2 := by
  unfold cat
  rw [ways_shift, andre (by decide) _ _ (by decide)]; rfl
theorem cat_own (n : Nat) : cat n * ((n : Int) + 1) = free (2 * n) 0 := by
  have h := free_next (2 * n) 0
  rw [cat_free]
  rw [show (0 : Int) + 2 = 2 by rfl] at h
  push_cast at h
  generalize free (2 * n) 0 = x at *
  generalize free (2 * n) 2 = y at *
  grind
end Go.Proofs.Ytojoecoocbjgaaa
