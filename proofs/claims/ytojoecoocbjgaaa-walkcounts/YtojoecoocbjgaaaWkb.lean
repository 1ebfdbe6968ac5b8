/- walk.inRange, free, above. -/
import Derived.Test.YtojoecoocbjgaaaWk2
import Derived.Test.YtojoecoocbjgaaaWka
import Derived.Test.YtojoecoocbjgaaaXo
namespace Go.Proofs.Ytojoecoocbjgaaa
open Go.RowKit Go.Deep

/-- All are in range. -/
def inR (n : Int) (l : List Int) : Bool := decide (stp n ∧ ∀ j, j < l.length → hgt (l.getD j 0))
set_option maxHeartbeats 1000000 in
theorem inRange_any (n : Int) (A : Option Addr) (ca : Nat) (c : List Int) (w : World) (hc : IP w A ca c) :
    Calls Try.prog 28 #[.int .i64 n, .slice A c.length ca] w fun e w' => e = .returned (.bool (inR n c)) ∧ w' = w := by
  have hle := hc.le
  have hcap := hc.cap
  have HC := Lib.hid hc
  clear hc
  go_enter Try.func28, Try.ntmps28
  go_wp2_with fail
  go_loopw [9] (fun iv wr => ∃ k : Nat, k ≤ c.length ∧ iv = .int .i64 k ∧ (∀ j, j < k → hgt (c.getD j 0)) ∧ wr = w) (fun iv _ => c.length - (intOf iv).toNat)
  case atStart => exact ⟨0, by omega, rfl, fun j hj => absurd hj (by omega), rfl⟩
  case round =>
    obtain ⟨k, hk, rfl, hj, rfl⟩ := hrel
    have HJ := Lib.hid hj
    clear hj
    by_cases hlt : k < c.length
    · obtain ⟨b, off, rfl, _, hcell⟩ := HC.out.il.at (by omega)
      have hci := hcell k hlt
      clear hcell
      by_cases h3 : c.getD k 0 < -100
      · have E : Hid (inR n c = false) := decide_eq_false fun h => by have := (h.2 k hlt).1; omega
        generalize c.getD k 0 = x at *
        go_wp2
        go_ret
        exact ⟨retB (by rw [E.out]), rfl⟩
      · by_cases h4 : 100 < c.getD k 0
        · have E : Hid (inR n c = false) := decide_eq_false fun h => by have := (h.2 k hlt).2; omega
          generalize c.getD k 0 = x at *
          go_wp2
          go_ret
          exact ⟨retB (by rw [E.out]), rfl⟩
        · have E : Hid (∀ j, j < k + 1 → hgt (c.getD j 0)) := fun j hj => by
            by_cases e : j = k
            · subst e; exact ⟨by omega, by omega⟩
            · exact HJ.out j (by omega)
          generalize c.getD k 0 = x at *
          go_wp2
          go_roundw
          case rel => exact ⟨k + 1, by omega, by go_num, E.out, trivial⟩
          case measure => simp [intOf]; omega
    · obtain rfl : c.length = k := by omega
      by_cases h1 : n < 0
      · have E : Hid (inR n c = false) := decide_eq_false fun h => by have := h.1.1; omega
        go_wp2
        go_ret
        exact ⟨retB (by rw [E.out]), rfl⟩
      · by_cases h2 : 56 < n
        · have E : Hid (inR n c = false) := decide_eq_false fun h => by have := h.1.2; omega
          go_wp2
          go_ret
          exact ⟨retB (by rw [E.out]; exact decide_eq_false (by omega)), rfl⟩
        · have E : Hid (inR n c = true) := decide_eq_true ⟨⟨by omega, by omega⟩, HJ.out⟩
          go_wp2
          go_ret
          exact ⟨retB (by rw [E.out]), rfl⟩

set_option maxHeartbeats 1000000 in
theorem wfree_any (n : Nat) (r : Int) (w : World) (hn : n ≤ 56) (hr : -1000000 ≤ r ∧ r ≤ 1000000) :
    Calls Try.prog 29 #[.int .i64 (n : Int), .int .i64 r] w fun e w' => e = .returned (.int .i64 (free n r)) ∧ w' = w := by
  by_cases h1 : r < -(n : Int)
  · rw [free_far (.inl h1)]
    go_enter Try.func29, Try.ntmps29
    go_wp2
    go_ret
    exact ⟨rfl, rfl⟩
  by_cases h2 : (n : Int) < r
  · rw [free_far (.inr h2)]
    go_enter Try.func29, Try.ntmps29
    go_wp2
    go_ret
    exact ⟨rfl, rfl⟩
  obtain ⟨s, hs⟩ := Int.eq_ofNat_of_zero_le (show 0 ≤ (n : Int) + r by omega)
  have ks : IntKind.i64.wrap ((n : Int) + r) = (s : Int) := by rw [hs]; exact IntWalk.i64_in _ (by omega)
  by_cases h3 : s % 2 = 0
  · obtain ⟨k, rfl⟩ : ∃ k, s = 2 * k := ⟨s / 2, by omega⟩
    rw [free_half (k := k) (by omega)]
    have e2 : Int.tmod ((2 * k : Nat) : Int) 2 = 0 := by rw [Int.tmod_eq_emod_of_nonneg (by omega)]; omega
    have e3 : Int.tdiv ((2 * k : Nat) : Int) 2 = (k : Int) := by rw [Int.tdiv_eq_ediv_of_nonneg (by omega)]; omega
    have hk : k ≤ 56 := by omega
    have C := Lib.hid (of_any (n : Int) (k : Int) w (by omega))
    unfold ofR ptup at C
    rw [if_neg (by omega), Int.toNat_natCast, Int.toNat_natCast] at C
    generalize bc n k = b at *
    obtain ⟨t, ht⟩ : ∃ t : Int, ((2 * k : Nat) : Int) = t := ⟨_, rfl⟩
    rw [ht] at ks e2 e3
    have kt : 0 ≤ t ∧ t ≤ 200 := by omega
    clear hs ht h3
    go_enter Try.func29, Try.ntmps29
    go_wp2_with fail
    refine (C.out).mono ?_
    rintro e w1 ⟨rfl, rfl⟩
    go_wp2
    go_ret
    exact ⟨rfl, rfl⟩
  · rw [free_odd (by omega)]
    have e2 : Int.tmod (s : Int) 2 = 1 := by rw [Int.tmod_eq_emod_of_nonneg (by omega)]; omega
    clear hs
    go_enter Try.func29, Try.ntmps29
    go_wp2
    go_ret
    exact ⟨rfl, rfl⟩

set_option maxHeartbeats 1000000 in
theorem wabove_any (n : Nat) (a h : Int) (w : World) (hn : n ≤ 56) (ha : -100 ≤ a ∧ a ≤ 100) (hh : -100 ≤ h ∧ h ≤ 100) :
    Calls Try.prog 30 #[.int .i64 (n : Int), .int .i64 a, .int .i64 h] w fun e w' => e = .returned (.int .i64 (above n a h)) ∧ w' = w := by
  by_cases hm : h < a
  all_goals
    by_cases h1 : a ≤ 0
    · have e0 : above n a h = 0 := above_low n h h1
      rw [e0]
      clear e0
      go_enter Try.func30, Try.ntmps30
      go_wp2
      go_ret
      exact ⟨rfl, rfl⟩
    by_cases h2 : h ≤ 0
    · have e0 : above n a h = 0 := ways_not _ _ _ _ (by unfold mayUp; simp; omega)
      rw [e0]
      clear e0
      go_enter Try.func30, Try.ntmps30
      all_goals try (go_wp2 <;> go_ret <;> exact ⟨rfl, rfl⟩)
    have C1 := Lib.hid (wfree_any n (h - a) w hn (by omega))
    have C2 := Lib.hid (wfree_any n (h + a) w hn (by omega))
    have b1 := ways_bd mayAll 0 (n := n) (h - a) hn
    have b2 := ways_bd mayAll 0 (n := n) (h + a) hn
    change 0 ≤ free n (h - a) ∧ free n (h - a) ≤ _ at b1
    change 0 ≤ free n (h + a) ∧ free n (h + a) ≤ _ at b2
    rw [andre (by omega) n h (by omega)]
    generalize free n (h - a) = x at *
    generalize free n (h + a) = y at *
    go_enter Try.func30, Try.ntmps30
    go_wp2_with fail
    refine (C1.out).mono ?_
    rintro e w1 ⟨rfl, rfl⟩
    clear C1
    go_wp2_with fail
    refine (C2.out).mono ?_
    rintro e w2 ⟨rfl, rfl⟩
    go_wp2
    go_ret
    exact ⟨rfl, rfl⟩
end Go.Proofs.Ytojoecoocbjgaaa
