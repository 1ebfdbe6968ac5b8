/- walk.Between: its contract, whole. -/
import Derived.Test.YtojoecoocbjgaaaWkd
namespace Go.Proofs.Ytojoecoocbjgaaa
open Go.RowKit Go.Deep

set_option maxRecDepth 100000 in
set_option maxHeartbeats 2000000 in
theorem between_out (n : Nat) (a z T : Int) (w : World) (h : stp n ∧ hgt a ∧ hgt z ∧ hgt T) (ho : a ≤ 0 ∨ z ≤ 0 ∨ T ≤ a ∨ T ≤ z) :
    Calls Try.prog 11 #[.int .i64 (n : Int), .int .i64 a, .int .i64 z, .int .i64 T] w fun e w' => e = .returned (.tuple #[.int .i64 0, .int .i64 0]) ∧ Below w.heap.size w w' := by
  have C := Lib.hid (inRange_any (n : Int) (some ⟨w.heap.size, 0, none⟩) 3 [a, z, T] (w.alloc (.cells #[.int .i64 a, .int .i64 z, .int .i64 T] 3)) (ip_lit w [a, z, T] (by simp)))
  have HB : Hid (Below w.heap.size w (w.alloc (.cells #[.int .i64 a, .int .i64 z, .int .i64 T] 3))) := (Below.refl _ _).alloc (Nat.le_refl _) _
  rw [inR_3, decide_eq_true h] at C
  clear h
  by_cases hm : z < a
  all_goals
    rcases (show (min a z ≤ 0) ∨ (¬ min a z ≤ 0 ∧ T ≤ max a z) by omega) with h1 | ⟨h1, h2⟩
    all_goals
      clear ho
      go_enter Try.func11, Try.ntmps11
      go_wp2_with fail
      refine C.out.mono ?_
      rintro e w1 ⟨rfl, rfl⟩
      clear C
      go_wp2
      all_goals go_ret2
      all_goals exact ⟨rfl, HB.out⟩

set_option maxRecDepth 100000 in
set_option maxHeartbeats 2000000 in
theorem ctBet : CtBet := by
  intro n a z T w
  by_cases h : stp n ∧ hgt a ∧ hgt z ∧ hgt T
  · rw [ans_ok _ h]
    obtain ⟨m, rfl⟩ := Int.eq_ofNat_of_zero_le h.1.1
    rw [Int.toNat_natCast]
    by_cases ho : a ≤ 0 ∨ z ≤ 0 ∨ T ≤ a ∨ T ≤ z
    · have e0 : bet T m a z = 0 := by
        by_cases h1 : 0 < a ∧ a < T
        · exact bet_out (by omega)
        · exact bet_low m z h1
      rw [e0]
      exact between_out m a z T w h ho
    · obtain ⟨A, rfl⟩ := Int.eq_ofNat_of_zero_le (show 0 ≤ a by omega)
      obtain ⟨Z, rfl⟩ := Int.eq_ofNat_of_zero_le (show 0 ≤ z by omega)
      obtain ⟨S, rfl⟩ := Int.eq_ofNat_of_zero_le (show 0 ≤ T by omega)
      have h1 := h.1.2
      have h2 := h.2.2.2.2
      exact between_in m A Z S w (by omega) (by omega) (by omega) (by omega)
  · rw [ans_no _ h]
    have C := Lib.hid (inRange_any n (some ⟨w.heap.size, 0, none⟩) 3 [a, z, T] (w.alloc (.cells #[.int .i64 a, .int .i64 z, .int .i64 T] 3)) (ip_lit w [a, z, T] (by simp)))
    have HB : Hid (Below w.heap.size w (w.alloc (.cells #[.int .i64 a, .int .i64 z, .int .i64 T] 3))) := (Below.refl _ _).alloc (Nat.le_refl _) _
    rw [inR_3, decide_eq_false h] at C
    clear h
    go_enter Try.func11, Try.ntmps11
    go_wp2_with fail
    refine C.out.mono ?_
    rintro e w1 ⟨rfl, rfl⟩
    go_wp2
    go_ret2
    exact ⟨rfl, HB.out⟩
end Go.Proofs.Ytojoecoocbjgaaa
