/- walk.Free, Above, First, Catalan: their contracts. -/
import Derived.Test.YtojoecoocbjgaaaWkb
namespace Go.Proofs.Ytojoecoocbjgaaa
open Go.RowKit Go.Deep

theorem inR_0 (n : Int) : inR n [] = decide (stp n) := by
  unfold inR
  by_cases h : stp n
  · rw [decide_eq_true h, decide_eq_true ⟨h, fun j hj => absurd hj (by simp)⟩]
  · rw [decide_eq_false h, decide_eq_false (fun x => h x.1)]
theorem inR_of {n : Int} {l : List Int} {p : Prop} [Decidable p] (h : (stp n ∧ ∀ j, j < l.length → hgt (l.getD j 0)) ↔ p) : inR n l = decide p := by
  unfold inR
  exact decide_eq_decide.2 h
theorem inR_1 (n x : Int) : inR n [x] = decide (stp n ∧ hgt x) := inR_of ⟨fun h => ⟨h.1, h.2 0 (by simp)⟩, fun h => ⟨h.1, fun j hj => by
  have : j = 0 := by simpa using hj
  subst this; exact h.2⟩⟩
theorem inR_2 (n x y : Int) : inR n [x, y] = decide (stp n ∧ hgt x ∧ hgt y) := inR_of ⟨fun h => ⟨h.1, h.2 0 (by simp), h.2 1 (by simp)⟩, fun h => ⟨h.1, fun j hj => by
  have : j < 2 := by simpa using hj
  rcases (show j = 0 ∨ j = 1 by omega) with rfl | rfl
  · exact h.2.1
  · exact h.2.2⟩⟩
theorem inR_3 (n x y z : Int) : inR n [x, y, z] = decide (stp n ∧ hgt x ∧ hgt y ∧ hgt z) := inR_of ⟨fun h => ⟨h.1, h.2 0 (by simp), h.2 1 (by simp), h.2 2 (by simp)⟩, fun h => ⟨h.1, fun j hj => by
  have : j < 3 := by simpa using hj
  rcases (show j = 0 ∨ j = 1 ∨ j = 2 by omega) with rfl | rfl | rfl
  · exact h.2.1
  · exact h.2.2.1
  · exact h.2.2.2⟩⟩

set_option maxHeartbeats 1000000 in
theorem ctFree : CtFree := by
  intro n to w
  have C := Lib.hid (inRange_any n (some ⟨w.heap.size, 0, none⟩) 1 [to] (w.alloc (.cells #[.int .i64 to] 3)) (ip_lit w [to] (by simp)))
  have HB : Hid (Below w.heap.size w (w.alloc (.cells #[.int .i64 to] 3))) := (Below.refl _ _).alloc (Nat.le_refl _) _
  rw [inR_1] at C
  by_cases h : stp n ∧ hgt to
  · rw [ans_ok _ h]
    rw [decide_eq_true h] at C
    obtain ⟨m, rfl⟩ := Int.eq_ofNat_of_zero_le h.1.1
    have h12 := h.1.2
    have C2 := Lib.hid (fun w => wfree_any m to w (by omega) (by have := h.2.1; have := h.2.2; omega))
    rw [Int.toNat_natCast]
    clear h h12
    generalize free m to = x at *
    go_enter Try.func9, Try.ntmps9
    go_wp2_with fail
    refine C.out.mono ?_
    rintro e w1 ⟨rfl, rfl⟩
    go_wp2_with fail
    refine (C2.out _).mono ?_
    rintro e w1 ⟨rfl, rfl⟩
    go_wp2
    go_ret2
    exact ⟨rfl, HB.out⟩
  · rw [ans_no _ h]
    rw [decide_eq_false h] at C
    clear h
    go_enter Try.func9, Try.ntmps9
    go_wp2_with fail
    refine C.out.mono ?_
    rintro e w1 ⟨rfl, rfl⟩
    go_wp2
    go_ret2
    exact ⟨rfl, HB.out⟩

set_option maxHeartbeats 1000000 in
theorem ctAbove : CtAbove := by
  intro n a to w
  have C := Lib.hid (inRange_any n (some ⟨w.heap.size, 0, none⟩) 2 [a, to] (w.alloc (.cells #[.int .i64 a, .int .i64 to] 3)) (ip_lit w [a, to] (by simp)))
  have HB : Hid (Below w.heap.size w (w.alloc (.cells #[.int .i64 a, .int .i64 to] 3))) := (Below.refl _ _).alloc (Nat.le_refl _) _
  rw [inR_2] at C
  by_cases h : stp n ∧ hgt a ∧ hgt to
  · rw [ans_ok _ h]
    rw [decide_eq_true h] at C
    obtain ⟨m, rfl⟩ := Int.eq_ofNat_of_zero_le h.1.1
    have h12 := h.1.2
    have C2 := Lib.hid (fun w => wabove_any m a to w (by omega) h.2.1 h.2.2)
    rw [Int.toNat_natCast]
    clear h h12
    generalize above m a to = x at *
    go_enter Try.func10, Try.ntmps10
    go_wp2_with fail
    refine C.out.mono ?_
    rintro e w1 ⟨rfl, rfl⟩
    go_wp2_with fail
    refine (C2.out _).mono ?_
    rintro e w1 ⟨rfl, rfl⟩
    go_wp2
    go_ret2
    exact ⟨rfl, HB.out⟩
  · rw [ans_no _ h]
    rw [decide_eq_false h] at C
    clear h
    go_enter Try.func10, Try.ntmps10
    go_wp2_with fail
    refine C.out.mono ?_
    rintro e w1 ⟨rfl, rfl⟩
    go_wp2
    go_ret2
    exact ⟨rfl, HB.out⟩

theorem first_one : first 1 = 0 := first_odd (by decide)
set_option maxHeartbeats 1000000 in
theorem ctFirst : CtFirst := by
  intro n w
  have C := Lib.hid (inRange_any n none 0 [] w ⟨Il.nil, Nat.le_refl _, by omega, fun _ => rfl⟩)
  rw [inR_0] at C
  by_cases h : stp n
  · rw [ans_ok _ h]
    rw [decide_eq_true h] at C
    obtain ⟨m, rfl⟩ := Int.eq_ofNat_of_zero_le h.1
    have h12 := h.2
    rw [Int.toNat_natCast]
    clear h
    by_cases h2 : m < 2
    · have e0 : fstZ m = 0 := by
        rcases (show m = 0 ∨ m = 1 by omega) with rfl | rfl
        · rfl
        · exact first_one
      rw [e0]
      clear e0
      go_enter Try.func12, Try.ntmps12
      go_wp2_with fail
      refine C.out.mono ?_
      rintro e w1 ⟨rfl, rfl⟩
      go_wp2
      go_ret2
      exact ⟨rfl, Below.refl _ _⟩
    · obtain ⟨k, rfl⟩ : ∃ k, m = k + 2 := ⟨m - 2, by omega⟩
      have e0 : fstZ (k + 2) = 2 * above k 1 1 := first_two k
      have C2 := Lib.hid (fun w => wabove_any k 1 1 w (by omega) (by decide) (by decide))
      have b := ways_bd mayUp 1 (n := k) 1 (by omega)
      change 0 ≤ above k 1 1 ∧ above k 1 1 ≤ _ at b
      rw [e0]
      clear e0
      generalize above k 1 1 = x at *
      have q1 : IntKind.i64.wrap (((k + 2 : Nat) : Int) - 2) = (k : Int) := by rw [IntWalk.i64_in _ (by omega)]; omega
      obtain ⟨t, ht⟩ : ∃ t : Int, ((k + 2 : Nat) : Int) = t := ⟨_, rfl⟩
      have ht2 : ¬ t < 2 := by omega
      rw [ht] at C q1
      rw [ht]
      clear ht
      go_enter Try.func12, Try.ntmps12
      go_wp2_with fail
      refine C.out.mono ?_
      rintro e w1 ⟨rfl, rfl⟩
      go_wp2_with fail
      refine (C2.out _).mono ?_
      rintro e w1 ⟨rfl, rfl⟩
      go_wp2
      go_ret2
      exact ⟨rfl, Below.refl _ _⟩
  · rw [ans_no _ h]
    rw [decide_eq_false h] at C
    clear h
    go_enter Try.func12, Try.ntmps12
    go_wp2_with fail
    refine C.out.mono ?_
    rintro e w1 ⟨rfl, rfl⟩
    go_wp2
    go_ret2
    exact ⟨rfl, Below.refl _ _⟩

theorem cat_above (n : Nat) : cat n = above (2 * n) 1 1 := by unfold cat; rw [ways_shift]; rfl
set_option maxHeartbeats 1000000 in
theorem ctCat : CtCat := by
  intro n w
  by_cases h0 : n < 0
  · rw [ans_no _ (by omega)]
    go_enter Try.func13, Try.ntmps13
    go_wp2
    go_ret2
    exact ⟨rfl, Below.refl _ _⟩
  by_cases h1 : 28 < n
  · rw [ans_no _ (by omega)]
    go_enter Try.func13, Try.ntmps13
    go_wp2
    go_ret2
    exact ⟨rfl, Below.refl _ _⟩
  rw [ans_ok _ (by omega)]
  obtain ⟨m, rfl⟩ := Int.eq_ofNat_of_zero_le (show 0 ≤ n by omega)
  rw [Int.toNat_natCast, cat_above]
  have C2 := Lib.hid (fun w => wabove_any (2 * m) 1 1 w (by omega) (by decide) (by decide))
  rw [show ((2 * m : Nat) : Int) = 2 * (m : Int) by omega] at C2
  generalize above (2 * m) 1 1 = x at *
  go_enter Try.func13, Try.ntmps13
  go_wp2_with fail
  refine (C2.out _).mono ?_
  rintro e w1 ⟨rfl, rfl⟩
  go_wp2
  go_ret2
  exact ⟨rfl, Below.refl _ _⟩
end Go.Proofs.Ytojoecoocbjgaaa
