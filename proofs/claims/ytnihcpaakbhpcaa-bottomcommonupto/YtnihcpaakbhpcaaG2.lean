/- cmp.Compare of words, bottom.byRank's closure, bottom.inRange. -/
import Derived.Test.YtnihcpaakbhpcaaG1
import Derived.Deep.QuietTactic
import Derived.BigQuiet
import Derived.RangeFuncBox
import Derived.WalkSmall
namespace Go.Proofs.Ytnihcpaakbhpcaa
open Go.RowKit Go.Deep

theorem eqw (x : W64) : ((x.toNat : Int) != (x.toNat : Int)) = false := by simp
set_option maxRecDepth 100000 in
set_option maxHeartbeats 1000000 in
theorem isNaN_any (x : W64) (w : World) : Calls Try.prog 67 #[.int .u64 (x.toNat : Int)] w fun e w' => e = .returned (.bool false) ∧ w' = w := by
  have h := eqw x
  go_enter Try.func67, Try.ntmps67
  go_wp2
  go_ret
  exact ⟨rfl, rfl⟩

set_option maxRecDepth 100000 in
set_option maxHeartbeats 1000000 in
theorem compare_any (x y : W64) (w : World) : Calls Try.prog 56 #[.int .u64 (x.toNat : Int), .int .u64 (y.toNat : Int)] w fun e w' => e = .returned (.int .i64 (ord x.toNat y.toNat)) ∧ w' = w := by
  have C1 := Lib.hid (isNaN_any x w)
  have C2 := Lib.hid (isNaN_any y w)
  have hx := x.isLt
  have hy := y.isLt
  generalize x.toNat = a at *
  generalize y.toNat = b at *
  rcases Nat.lt_trichotomy a b with h | h | h
  case' inl => rw [ord_lt h]
  case' inr.inl =>
    rw [ord_eq h]
    subst h
  case' inr.inr => rw [ord_gt h]
  all_goals
    clear hx hy
    go_enter Try.func56, Try.ntmps56
    go_wp2_with fail
    refine C1.out.mono ?_
    rintro e w1 ⟨rfl, rfl⟩
    go_wp2_with fail
    refine C2.out.mono ?_
    rintro e w1 ⟨rfl, rfl⟩
    go_wp2
    go_ret
    exact ⟨rfl, rfl⟩

set_option maxRecDepth 100000 in
set_option maxHeartbeats 1000000 in
/-- The closure that byRank makes, its seed in a box. -/
theorem rank_any (s x y : W64) (B : Nat) (w : World) (hB : Boxed w B 22 (.int .u64 (s.toNat : Int))) :
    Calls Try.prog 55 #[.int .u64 (x.toNat : Int), .int .u64 (y.toNat : Int), .pointer (some ⟨B, 0, none⟩)] w fun e w' => e = .returned (.int .i64 (ord (rk s x) (rk s y))) ∧ ∃ q, w' = w.drewN q := by
  have hc := hB.cell
  have e1 := xor_w x s
  have e2 := xor_w y s
  have HE : Hid (ord (rk s x) (rk s y) = ord (mix (x ^^^ s)).toNat (mix (y ^^^ s)).toNat) := rfl
  rw [HE.out]
  clear hB HE
  generalize x ^^^ s = u at *
  generalize y ^^^ s = v at *
  go_enter Try.func55, Try.ntmps55
  go_wp2
  go_quiet (first | (go_at_call 10; exact Calls.quiet_of_same (mix_any _ _)) | (go_at_call 56; exact Calls.quiet_of_same (compare_any _ _ _)))
  go_wp2
  go_ret
  exact ⟨rfl, _, rfl⟩

theorem inRange_any (r : Int) (w : World) : Calls Try.prog 41 #[.int .i64 r] w fun e w' => e = .returned (.bool (decide (1 ≤ r ∧ r ≤ 400))) ∧ w' = w := by
  rcases (show r < 1 ∨ (1 ≤ r ∧ 400 < r) ∨ (1 ≤ r ∧ r ≤ 400) by omega) with h | h | h
  case' inl => rw [decide_eq_false (by omega)]
  case' inr.inl =>
    rw [decide_eq_false (by omega)]
    have d1 : decide (r ≤ 400) = false := decide_eq_false (by omega)
  case' inr.inr =>
    rw [decide_eq_true h]
    have d1 : decide (r ≤ 400) = true := decide_eq_true (by omega)
  all_goals
    go_enter Try.func41, Try.ntmps41
    go_wp2
    go_ret
    exact ⟨rfl, rfl⟩
end Go.Proofs.Ytnihcpaakbhpcaa
