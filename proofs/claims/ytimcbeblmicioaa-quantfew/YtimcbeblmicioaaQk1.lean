/- quant: the small functions: inRange, bound, tooSmallOrLarge, byNumber with cmp.Compare, the two closures; Count. -/
import Derived.Test.YtimcbeblmicioaaQm2
import Derived.Deep.QuietTactic
import Derived.BigQuiet
import Derived.WalkSmall
namespace Go.Proofs.Ytimcbeblmicioaa
open Go.RowKit Go.Deep

/-- The sign of a - b. -/
def qsg (a b : Int) : Int := if a < b then -1 else if b < a then 1 else 0
theorem neI (x : Int) : (x != x) = false := by simp
set_option maxRecDepth 100000 in
set_option maxHeartbeats 1000000 in
theorem isNaNI_any (x : Int) (w : World) : Calls Try.prog 47 #[.int .i64 x] w fun e w' => e = .returned (.bool false) ∧ w' = w := by
  have h := neI x
  go_enter Try.func47, Try.ntmps47
  go_wp2
  go_ret
  exact ⟨rfl, rfl⟩

set_option maxRecDepth 100000 in
set_option maxHeartbeats 1000000 in
theorem compareI_any (x y : Int) (w : World) : Calls Try.prog 40 #[.int .i64 x, .int .i64 y] w fun e w' => e = .returned (.int .i64 (qsg x y)) ∧ w' = w := by
  have C1 := Lib.hid (isNaNI_any x w)
  have C2 := Lib.hid (isNaNI_any y w)
  rcases (show x < y ∨ x = y ∨ y < x by omega) with h | h | h
  case' inl => rw [show qsg x y = -1 from if_pos h]
  case' inr.inl =>
    subst h
    rw [show qsg x x = 0 by unfold qsg; simp]
  case' inr.inr =>
    rw [show qsg x y = 1 by unfold qsg; rw [if_neg (by omega), if_pos h]]
    have h2 : ¬ x < y := by omega
  all_goals
    go_enter Try.func40, Try.ntmps40
    go_wp2_with fail
    refine C1.out.mono ?_
    rintro e w1 ⟨rfl, rfl⟩
    go_wp2_with fail
    refine C2.out.mono ?_
    rintro e w1 ⟨rfl, rfl⟩
    go_wp2
    go_ret
    exact ⟨rfl, rfl⟩

theorem inRangeQ_any (p : Int) (w : World) : Calls Try.prog 27 #[.int .i64 p] w fun e w' => e = .returned (.bool (decide (1 ≤ p ∧ p ≤ 100))) ∧ w' = w := by
  rcases (show p < 1 ∨ (1 ≤ p ∧ 100 < p) ∨ (1 ≤ p ∧ p ≤ 100) by omega) with h | h | h
  case' inl => rw [decide_eq_false (by omega)]
  case' inr.inl =>
    rw [decide_eq_false (by omega)]
    have d1 : decide (p ≤ 100) = false := decide_eq_false (by omega)
  case' inr.inr =>
    rw [decide_eq_true h]
    have d1 : decide (p ≤ 100) = true := decide_eq_true (by omega)
  all_goals
    go_enter Try.func27, Try.ntmps27
    go_wp2
    go_ret
    exact ⟨rfl, rfl⟩

set_option maxRecDepth 100000 in
theorem boundQ_any (p t : Int) (hp : 1 ≤ p) (h0 : 0 ≤ t) (ht : t ≤ 4611686018427387903) (w : World) : Calls Try.prog 32 #[.int .i64 p, .int .i64 t] w fun e w' => e = .returned (.int .i64 (2 * t / p)) ∧ w' = w := by
  have hdv : (2 * t).tdiv p = 2 * t / p := Int.tdiv_eq_ediv_of_nonneg (by omega)
  have hd0 : 0 ≤ 2 * t / p := Int.ediv_nonneg (by omega) (by omega)
  have hd1 : 2 * t / p ≤ 9223372036854775807 := Int.le_trans (Int.ediv_le_self _ (by omega)) (by omega)
  have hp0 : ¬ p = 0 := by omega
  generalize 2 * t / p = b at *
  go_enter Try.func32, Try.ntmps32
  go_wp2
  go_ret
  exact ⟨rfl, rfl⟩

/-- An entry that Right refuses by itself. -/
def qbadE (r : Rk) : Bool := decide (¬ (1 ≤ r.g ∧ r.g ≤ 1099511627776 ∧ 0 ≤ r.m ∧ r.m ≤ 1099511627776))
set_option maxRecDepth 100000 in
set_option maxHeartbeats 1000000 in
theorem tooSmall_any (r : Rk) (w : World) : Calls Try.prog 29 #[rkv r] w fun e w' => e = .returned (.bool (qbadE r)) ∧ Below w.heap.size w w' := by
  obtain ⟨rn, rg, rm⟩ := r
  have HB := Lib.hid ((Below.refl w.heap.size w).alloc (Nat.le_refl _) (.cells #[.int .i64 rn, .int .i64 rg, .int .i64 rm] 33))
  have HQ : Hid (qbadE ⟨rn, rg, rm⟩ = decide (¬ (1 ≤ rg ∧ rg ≤ 1099511627776 ∧ 0 ≤ rm ∧ rm ≤ 1099511627776))) := rfl
  unfold rkv
  dsimp only
  rcases (show rg < 1 ∨ (¬ rg < 1 ∧ 1099511627776 < rg) ∨ (¬ rg < 1 ∧ ¬ 1099511627776 < rg ∧ rm < 0) ∨ (¬ rg < 1 ∧ ¬ 1099511627776 < rg ∧ ¬ rm < 0 ∧ 1099511627776 < rm) ∨ (¬ rg < 1 ∧ ¬ 1099511627776 < rg ∧ ¬ rm < 0 ∧ ¬ 1099511627776 < rm) by omega) with h | ⟨h1, h⟩ | ⟨h1, h2, h⟩ | ⟨h1, h2, h3, h⟩ | ⟨h1, h2, h3, h⟩
  case' inr.inr.inr.inr => rw [HQ.out, decide_eq_false (by omega)]
  case' inl => rw [HQ.out, decide_eq_true (by omega)]
  case' inr.inl => rw [HQ.out, decide_eq_true (by omega)]
  case' inr.inr.inl => rw [HQ.out, decide_eq_true (by omega)]
  case' inr.inr.inr.inl => rw [HQ.out, decide_eq_true (by omega)]
  all_goals
    clear HQ
    go_enter Try.func29, Try.ntmps29
    go_wp2
    go_ret
    exact ⟨by simp [*], HB.out⟩

set_option maxRecDepth 100000 in
set_option maxHeartbeats 1000000 in
theorem byNumber_any (r s : Rk) (w : World) : Calls Try.prog 31 #[rkv r, rkv s] w fun e w' => e = .returned (.int .i64 (qsg r.n s.n)) ∧ Below w.heap.size w w' := by
  obtain ⟨rn, rg, rm⟩ := r
  obtain ⟨sn, sg, sm⟩ := s
  have b2 : Below w.heap.size w ((w.alloc (.cells #[.int .i64 rn, .int .i64 rg, .int .i64 rm] 33)).alloc (.cells #[.int .i64 sn, .int .i64 sg, .int .i64 sm] 33)) := ((Below.refl _ _).alloc (Nat.le_refl _) _).alloc (by simp) _
  have HB := Lib.hid b2
  clear b2
  have C := Lib.hid (compareI_any rn sn)
  unfold rkv
  dsimp only
  go_enter Try.func31, Try.ntmps31
  go_wp2_with fail
  refine (C.out _).mono ?_
  rintro e w1 ⟨rfl, rfl⟩
  go_wp2
  go_ret
  exact ⟨rfl, HB.out⟩

set_option maxRecDepth 100000 in
set_option maxHeartbeats 1000000 in
/-- Right's closure: more than the box says. -/
theorem tooVague_any (r : Rk) (G : Nat) (b : Int) (h1 : 0 ≤ r.g) (h2 : r.g ≤ 1099511627776) (h3 : 0 ≤ r.m) (h4 : r.m ≤ 1099511627776) (w : World) (hG : w.cell? ⟨G, 0, none⟩ = some (.int .i64 b)) (hl : G < w.heap.size) : Calls Try.prog 33 #[rkv r, .pointer (some ⟨G, 0, none⟩)] w fun e w' => e = .returned (.bool (decide (b < r.g + r.m))) ∧ Below w.heap.size w w' := by
  obtain ⟨rn, rg, rm⟩ := r
  dsimp only at h1 h2 h3 h4
  have hb := (Below.refl w.heap.size w).alloc (Nat.le_refl _) (.cells #[.int .i64 rn, .int .i64 rg, .int .i64 rm] 33)
  have c := (hb.cell (p := ⟨G, 0, none⟩) hl).trans hG
  have HB := Lib.hid hb
  clear hb hG
  unfold rkv
  dsimp only
  go_enter Try.func33, Try.ntmps33
  go_wp2
  go_ret
  exact ⟨rfl, HB.out⟩

set_option maxRecDepth 100000 in
set_option maxHeartbeats 1000000 in
/-- insert's closure: behind the box's number. -/
theorem behind_any (r : Rk) (G : Nat) (x : Int) (w : World) (hG : w.cell? ⟨G, 0, none⟩ = some (.int .i64 x)) (hl : G < w.heap.size) : Calls Try.prog 45 #[rkv r, .pointer (some ⟨G, 0, none⟩)] w fun e w' => e = .returned (.bool (decide (x < r.n))) ∧ Below w.heap.size w w' := by
  obtain ⟨rn, rg, rm⟩ := r
  have hb := (Below.refl w.heap.size w).alloc (Nat.le_refl _) (.cells #[.int .i64 rn, .int .i64 rg, .int .i64 rm] 33)
  have c := (hb.cell (p := ⟨G, 0, none⟩) hl).trans hG
  have HB := Lib.hid hb
  clear hb hG
  unfold rkv
  dsimp only
  go_enter Try.func45, Try.ntmps45
  go_wp2
  go_ret
  exact ⟨rfl, HB.out⟩
end Go.Proofs.Ytimcbeblmicioaa
