/- join.Count. -/
import Derived.Test.YtjhcbjpbmbjgoaaXo
import Derived.Test.YtjhcbjpbmbjgoaaJ1
namespace Go.Proofs.Ytjhcbjpbmbjgoaa
open Go.RowKit Go.Deep

theorem bc_pow : ∀ n k : Nat, bc n k ≤ 2 ^ n
  | 0, 0 => by simp [bc_zero]
  | 0, k + 1 => by rw [bc_none]; omega
  | n + 1, 0 => by rw [bc_zero]; exact Nat.one_le_two_pow
  | n + 1, k + 1 => by
    have h1 := bc_pow n k
    have h2 := bc_pow n (k + 1)
    rw [bc_succ, Nat.pow_succ]
    omega
theorem bc_25 {n : Nat} (h : n ≤ 25) (k : Nat) : bc n k ≤ 33554432 := Nat.le_trans (bc_pow n k) (Nat.pow_le_pow_right (n := 2) (by omega) h)
/-- What Count asks. -/
def CB (n m k f : Int) : Prop := n < 0 ∨ m < 0 ∨ k < 0 ∨ f < 0 ∨ 25 < n ∨ 25 < m ∨ k < f
instance (n m k f : Int) : Decidable (CB n m k f) := by unfold CB; infer_instance
def cntR (n m k f : Int) : Int × Int := if CB n m k f then (0, 2) else (((bc n.toNat f.toNat * bc m.toNat (k - f).toNat : Nat) : Int), 0)
theorem run_min4 (w : World) (ts : Array TypeId) (t : TypeId) (a b c d : Int) : (Builtin.min_ ts t #[.int .i64 a, .int .i64 b, .int .i64 c, .int .i64 d]).run Try.prog w = .ok (.int .i64 (min (min (min a b) c) d)) w := by
  have e : ∀ x y : Int, (if y < x then y else x) = min x y := fun x y => by
    rw [Int.min_def]
    split <;> split <;> omega
  simp [Builtin.min_, Builtin.min2, e]
theorem run_max2 (w : World) (ts : Array TypeId) (t : TypeId) (a b : Int) : (Builtin.max_ ts t #[.int .i64 a, .int .i64 b]).run Try.prog w = .ok (.int .i64 (max a b)) w := by
  have e : (if b > a then b else a) = max a b := by
    rw [Int.max_def]
    split <;> split <;> omega
  simp [Builtin.max_, Builtin.max2, e]
set_option maxRecDepth 100000 in
set_option maxHeartbeats 4000000 in
theorem count_any (n m k f : Int) (w : World) (hk : k ≤ 9223372036854775807) :
    Calls Try.prog 23 #[.int .i64 n, .int .i64 m, .int .i64 k, .int .i64 f] w fun e w' => e = .returned (ptup (cntR n m k f)) ∧ w' = w := by
  have hmin := fun w ts t => run_min4 w ts t n m k f
  have hmax := fun w ts t => run_max2 w ts t n m
  obtain ⟨q, hq⟩ : ∃ q, min (min (min n m) k) f = q := ⟨_, rfl⟩
  obtain ⟨p, hp⟩ : ∃ p, max n m = p := ⟨_, rfl⟩
  by_cases hb : CB n m k f
  · have E : Hid (cntR n m k f = (0, 2)) := if_pos hb
    unfold CB at hb
    rcases (show q < 0 ∨ (0 ≤ q ∧ 25 < p) ∨ (0 ≤ q ∧ p ≤ 25 ∧ k < f) by omega) with h | ⟨h, h1⟩ | ⟨h, h1, h2⟩
    all_goals
      rw [hq] at hmin
      rw [hp] at hmax
      clear hq hp hb
      go_enter Try.func23, Try.ntmps23
      go_wp2
      go_ret2
      exact ⟨by rw [E.out]; rfl, rfl⟩
  · have hE : cntR n m k f = (((bc n.toNat f.toNat * bc m.toNat (k - f).toNat : Nat) : Int), 0) := if_neg hb
    have E := Lib.hid hE
    clear hE
    have hb2 : 0 ≤ q ∧ p ≤ 25 ∧ f ≤ k := by unfold CB at hb; omega
    obtain ⟨h, h1, h2⟩ := hb2
    obtain ⟨N, rfl⟩ : ∃ N : Nat, n = N := ⟨n.toNat, by omega⟩
    obtain ⟨M, rfl⟩ : ∃ M : Nat, m = M := ⟨m.toNat, by omega⟩
    obtain ⟨F, rfl⟩ : ∃ F : Nat, f = F := ⟨f.toNat, by omega⟩
    obtain ⟨D, hD⟩ : ∃ D : Nat, k - (F : Int) = D := ⟨(k - F).toNat, by omega⟩
    have C1 := Lib.hid (of_any N F w (by omega))
    have C2 := Lib.hid (of_any M D w (by omega))
    have e1 : ofR N F = (((bc N F : Nat) : Int), 0) := by unfold ofR; rw [if_neg (by omega), Int.toNat_natCast, Int.toNat_natCast]
    have e2 : ofR M D = (((bc M D : Nat) : Int), 0) := by unfold ofR; rw [if_neg (by omega), Int.toNat_natCast, Int.toNat_natCast]
    rw [e1] at C1
    rw [e2] at C2
    rw [Int.toNat_natCast, Int.toNat_natCast, Int.toNat_natCast, hD, Int.toNat_natCast] at E
    have b1 := bc_25 (show N ≤ 25 by omega) F
    have b2 := bc_25 (show M ≤ 25 by omega) D
    rw [hq] at hmin
    rw [hp] at hmax
    clear hq hp hb e1 e2
    generalize bc N F = x at *
    generalize bc M D = y at *
    have hxy : x * y ≤ 33554432 * 33554432 := Nat.mul_le_mul b1 b2
    have hm : (x : Int) * (y : Int) = ((x * y : Nat) : Int) := by push_cast; rfl
    generalize x * y = z at *
    unfold ptup at *
    go_enter Try.func23, Try.ntmps23
    go_wp2_with fail
    refine C1.out.mono ?_
    rintro e w1 ⟨rfl, rfl⟩
    go_wp2_with fail
    refine C2.out.mono ?_
    rintro e w1 ⟨rfl, rfl⟩
    go_wp2
    go_ret2
    exact ⟨by rw [E.out]; rfl, rfl⟩
end Go.Proofs.Ytjhcbjpbmbjgoaa
