/- WalkCatalan's walk. -/
import Derived.Test.YtojoecoocbjgaaaWk2
namespace Go.Proofs.Ytojoecoocbjgaaa
open Go.RowKit

theorem cat_prod {n k : Nat} (hk : k ≤ n) (hn : n ≤ 28) : 0 ≤ cat k * cat (n - k) ∧ cat k * cat (n - k) ≤ 72057594037927936 := ways_prod mayOn mayOn 0 0 0 0 (by omega)
theorem cvC_bd {n : Nat} (hn : n ≤ 28) : ∀ k : Nat, k ≤ n + 1 → 0 ≤ cvC n k ∧ cvC n k ≤ k * 72057594037927936
  | 0, _ => by simp [cvC]
  | k + 1, h => by
    have ih := cvC_bd hn k (by omega)
    have hp := cat_prod (n := n) (k := k) (by omega) hn
    unfold cvC
    push_cast
    omega

set_option maxRecDepth 100000 in
set_option maxHeartbeats 1000000 in
theorem walkCatalan_walk (KF : CtFree) (KA : CtAbove) (KB : CtBet) (K1 : CtFirst) (KC : CtCat) (n : Int) (w : World) : Calls Try.prog 6 #[.int .i64 n] w fun e w' => e = .returned (.bool true) ∧ Below w.heap.size w w' := by
  have CL := Lib.hid (alive17_any KF KA KB K1 KC w)
  have HF := Lib.hid KF
  have HC := Lib.hid KC
  clear KF KA KB K1 KC
  go_enter Try.func6, Try.ntmps6
  go_wp2_with fail
  refine CL.out.mono ?_
  rintro e w1 ⟨rfl, hb⟩
  have HB1 := Lib.hid hb
  clear hb CL
  by_cases h1 : n < 0
  · go_wp2
    go_ret
    exact ⟨rfl, HB1.out⟩
  by_cases h2 : 27 < n
  · go_wp2
    go_ret
    exact ⟨rfl, HB1.out⟩
  obtain ⟨m, rfl⟩ := Int.eq_ofNat_of_zero_le (show 0 ≤ n by omega)
  have hm : m ≤ 27 := by omega
  clear h1 h2
  go_wp2
  go_loopw [3, 25] (fun a i wr => ∃ k : Nat, k ≤ m + 1 ∧ a = .int .i64 (cvC m k) ∧ i = .int .i64 k ∧ Below w.heap.size w wr) (fun _ i _ => m + 1 - (intOf i).toNat)
  case atStart => exact ⟨0, by omega, rfl, rfl, HB1.out⟩
  case round =>
    clear HB1
    obtain ⟨k, hk, rfl, rfl, hB⟩ := hrel
    have HB := Lib.hid hB
    clear hB
    by_cases hlt : k < m + 1
    · have C1 := Lib.hid (fun w => CtCat.ok HC.out (n := k) (by omega) w)
      have C2 := Lib.hid (fun w => CtCat.ok HC.out (n := m - k) (by omega) w)
      rw [show ((m - k : Nat) : Int) = (m : Int) - (k : Int) by omega] at C2
      have bp := cat_prod (n := m) (k := k) (by omega) (by omega)
      have bs := cvC_bd (n := m) (by omega) k (by omega)
      have HE : Hid (cvC m (k + 1) = cvC m k + cat k * cat (m - k)) := rfl
      have bs2 : 0 ≤ cvC m k ∧ cvC m k ≤ 2017612633061982208 := by omega
      clear bs
      generalize cvC m k = S at *
      generalize cat k = x at *
      generalize cat (m - k) = y at *
      have k1 : IntKind.i64.wrap (x * y) = x * y := IntWalk.i64_in _ (by omega)
      have k2 : IntKind.i64.wrap (S + x * y) = S + x * y := IntWalk.i64_in _ (by omega)
      go_wp2_with fail
      refine (C1.out _).mono ?_
      rintro e w2 ⟨rfl, hb⟩
      have HB2 := Lib.hid (HB.out.trans (hb.mono HB.out.size))
      clear hb C1 HB
      go_wp2_with fail
      refine (C2.out _).mono ?_
      rintro e w3 ⟨rfl, hb⟩
      have HB3 := Lib.hid (HB2.out.trans (hb.mono HB2.out.size))
      clear hb C2 HB2
      go_wp2
      go_roundw
      case rel => exact ⟨k + 1, by omega, by rw [HE.out], by go_num, HB3.out⟩
      case measure => simp [intOf]; omega
    · obtain rfl : k = m + 1 := by omega
      have C1 := Lib.hid (fun w => CtCat.ok HC.out (n := m + 1) (by omega) w)
      have C2 := Lib.hid (fun w => CtCat.ok HC.out (n := m) (by omega) w)
      have C3 := Lib.hid (fun w => CtFree.ok HF.out (n := 2 * m) (to := 0) (by omega) (by decide) w)
      have e1 := catalan_sum (n := m) (by omega)
      have e2 := cat_own m
      have b1 := ways_bd mayAll 0 (n := 2 * m) 0 (by omega)
      change 0 ≤ free (2 * m) 0 ∧ free (2 * m) 0 ≤ _ at b1
      rw [e1]
      rw [show ((m + 1 : Nat) : Int) = (m : Int) + 1 by rfl] at C1 ⊢
      rw [show ((2 * m : Nat) : Int) = 2 * (m : Int) by omega] at C3
      clear e1 HF HC hk hlt
      generalize cat (m + 1) = z at *
      generalize cat m = y at *
      generalize free (2 * m) 0 = x at *
      subst e2
      have k1 : IntKind.i64.wrap (y * ((m : Int) + 1)) = y * ((m : Int) + 1) := IntWalk.i64_in _ (by omega)
      go_wp2_with fail
      refine (C1.out _).mono ?_
      rintro e w2 ⟨rfl, hb⟩
      have HB2 := Lib.hid (HB.out.trans (hb.mono HB.out.size))
      clear hb C1 HB
      go_wp2_with fail
      refine (C2.out _).mono ?_
      rintro e w3 ⟨rfl, hb⟩
      have HB3 := Lib.hid (HB2.out.trans (hb.mono HB2.out.size))
      clear hb C2 HB2
      go_wp2_with fail
      refine (C3.out _).mono ?_
      rintro e w4 ⟨rfl, hb⟩
      have HB4 := Lib.hid (HB3.out.trans (hb.mono HB3.out.size))
      clear hb C3 HB3
      go_wp2
      go_ret
      exact ⟨rfl, HB4.out⟩
end Go.Proofs.Ytojoecoocbjgaaa
