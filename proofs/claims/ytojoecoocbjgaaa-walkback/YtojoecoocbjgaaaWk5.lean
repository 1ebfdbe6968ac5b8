/- WalkBack's walk. -/
import Derived.Test.YtojoecoocbjgaaaWk2
namespace Go.Proofs.Ytojoecoocbjgaaa
open Go.RowKit

theorem bk_prod {n k : Nat} (hk : k < n) (hn : n ≤ 28) : 0 ≤ first (2 * (k + 1)) * free (2 * (n - (k + 1))) 0 ∧ first (2 * (k + 1)) * free (2 * (n - (k + 1))) 0 ≤ 72057594037927936 := ways_prod (mayFst (2 * (k + 1))) mayAll 0 0 0 0 (by omega)
theorem bkC_bd {n : Nat} (hn : n ≤ 28) : ∀ k : Nat, k ≤ n → 0 ≤ bkC n k ∧ bkC n k ≤ k * 72057594037927936
  | 0, _ => by simp [bkC]
  | k + 1, h => by
    have ih := bkC_bd hn k (by omega)
    have hp := bk_prod (n := n) (k := k) (by omega) hn
    unfold bkC
    push_cast
    omega

set_option maxRecDepth 100000 in
set_option maxHeartbeats 1000000 in
theorem walkBack_walk (KF : CtFree) (KA : CtAbove) (KB : CtBet) (K1 : CtFirst) (KC : CtCat) (n : Int) (w : World) : Calls Try.prog 7 #[.int .i64 n] w fun e w' => e = .returned (.bool true) ∧ Below w.heap.size w w' := by
  have CL := Lib.hid (alive17_any KF KA KB K1 KC w)
  have HF := Lib.hid KF
  have H1 := Lib.hid K1
  clear KF KA KB K1 KC
  go_enter Try.func7, Try.ntmps7
  go_wp2_with fail
  refine CL.out.mono ?_
  rintro e w1 ⟨rfl, hb⟩
  have HB1 := Lib.hid hb
  clear hb CL
  by_cases h1 : n < 1
  · go_wp2
    go_ret
    exact ⟨rfl, HB1.out⟩
  by_cases h2 : 28 < n
  · go_wp2
    go_ret
    exact ⟨rfl, HB1.out⟩
  obtain ⟨m, rfl⟩ := Int.eq_ofNat_of_zero_le (show 0 ≤ n by omega)
  have hm : m ≤ 28 := by omega
  have hm1 : 1 ≤ m := by omega
  clear h1 h2
  go_wp2
  go_loopw [3, 4] (fun a i wr => ∃ k : Nat, k ≤ m ∧ a = .int .i64 (bkC m k) ∧ i = .int .i64 ((k : Int) + 1) ∧ Below w.heap.size w wr) (fun _ i _ => m + 1 - (intOf i).toNat)
  case atStart => exact ⟨0, by omega, rfl, rfl, HB1.out⟩
  case round =>
    clear HB1
    obtain ⟨k, hk, rfl, rfl, hB⟩ := hrel
    have HB := Lib.hid hB
    clear hB
    by_cases hlt : k < m
    · have C1 := Lib.hid (fun w => CtFirst.ok H1.out (n := 2 * (k + 1)) (by omega) (by omega) w)
      have C2 := Lib.hid (fun w => CtFree.ok HF.out (n := 2 * (m - (k + 1))) (to := 0) (by omega) (by decide) w)
      rw [show ((2 * (k + 1) : Nat) : Int) = 2 * ((k : Int) + 1) by omega] at C1
      rw [show ((2 * (m - (k + 1)) : Nat) : Int) = 2 * (m : Int) - 2 * ((k : Int) + 1) by omega] at C2
      have bp := bk_prod (n := m) (k := k) (by omega) (by omega)
      have bs := bkC_bd (n := m) (by omega) k (by omega)
      have HE : Hid (bkC m (k + 1) = bkC m k + first (2 * (k + 1)) * free (2 * (m - (k + 1))) 0) := rfl
      have bs2 : 0 ≤ bkC m k ∧ bkC m k ≤ 2017612633061982208 := by omega
      clear bs
      generalize bkC m k = S at *
      generalize first (2 * (k + 1)) = x at *
      generalize free (2 * (m - (k + 1))) 0 = y at *
      have k1 : IntKind.i64.wrap (x * y) = x * y := IntWalk.i64_in _ (by omega)
      have k2 : IntKind.i64.wrap (S + x * y) = S + x * y := IntWalk.i64_in _ (by omega)
      go_wp2_with fail
      refine (C1.out _).mono ?_
      rintro e w2 ⟨rfl, hb⟩
      have HB2 := Lib.hid (HB.out.trans (hb.mono HB.out.size))
      clear hb C1 HB
      go_wp2_with fail
      refine (C2.out _).mono ?_
      rintro e w3 ⟨rfl, hb⟩
      have HB3 := Lib.hid (HB2.out.trans (hb.mono HB2.out.size))
      clear hb C2 HB2
      go_wp2
      go_roundw
      case rel => exact ⟨k + 1, by omega, by rw [HE.out], by go_num, HB3.out⟩
      case measure => simp [intOf]; omega
    · obtain rfl : k = m := by omega
      have C3 := Lib.hid (fun w => CtFree.ok HF.out (n := 2 * k) (to := 0) (by omega) (by decide) w)
      have e1 := back_sum (n := k) (by omega) (by omega)
      rw [show ((2 * k : Nat) : Int) = 2 * (k : Int) by omega] at C3
      rw [e1]
      clear e1 HF H1 hk hlt
      generalize free (2 * k) 0 = x at *
      go_wp2_with fail
      refine (C3.out _).mono ?_
      rintro e w4 ⟨rfl, hb⟩
      have HB4 := Lib.hid (HB.out.trans (hb.mono HB.out.size))
      clear hb C3 HB
      go_wp2
      go_ret
      exact ⟨rfl, HB4.out⟩
end Go.Proofs.Ytojoecoocbjgaaa
