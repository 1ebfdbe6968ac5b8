/- WalkReflect's and WalkBallot's walks. -/
import Derived.Test.YtojoecoocbjgaaaWk2
namespace Go.Proofs.Ytojoecoocbjgaaa
open Go.RowKit

set_option maxRecDepth 100000 in
set_option maxHeartbeats 1000000 in
theorem walkReflect_walk (KF : CtFree) (KA : CtAbove) (KB : CtBet) (K1 : CtFirst) (KC : CtCat) (n a b : Int) (w : World) : Calls Try.prog 4 #[.int .i64 n, .int .i64 a, .int .i64 b] w fun e w' => e = .returned (.bool true) ∧ Below w.heap.size w w' := by
  have CL := Lib.hid (alive17_any KF KA KB K1 KC w)
  have HF := Lib.hid KF
  have HA := Lib.hid KA
  clear KF KA KB K1 KC
  go_enter Try.func4, Try.ntmps4
  go_wp2_with fail
  refine CL.out.mono ?_
  rintro e w1 ⟨rfl, hb⟩
  have HB1 := Lib.hid hb
  clear hb CL
  by_cases h1 : n < 0
  · go_wp2
    go_ret
    exact ⟨rfl, HB1.out⟩
  by_cases h2 : 56 < n
  · go_wp2
    go_ret
    exact ⟨rfl, HB1.out⟩
  by_cases h3 : a < 1
  · go_wp2
    go_ret
    exact ⟨rfl, HB1.out⟩
  by_cases h4 : b < 1
  · go_wp2
    go_ret
    exact ⟨rfl, HB1.out⟩
  by_cases h5 : 40 < a
  · go_wp2
    go_ret
    exact ⟨rfl, HB1.out⟩
  by_cases h6 : 40 < b
  · go_wp2
    go_ret
    exact ⟨rfl, HB1.out⟩
  obtain ⟨m, rfl⟩ := Int.eq_ofNat_of_zero_le (show 0 ≤ n by omega)
  have hm : m ≤ 56 := by omega
  have C1 := Lib.hid (fun w => CtFree.ok HF.out (n := m) (to := b - a) hm ⟨by omega, by omega⟩ w)
  have C2 := Lib.hid (fun w => CtAbove.ok HA.out (n := m) (a := a) (to := b) hm ⟨by omega, by omega⟩ ⟨by omega, by omega⟩ w)
  have C3 := Lib.hid (fun w => CtFree.ok HF.out (n := m) (to := b + a) hm ⟨by omega, by omega⟩ w)
  have C4 := Lib.hid (fun w => CtAbove.ok HA.out (n := m) (a := b) (to := a) hm ⟨by omega, by omega⟩ ⟨by omega, by omega⟩ w)
  have e1 := andre (a := a) (by omega) m b (by omega)
  have e2 := above_comm (a := a) (h := b) (by omega) (by omega) m
  have b1 := ways_bd mayAll 0 (n := m) (b - a) hm
  have b2 := ways_bd mayUp a (n := m) b hm
  have b3 := ways_bd mayAll 0 (n := m) (b + a) hm
  rw [← e2] at C4
  change 0 ≤ free m (b - a) ∧ free m (b - a) ≤ _ at b1
  change 0 ≤ above m a b ∧ above m a b ≤ _ at b2
  change 0 ≤ free m (b + a) ∧ free m (b + a) ≤ _ at b3
  clear e2 HF HA
  generalize free m (b - a) = x at *
  generalize above m a b = y at *
  generalize free m (b + a) = z at *
  obtain rfl : z = x - y := by omega
  clear e1
  go_wp2_with fail
  refine (C1.out _).mono ?_
  rintro e w2 ⟨rfl, hb⟩
  have HB2 := Lib.hid (HB1.out.trans (hb.mono HB1.out.size))
  clear hb C1 HB1
  go_wp2_with fail
  refine (C2.out _).mono ?_
  rintro e w3 ⟨rfl, hb⟩
  have HB3 := Lib.hid (HB2.out.trans (hb.mono HB2.out.size))
  clear hb C2 HB2
  go_wp2_with fail
  refine (C3.out _).mono ?_
  rintro e w4 ⟨rfl, hb⟩
  have HB4 := Lib.hid (HB3.out.trans (hb.mono HB3.out.size))
  clear hb C3 HB3
  go_wp2_with fail
  refine (C4.out _).mono ?_
  rintro e w5 ⟨rfl, hb⟩
  have HB5 := Lib.hid (HB4.out.trans (hb.mono HB4.out.size))
  clear hb C4 HB4
  go_wp2
  go_ret
  exact ⟨rfl, HB5.out⟩

set_option maxRecDepth 100000 in
set_option maxHeartbeats 1000000 in
theorem walkBallot_walk (KF : CtFree) (KA : CtAbove) (KB : CtBet) (K1 : CtFirst) (KC : CtCat) (n l : Int) (w : World) : Calls Try.prog 5 #[.int .i64 n, .int .i64 l] w fun e w' => e = .returned (.bool true) ∧ Below w.heap.size w w' := by
  have CL := Lib.hid (alive17_any KF KA KB K1 KC w)
  have HF := Lib.hid KF
  have HA := Lib.hid KA
  clear KF KA KB K1 KC
  go_enter Try.func5, Try.ntmps5
  go_wp2_with fail
  refine CL.out.mono ?_
  rintro e w1 ⟨rfl, hb⟩
  have HB1 := Lib.hid hb
  clear hb CL
  by_cases h1 : n < 1
  · go_wp2
    go_ret
    exact ⟨rfl, HB1.out⟩
  by_cases h2 : 56 < n
  · go_wp2
    go_ret
    exact ⟨rfl, HB1.out⟩
  by_cases h3 : l < 1
  · go_wp2
    go_ret
    exact ⟨rfl, HB1.out⟩
  by_cases h4 : n < l
  · go_wp2
    go_ret
    exact ⟨rfl, HB1.out⟩
  obtain ⟨m, hm⟩ := Int.eq_ofNat_of_zero_le (show 0 ≤ n - 1 by omega)
  obtain rfl : n = (m : Int) + 1 := by omega
  have hm6 : m + 1 ≤ 56 := by omega
  have C1 := Lib.hid (fun w => CtFree.ok HF.out (n := m + 1) (to := l) hm6 ⟨by omega, by omega⟩ w)
  have C2 := Lib.hid (fun w => CtAbove.ok HA.out (n := m) (a := 1) (to := l) (by omega) ⟨by omega, by omega⟩ ⟨by omega, by omega⟩ w)
  have e1 := ballot (n := m + 1) l (by omega) (by omega)
  rw [show m + 1 - 1 = m by omega] at e1
  rw [show ((m + 1 : Nat) : Int) = (m : Int) + 1 by rfl] at C1 e1
  have b1 := ways_bd mayAll 0 (n := m + 1) l hm6
  have b2 := ways_bd mayUp 1 (n := m) l (by omega)
  change 0 ≤ free (m + 1) l ∧ free (m + 1) l ≤ _ at b1
  change 0 ≤ above m 1 l ∧ above m 1 l ≤ _ at b2
  clear HF HA hm
  generalize free (m + 1) l = x at *
  generalize above m 1 l = y at *
  have p1 : 0 ≤ y * ((m : Int) + 1) ∧ y * ((m : Int) + 1) ≤ 72057594037927936 * 56 := ⟨Int.mul_nonneg b2.1 (by omega), Int.mul_le_mul b2.2 (by omega) (by omega) (by decide)⟩
  have k1 : IntKind.i64.wrap (y * ((m : Int) + 1)) = y * ((m : Int) + 1) := IntWalk.i64_in _ (by omega)
  have k2 : IntKind.i64.wrap (x * l) = x * l := IntWalk.i64_in _ (by omega)
  have e3 : (y * ((m : Int) + 1) == x * l) = true := by rw [beq_iff_eq]; exact e1
  clear e1
  go_wp2_with fail
  refine (C1.out _).mono ?_
  rintro e w2 ⟨rfl, hb⟩
  have HB2 := Lib.hid (HB1.out.trans (hb.mono HB1.out.size))
  clear hb C1 HB1
  have q1 : IntKind.i64.wrap ((m : Int) + 1 - 1) = (m : Int) := by rw [IntWalk.i64_in _ (by omega)]; omega
  go_wp2_with fail
  refine (C2.out _).mono ?_
  rintro e w3 ⟨rfl, hb⟩
  have HB3 := Lib.hid (HB2.out.trans (hb.mono HB2.out.size))
  clear hb C2 HB2
  go_wp2
  go_ret
  exact ⟨rfl, HB3.out⟩
end Go.Proofs.Ytojoecoocbjgaaa
