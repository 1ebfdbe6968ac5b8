/- walk.Between: its contract. -/
import Derived.Test.YtojoecoocbjgaaaWkc
namespace Go.Proofs.Ytojoecoocbjgaaa
open Go.RowKit Go.Deep

theorem ten_bd {x y : Int} {T k : Nat} (hT : T ≤ 100) (hk : k ≤ 112) {n : Nat} (hn : n ≤ 56) (hkn : k ≤ 2 * n) : -12000 ≤ 2 * (T : Int) * ((k : Int) - n) ∧ 2 * (T : Int) * ((k : Int) - n) ≤ 12000 := by
  have h1 : (2 * T) * k ≤ 200 * k := Nat.mul_le_mul_right k (by omega)
  have h2 : (2 * T) * n ≤ 200 * n := Nat.mul_le_mul_right n (by omega)
  have h3 : (2 * T) * k ≤ (2 * T) * (2 * n) := Nat.mul_le_mul_left _ hkn
  have h4 : (2 * T) * (2 * n) = 2 * ((2 * T) * n) := by rw [Nat.mul_left_comm]
  rw [Int.mul_sub]
  have e1 : 2 * (T : Int) * (k : Int) = (((2 * T) * k : Nat) : Int) := by push_cast; rfl
  have e2 : 2 * (T : Int) * (n : Int) = (((2 * T) * n : Nat) : Int) := by push_cast; rfl
  rw [e1, e2]
  omega
theorem tnG_bd (T : Int) {n : Nat} (a h : Int) (hn : n ≤ 56) (k : Int) : -72057594037927936 ≤ tnG T n a h k ∧ tnG T n a h k ≤ 72057594037927936 := by
  have b1 := ways_bd mayAll 0 (n := n) (T * k + h - a) hn
  have b2 := ways_bd mayAll 0 (n := n) (T * k - h - a) hn
  unfold tnG free
  omega

set_option maxRecDepth 100000 in
set_option maxHeartbeats 2000000 in
theorem between_in (n a z T : Nat) (w : World) (hn : n ≤ 56) (ha : 0 < a ∧ a < T) (hz : 0 < z ∧ z < T) (hT : T ≤ 100) :
    Calls Try.prog 11 #[.int .i64 (n : Int), .int .i64 (a : Int), .int .i64 (z : Int), .int .i64 (T : Int)] w fun e w' => e = .returned (.tuple #[.int .i64 (bet T n a z), .int .i64 0]) ∧ Below w.heap.size w w' := by
  have C := Lib.hid (inRange_any (n : Int) (some ⟨w.heap.size, 0, none⟩) 3 [(a : Int), (z : Int), (T : Int)] (w.alloc (.cells #[.int .i64 (a : Int), .int .i64 (z : Int), .int .i64 (T : Int)] 3)) (ip_lit w [(a : Int), (z : Int), (T : Int)] (by simp)))
  have HB : Hid (Below w.heap.size w (w.alloc (.cells #[.int .i64 (a : Int), .int .i64 (z : Int), .int .i64 (T : Int)] 3))) := (Below.refl _ _).alloc (Nat.le_refl _) _
  rw [inR_3, decide_eq_true (show stp n ∧ hgt a ∧ hgt z ∧ hgt T from ⟨⟨by omega, by omega⟩, ⟨by omega, by omega⟩, ⟨by omega, by omega⟩, ⟨by omega, by omega⟩⟩)] at C
  have HS := Lib.hid (between_sum (t := (T : Int)) (a := (a : Int)) n (by omega) (by omega) n (Nat.le_refl _) (z : Int) (by omega) (by omega))
  have HG := Lib.hid (fun k => tnG_bd (2 * (T : Int)) (a : Int) (z : Int) hn k)
  have HW := Lib.hid (fun r w hr => wfree_any n r w hn hr)
  have d1 : decide (T ≤ a) = false := decide_eq_false (by omega)
  have d2 : decide (T ≤ z) = false := decide_eq_false (by omega)
  have d3 : decide ((T : Int) ≤ (a : Int)) = false := decide_eq_false (by omega)
  have d4 : decide ((T : Int) ≤ (z : Int)) = false := decide_eq_false (by omega)
  rcases (show z < a ∨ (a < z ∨ (a ≤ z ∧ z ≤ a)) by omega) with hm | hm | ⟨hm, hm2⟩
  all_goals
    go_enter Try.func11, Try.ntmps11
    go_wp2_with fail
    refine C.out.mono ?_
    rintro e w1 ⟨rfl, rfl⟩
    clear C
    go_wp2_with fail
    go_loopw [10, 11] (fun cv iv wr => ∃ k : Nat, k ≤ 2 * n + 1 ∧ cv = .int .i64 (runS (tnG (2 * (T : Int)) n a z) (-(n : Int)) k) ∧ iv = .int .i64 ((k : Int) - n) ∧ Below w.heap.size w wr) (fun _ iv _ => 2 * n + 1 - (intOf iv + n).toNat)
    case atStart => exact ⟨0, by omega, rfl, by congr 1; omega, HB.out⟩
    case round =>
      obtain ⟨k, hk, rfl, rfl, hB⟩ := hrel
      have HBr := Lib.hid hB
      clear hB
      by_cases hlt : k < 2 * n + 1
      · have hi : ((k : Int) - n) ≤ n ∧ -56 ≤ ((k : Int) - n) := by omega
        have k1 := ten_bd (x := 0) (y := 0) hT (show k ≤ 112 by omega) hn (by omega)
        obtain ⟨s, hs⟩ : ∃ s : Int, 2 * (T : Int) * ((k : Int) - n) = s := ⟨_, rfl⟩
        obtain ⟨i, hi2⟩ : ∃ i : Int, (k : Int) - n = i := ⟨_, rfl⟩
        rw [hi2] at hi hs k1
        rw [hs] at k1
        have b1 := runS_bd (G := tnG (2 * (T : Int)) n a z) (c := 72057594037927936) (-(n : Int)) HG.out k
        have b2 := runS_bd (G := tnG (2 * (T : Int)) n a z) (c := 72057594037927936) (-(n : Int)) HG.out (k + 1)
        have HR : Hid (runS (tnG (2 * (T : Int)) n a z) (-(n : Int)) (k + 1) = runS (tnG (2 * (T : Int)) n a z) (-(n : Int)) k + (free n (s + z - a) - free n (s - z - a))) := by
          show runS (tnG (2 * (T : Int)) n a z) (-(n : Int)) k + tnG (2 * (T : Int)) n a z (-(n : Int) + k) = _
          unfold tnG
          rw [show -(n : Int) + (k : Int) = i by omega, hs]
        have W1 := Lib.hid (fun w => HW.out (s + z - a) w (by omega))
        have W2 := Lib.hid (fun w => HW.out (s - z - a) w (by omega))
        have f1 := ways_bd mayAll 0 (n := n) (s + z - a) hn
        have f2 := ways_bd mayAll 0 (n := n) (s - z - a) hn
        change 0 ≤ free n (s + z - a) ∧ free n (s + z - a) ≤ _ at f1
        change 0 ≤ free n (s - z - a) ∧ free n (s - z - a) ≤ _ at f2
        rw [HR.out] at b2
        generalize runS (tnG (2 * (T : Int)) n a z) (-(n : Int)) k = c at *
        generalize free n (s + z - a) = x at *
        generalize free n (s - z - a) = y at *
        rw [hi2]
        have HS2 := Lib.hid hs
        have HI2 := Lib.hid hi2
        clear hs hi2
        have ks : IntKind.i64.wrap (2 * (T : Int) * i) = s := by rw [HS2.out]; exact IntWalk.i64_in _ (by omega)
        go_wp2_with fail
        refine (W1.out _).mono ?_
        rintro e w1 ⟨rfl, rfl⟩
        clear W1
        go_wp2_with fail
        refine (W2.out _).mono ?_
        rintro e w2 ⟨rfl, rfl⟩
        clear W2
        go_wp2
        go_roundw
        case rel => exact ⟨k + 1, by omega, by rw [HR.out], by have := HI2.out; congr 1; omega, HBr.out⟩
        case measure => simp [intOf]; have := HI2.out; omega
      · obtain rfl : k = 2 * n + 1 := by omega
        rw [HS.out]
        have hx : ¬ (((2 * n + 1 : Nat) : Int) - n ≤ n) := by omega
        obtain ⟨i, hi2⟩ : ∃ i : Int, ((2 * n + 1 : Nat) : Int) - n = i := ⟨_, rfl⟩
        rw [hi2] at hx
        rw [hi2]
        clear hi2
        go_wp2
        go_ret2
        exact ⟨rfl, HBr.out⟩
end Go.Proofs.Ytojoecoocbjgaaa
