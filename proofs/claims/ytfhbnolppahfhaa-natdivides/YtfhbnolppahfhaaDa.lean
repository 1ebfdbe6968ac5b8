/- lotdrawerref.Int.SetInt64, NewInt and AFalling. -/
import Derived.Test.YtfhbnolppahfhaaNb
namespace Go.Proofs.Ytfhbnolppahfhaa
open Go.RowKit Go.Deep

set_option maxHeartbeats 400000 in
theorem isetI_any (g n : Nat) (w : World) (h : IsH w g) (hn : n < 9223372036854775808) :
    Calls Try.prog 56 #[.pointer (some ⟨g, 0, none⟩), .int .i64 (n : Int)] w fun e w' => e = .returned (.pointer (some ⟨g, 0, none⟩)) ∧ IsI w' g n ∧ w.grownBy w' (some g) := by
  have C := isetU_any g n w h (by omega)
  obtain ⟨z, hz⟩ : ∃ z : Int, z = (n : Int) := ⟨_, rfl⟩
  have h0 : 0 ≤ z := by omega
  have h1 : z < 9223372036854775808 := by omega
  rw [← hz] at C ⊢
  have C := Lib.hid C
  clear h hz hn
  go_enter Try.func56, Try.ntmps56
  go_wp2_with fail
  refine C.out.mono ?_
  rintro e w' ⟨rfl, h1, h2⟩
  have H1 := Lib.hid h1
  have H2 := Lib.hid h2
  clear h1 h2
  go_wp2
  go_ret
  exact ⟨rfl, H1.out, H2.out⟩

set_option maxHeartbeats 400000 in
theorem newI (n : Nat) (w : World) (hn : n < 9223372036854775808) :
    Calls Try.prog 45 #[.int .i64 (n : Int)] w fun e w' => e = .returned (.pointer (some ⟨w.heap.size, 0, none⟩)) ∧ IsI w' w.heap.size n ∧ Below w.heap.size w w' := by
  have C := Lib.hid (isetI_any w.heap.size n (w.alloc (.cells #[.bool false, .slice none 0 0] 35)) (IsI.new w).hd hn)
  go_enter Try.func45, Try.ntmps45
  go_wp2_with fail
  refine C.out.mono ?_
  rintro e w' ⟨rfl, h1, h2⟩
  have H1 := Lib.hid h1
  have H2 := Lib.hid h2
  clear h1 h2
  go_wp2
  go_ret
  exact ⟨rfl, H1.out, below_new H2.out⟩

theorem fall_sz {n k : Nat} (hn : n < Bw) (hk : k ≤ 300) : Sz5 (fall n k) := by
  have h := fall_le hn k
  rw [Bw_Bh] at h
  have h1 : fall n k < Bh ^ (2 * k + 1) := Nat.lt_of_le_of_lt h (Nat.pow_lt_pow_right (by decide) (Nat.lt_succ_self _))
  exact ⟨pow_up (a := 2 * k + 1) (b := 100000) h1 (by omega)⟩
theorem Sz5.four {n : Nat} (h : Sz5 n) : Sz4 n := ⟨pow_up (a := 100000) (b := 400000) h.out (by decide)⟩
theorem Sz5.nine {n : Nat} (h : Sz5 n) : Sz9 n := ⟨pow_up (a := 100000) (b := 900000) h.out (by decide)⟩
theorem sz_word {n : Nat} (h : n < Bw) : Sz5 n := ⟨small1 h⟩
theorem fall_pos {n : Nat} : ∀ {k : Nat}, k ≤ n → 0 < fall n k
  | 0, _ => Nat.one_pos
  | k + 1, h => by rw [fall]; exact Nat.mul_pos (fall_pos (by omega)) (by omega)

/-- What stands in the loop of AFalling. -/
def AFall (w : World) (gx gy n k : Nat) (wr : World) : Prop :=
  k ≤ n ∧ IsI wr gx ((fall n k : Nat) : Int) ∧ IsI wr gy ((n - k : Nat) : Int) ∧ Below w.heap.size w wr

set_option maxRecDepth 100000 in
set_option maxHeartbeats 2000000 in
theorem afalling_any (n many : Nat) (w : World) (hn : n < Bw) (hm : many ≤ 300) :
    Calls Try.prog 25 #[.int .u64 (n : Int), .int .i64 (many : Int)] w fun e w' => ∃ g, e = .returned (.pointer (some ⟨g, 0, none⟩)) ∧ IsI w' g ((fall n many : Nat) : Int) ∧ Below w.heap.size w w' := by
  have HN := Lib.hid hn
  have C1 := Lib.hid (newI 1 w (by decide))
  clear hn
  go_enter Try.func25, Try.ntmps25
  go_wp2_with fail
  refine C1.out.mono ?_
  rintro e w1 ⟨rfl, x1, h1⟩
  have X1 := Lib.hid x1
  have T1 := Lib.hid h1
  have lx := x1.lt
  have C2 := Lib.hid (newU n w1 HN.out)
  clear x1 h1 C1
  go_wp2_with fail
  refine C2.out.mono ?_
  rintro e w2 ⟨rfl, y2, h2⟩
  have X2 := Lib.hid (X1.out.below h2)
  have Y2 := Lib.hid y2
  have T2 := Lib.hid (below_to T1.out h2)
  have hne : w.heap.size ≠ w1.heap.size := by omega
  clear y2 h2 C2
  go_wp2_with fail
  go_loopw [12] (fun i wr => ∃ k : Nat, k ≤ many ∧ i = .int .i64 k ∧ AFall w w.heap.size w1.heap.size n k wr) (fun i _ => many - (intOf i).toNat)
  case atStart => exact ⟨0, Nat.zero_le _, rfl, Nat.zero_le _, X2.out, Y2.out, T2.out⟩
  case round =>
    clear X2 Y2 T2
    obtain ⟨k, hk, rfl, hkn, hX, hY, hB⟩ := hrel
    have HX := Lib.hid hX
    have HY := Lib.hid hY
    have HB := Lib.hid hB
    by_cases hlt : k < many
    · have sx : Hid (Sz4 ((fall n k : Nat) : Int).natAbs) := Lib.hid (by rw [Int.natAbs_natCast]; exact (fall_sz HN.out (by omega)).four)
      have sy : Hid (Sz5 ((n - k : Nat) : Int).natAbs) := Lib.hid (by rw [Int.natAbs_natCast]; exact sz_word (Nat.lt_of_le_of_lt (Nat.sub_le _ _) HN.out))
      have C3 := imul_any w.heap.size w.heap.size w1.heap.size _ _ wr hX.hd hX hY sx.out.out sy.out.four.out
      rw [← Int.natCast_mul, show fall n k * (n - k) = fall n (k + 1) from rfl] at C3
      have HC3 := Lib.hid C3
      clear hX hY hB C3
      go_wp2_with fail
      refine HC3.out.mono ?_
      rintro e w3 ⟨rfl, x3, g3⟩
      have X3 := Lib.hid x3
      have Y3 : Hid (IsI w3 w1.heap.size ((n - k : Nat) : Int)) := HY.out.only HX.out.hd (fun e => hne e.symm) g3
      have B3 : Hid (Below w.heap.size w w3) := below_grown HB.out g3 HB.out.size (Nat.le_refl _)
      have C4 := isign_any w.heap.size _ w3 x3 (by rw [Int.natAbs_natCast]; exact (fall_sz HN.out (by omega)).out)
      clear x3 g3 HC3 HX HY HB
      by_cases hz : k = n
      · have e0 : fall n (k + 1) = 0 := fall_zero (by omega)
        have e1 : Hid (fall n many = 0) := fall_zero (by omega)
        rw [e0] at C4 X3
        have HC4 := Lib.hid C4
        clear C4 e0 hz hkn
        rw [show ((0 : Nat) : Int).sign = 0 from rfl] at HC4
        go_wp2_with fail
        refine HC4.out.mono ?_
        rintro e w' ⟨rfl, rfl⟩
        go_wp2
        go_ret
        exact ⟨w.heap.size, rfl, by rw [e1.out]; exact X3.out, B3.out⟩
      · have hp : 0 < fall n (k + 1) := fall_pos (by omega)
        rw [Int.sign_eq_one_of_pos (by omega)] at C4
        have HC4 := Lib.hid C4
        have C5 := Lib.hid (newI 1 w3 (by decide))
        clear C4 hp
        go_wp2_with fail
        refine HC4.out.mono ?_
        rintro e w' ⟨rfl, rfl⟩
        go_wp2_with fail
        refine C5.out.mono ?_
        rintro e w4 ⟨rfl, o4, h4⟩
        have X4 := Lib.hid (X3.out.below h4)
        have Y4 := Lib.hid (Y3.out.below h4)
        have B4 : Hid (Below w.heap.size w w4) := B3.out.trans (h4.mono B3.out.size)
        have C6 := isub_any w1.heap.size w1.heap.size w3.heap.size _ _ w4 Y4.out.hd Y4.out o4 sy.out.nine.out (by rw [Int.natAbs_natCast]; exact (sz_word Bw_gt).nine.out)
        rw [show ((n - k : Nat) : Int) - ((1 : Nat) : Int) = ((n - (k + 1) : Nat) : Int) by omega] at C6
        have HC6 := Lib.hid C6
        clear C6 o4 h4 HC4 C5 X3 Y3 B3 sx sy
        go_wp2_with fail
        refine HC6.out.mono ?_
        rintro e w5 ⟨rfl, y5, g5⟩
        have Y5 := Lib.hid y5
        have X5 : Hid (IsI w5 w.heap.size ((fall n (k + 1) : Nat) : Int)) := X4.out.only Y4.out.hd hne g5
        have B5 : Hid (Below w.heap.size w w5) := below_grown B4.out g5 B4.out.size T1.out.size
        clear y5 g5 HC6 X4 Y4 B4
        go_wp2_with fail
        go_roundw
        case rel => exact ⟨k + 1, by omega, by go_num, by omega, X5.out, Y5.out, B5.out⟩
        case measure => simp [intOf]; omega
    · obtain rfl : many = k := by omega
      clear hX hY hB
      go_wp2
      go_ret
      exact ⟨w.heap.size, rfl, HX.out, HB.out⟩
end Go.Proofs.Ytfhbnolppahfhaa
