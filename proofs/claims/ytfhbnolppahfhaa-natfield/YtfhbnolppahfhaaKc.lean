/- NatField's walk: where an argument is no number; where all are. -/
import Derived.Test.YtfhbnolppahfhaaKb
namespace Go.Proofs.Ytfhbnolppahfhaa
open Go.RowKit Go.Deep

set_option maxRecDepth 100000 in
set_option maxHeartbeats 2000000 in
theorem natField_bad (a0 a1 a2 : Option Addr) (cap0 cap1 cap2 : Nat) (xs ys zs : List Nat) (w : World) (ha : Wd w a0 xs) (hb : Wd w a1 ys) (hc : Wd w a2 zs)
    (hla : xs.length ≤ 9223372036854775807) (hlb : ys.length ≤ 9223372036854775807) (hlc : zs.length ≤ 9223372036854775807)
    (e g : Int) (he : ansE xs ys (val xs * val ys) = e) (hg : ansE ys zs (val ys + val zs) = g) (h : (e != 0) = true ∨ ((e != 0) = false ∧ (g != 0) = true)) :
    Calls Try.prog 6 #[.slice a0 xs.length cap0, .slice a1 ys.length cap1, .slice a2 zs.length cap2] w fun e w' => e = .returned (.bool true) ∧ Below w.heap.size w w' := by
  have CA := Lib.hid (alive1_any w)
  have HA := Lib.hid ha
  have HB := Lib.hid hb
  have HC := Lib.hid hc
  have LA := Lib.hid hla
  have LB := Lib.hid hlb
  have LC := Lib.hid hlc
  have E := Lib.hid he
  have G := Lib.hid hg
  clear ha hb hc he hg
  rcases h with h1 | ⟨h1, h2⟩
  all_goals
    go_enter Try.func6, Try.ntmps6
    go_wp2_with fail
    refine CA.out.mono ?_
    rintro e wa ⟨rfl, hBa⟩
    have HBa := Lib.hid hBa
    clear hBa CA
    go_wp2_with fail
    · go_ret
      exact ⟨rfl, HBa.out⟩
    · clear hla hlb hlc
      have C1 := mul_tot a0 a1 cap0 cap1 xs ys wa (HA.out.below HBa.out) (HB.out.below HBa.out) LA.out LB.out
      rw [E.out] at C1
      refine C1.mono ?_
      rintro e w1 ⟨R1, c1, rfl, _, hB1⟩
      have HB1 : Hid (Below w.heap.size w w1) := below_to HBa.out hB1
      clear hB1 C1
      have C2 := mul_tot a1 a0 cap1 cap0 ys xs w1 (HB.out.below HB1.out) (HA.out.below HB1.out) LB.out LA.out
      rw [(mul_comm_ans xs ys).2, E.out] at C2
      have D2 := Lib.hid C2
      clear C2
      go_wp2_with fail
      refine D2.out.mono ?_
      rintro e w2 ⟨R2, c2, rfl, _, hB2⟩
      have HB2 : Hid (Below w.heap.size w w2) := below_to HB1.out hB2
      clear hB2 D2
      have C3 := add_tot a1 a2 cap1 cap2 ys zs w2 (HB.out.below HB2.out) (HC.out.below HB2.out) LB.out LC.out
      rw [G.out] at C3
      have D3 := Lib.hid C3
      clear C3
      go_wp2_with fail
      refine D3.out.mono ?_
      rintro e w3 ⟨R3, c3, rfl, _, hB3⟩
      have HB3 : Hid (Below w.heap.size w w3) := below_to HB2.out hB3
      clear hB3 D3
      go_wp2
      go_ret
      exact ⟨retB (by simp), HB3.out⟩

theorem val_small {xs : List Nat} {k : Nat} (hs : Sm xs) (h : xs.length ≤ k) : val xs < Bw ^ k := Nat.lt_of_lt_of_le (val_lt hs) (Nat.pow_le_pow_right Bw_pos h)
theorem mul_small {a b i j k : Nat} (ha : a < Bw ^ i) (hb : b < Bw ^ j) (h : i + j ≤ k) : a * b < Bw ^ k := by
  have h1 : a * b < Bw ^ i * Bw ^ j := by
    rcases Nat.eq_zero_or_pos b with e | e
    · subst e; rw [Nat.mul_zero]; exact Nat.mul_pos (Nat.pow_pos Bw_pos) (Nat.pow_pos Bw_pos)
    · exact Nat.lt_of_lt_of_le (Nat.mul_lt_mul_of_pos_right ha e) (Nat.mul_le_mul_left _ (Nat.le_of_lt hb))
  rw [← Nat.pow_add] at h1
  exact Nat.lt_of_lt_of_le h1 (Nat.pow_le_pow_right Bw_pos h)
theorem add_small {a b i k : Nat} (ha : a < Bw ^ i) (hb : b < Bw ^ i) (h : i + 1 ≤ k) : a + b < Bw ^ k := by
  have h1 : a + b < Bw ^ i * Bw := by
    have : Bw ^ i * 2 ≤ Bw ^ i * Bw := Nat.mul_le_mul_left _ Bw_gt
    omega
  rw [← Nat.pow_succ] at h1
  exact Nat.lt_of_lt_of_le h1 (Nat.pow_le_pow_right Bw_pos h)

set_option maxRecDepth 100000 in
set_option maxHeartbeats 2000000 in
theorem natField_good (a0 a1 a2 : Option Addr) (cap0 cap1 cap2 : Nat) (xs ys zs : List Nat) (w : World) (ha : Wd w a0 xs) (hb : Wd w a1 ys) (hc : Wd w a2 zs)
    (r1 : rt xs = true) (r2 : rt ys = true) (r3 : rt zs = true) (hs : xs.length + ys.length + zs.length ≤ 30) :
    Calls Try.prog 6 #[.slice a0 xs.length cap0, .slice a1 ys.length cap1, .slice a2 zs.length cap2] w fun e w' => e = .returned (.bool true) ∧ Below w.heap.size w w' := by
  have CA := Lib.hid (alive1_any w)
  have v1 : val xs < Bw ^ 30 := val_small ha.1 (by omega)
  have v2 : val ys < Bw ^ 30 := val_small hb.1 (by omega)
  have v3 : val zs < Bw ^ 30 := val_small hc.1 (by omega)
  have p12 : val xs * val ys < Bw ^ 60 := mul_small v1 v2 (by omega)
  have p13 : val xs * val zs < Bw ^ 60 := mul_small v1 v3 (by omega)
  have s23 : val ys + val zs < Bw ^ 31 := add_small v2 v3 (by omega)
  have p1s : val xs * (val ys + val zs) < Bw ^ 64 := mul_small v1 s23 (by omega)
  have up : ∀ {a k}, a < Bw ^ k → k ≤ 64 → a < Bw ^ 64 := fun h k => Nat.lt_of_lt_of_le h (Nat.pow_le_pow_right Bw_pos k)
  have q12 := up p12 (by omega)
  have q13 := up p13 (by omega)
  have q23 := up s23 (by omega)
  have M12 := Lib.hid (fun W (x : Wd W a0 xs) (y : Wd W a1 ys) => mul_any a0 a1 cap0 cap1 xs ys W x y r1 r2)
  have M21 := Lib.hid (fun W (x : Wd W a0 xs) (y : Wd W a1 ys) => mul_any a1 a0 cap1 cap0 ys xs W y x r2 r1)
  have S23 := Lib.hid (fun W (x : Wd W a1 ys) (y : Wd W a2 zs) => add_any a1 a2 cap1 cap2 ys zs W x y r2 r3)
  have M13 := Lib.hid (fun W (x : Wd W a0 xs) (y : Wd W a2 zs) => mul_any a0 a2 cap0 cap2 xs zs W x y r1 r3)
  have M1s := Lib.hid (fun W R c (x : Wd W a0 xs) (y : Wd W R (words (val ys + val zs))) => mul_any a0 R cap0 c xs (words (val ys + val zs)) W x y r1 (rt_words q23))
  have Sff := Lib.hid (fun W R c S d (x : Wd W R (words (val xs * val ys))) (y : Wd W S (words (val xs * val zs))) => add_any R S c d (words (val xs * val ys)) (words (val xs * val zs)) W x y (rt_words q12) (rt_words q13))
  rw [show fitL (val xs * val ys) = words (val xs * val ys) from if_pos q12, show fitE (val xs * val ys) = 0 from if_pos q12] at M12
  rw [Nat.mul_comm (val ys), show fitL (val xs * val ys) = words (val xs * val ys) from if_pos q12, show fitE (val xs * val ys) = 0 from if_pos q12] at M21
  rw [show fitL (val ys + val zs) = words (val ys + val zs) from if_pos q23, show fitE (val ys + val zs) = 0 from if_pos q23] at S23
  rw [show fitL (val xs * val zs) = words (val xs * val zs) from if_pos q13, show fitE (val xs * val zs) = 0 from if_pos q13] at M13
  rw [val_words, show fitL (val xs * (val ys + val zs)) = words (val xs * (val ys + val zs)) from if_pos p1s, show fitE (val xs * (val ys + val zs)) = 0 from if_pos p1s] at M1s
  rw [val_words, val_words, ← Nat.mul_add, show fitL (val xs * (val ys + val zs)) = words (val xs * (val ys + val zs)) from if_pos p1s, show fitE (val xs * (val ys + val zs)) = 0 from if_pos p1s] at Sff
  have l12 : (words (val xs * val ys)).length ≤ 9223372036854775807 := Nat.le_trans ((words_len _ 64).2 q12) (by omega)
  have l1s : (words (val xs * (val ys + val zs))).length ≤ 9223372036854775807 := Nat.le_trans ((words_len _ 64).2 p1s) (by omega)
  have HA := Lib.hid ha
  have HB := Lib.hid hb
  have HC := Lib.hid hc
  have L12 := Lib.hid l12
  have L1s := Lib.hid l1s
  clear v1 v2 v3 p12 p13 s23 p1s up q12 q13 q23 l12 l1s ha hb hc r1 r2 r3
  go_enter Try.func6, Try.ntmps6
  go_wp2_with fail
  refine CA.out.mono ?_
  rintro e wa ⟨rfl, hBa⟩
  have HBa := Lib.hid hBa
  clear hBa CA
  go_wp2_with fail
  refine (M12.out wa (HA.out.below HBa.out) (HB.out.below HBa.out)).mono ?_
  rintro e w1 ⟨R1, c1, rfl, hW1, _, hB1⟩
  have HW1 := Lib.hid hW1
  have HB1 : Hid (Below w.heap.size w w1) := below_to HBa.out hB1
  clear hW1 hB1
  go_wp2_with fail
  refine (M21.out w1 (HA.out.below HB1.out) (HB.out.below HB1.out)).mono ?_
  rintro e w2 ⟨R2, c2, rfl, hW2, _, hB2⟩
  have HW2 := Lib.hid hW2
  have HB2 := Lib.hid hB2
  have B2 : Hid (Below w.heap.size w w2) := below_to HB1.out hB2
  clear hW2 hB2
  go_wp2_with fail
  refine (S23.out w2 (HB.out.below B2.out) (HC.out.below B2.out)).mono ?_
  rintro e w3 ⟨R3, c3, rfl, hW3, _, hB3⟩
  have HW3 := Lib.hid hW3
  have HB3 := Lib.hid hB3
  have B3 : Hid (Below w.heap.size w w3) := below_to B2.out hB3
  clear hW3 hB3
  go_wp2_with fail
  refine (M13.out w3 (HA.out.below B3.out) (HC.out.below B3.out)).mono ?_
  rintro e w4 ⟨R4, c4, rfl, hW4, _, hB4⟩
  have HW4 := Lib.hid hW4
  have HB4 := Lib.hid hB4
  have B4 : Hid (Below w.heap.size w w4) := below_to B3.out hB4
  clear hW4 hB4
  go_wp2_with fail
  refine (M1s.out w4 R3 c3 (HA.out.below B4.out) (HW3.out.below HB4.out)).mono ?_
  rintro e w5 ⟨R5, c5, rfl, hW5, _, hB5⟩
  have HW5 := Lib.hid hW5
  have HB5 := Lib.hid hB5
  have B5 : Hid (Below w.heap.size w w5) := below_to B4.out hB5
  clear hW5 hB5
  have B15 : Hid (Below w1.heap.size w1 w5) := below_to HB2.out (below_to HB3.out (below_to HB4.out HB5.out))
  go_wp2_with fail
  refine (Sff.out w5 R1 c1 R4 c4 (HW1.out.below B15.out) (HW4.out.below HB5.out)).mono ?_
  rintro e w6 ⟨R6, c6, rfl, hW6, _, hB6⟩
  have HW6 := Lib.hid hW6
  have HB6 := Lib.hid hB6
  have B6 : Hid (Below w.heap.size w w6) := below_to B5.out hB6
  clear hW6 hB6
  have B26 : Hid (Below w2.heap.size w2 w6) := below_to HB3.out (below_to HB4.out (below_to HB5.out HB6.out))
  have E1 := equal_any R1 R2 c1 c2 _ _ w6 (HW1.out.below (below_to HB2.out B26.out)) (HW2.out.below B26.out) L12.out L12.out
  rw [show decide (words (val xs * val ys) = words (val xs * val ys)) = true from by simp] at E1
  have D1 := Lib.hid E1
  clear E1
  go_wp2_with fail
  refine D1.out.mono ?_
  rintro e w7 ⟨rfl, hB7⟩
  have HB7 := Lib.hid hB7
  clear hB7
  have E2 := equal_any R5 R6 c5 c6 _ _ w7 (HW5.out.below (below_to HB6.out HB7.out)) (HW6.out.below HB7.out) L1s.out L1s.out
  rw [show decide (words (val xs * (val ys + val zs)) = words (val xs * (val ys + val zs))) = true from by simp] at E2
  have D2 := Lib.hid E2
  clear E2
  go_wp2_with fail
  refine D2.out.mono ?_
  rintro e w8 ⟨rfl, hB8⟩
  have HB8 := Lib.hid hB8
  clear hB8
  go_wp2
  go_ret
  exact ⟨rfl, below_to B6.out (below_to HB7.out HB8.out)⟩
end Go.Proofs.Ytfhbnolppahfhaa
