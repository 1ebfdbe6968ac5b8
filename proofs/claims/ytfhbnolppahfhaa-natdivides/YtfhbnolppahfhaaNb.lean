/- NatAdds, where both are numbers. -/
import Derived.Test.YtfhbnolppahfhaaNa
namespace Go.Proofs.Ytfhbnolppahfhaa
open Go.RowKit Go.Deep

/-- Sizes, behind names. -/
structure Sz5 (n : Nat) : Prop where
  out : n < Bh ^ 100000
structure Sz4 (n : Nat) : Prop where
  out : n < Bh ^ 400000
structure Sz9 (n : Nat) : Prop where
  out : n < Bh ^ 900000
structure S64 (n : Nat) : Prop where
  out : n < Bw ^ 64
theorem fitL_len (n : Nat) : (fitL n).length ≤ 9223372036854775807 := by
  unfold fitL
  by_cases h : n < Bw ^ 64
  · rw [if_pos h]; exact Nat.le_trans ((words_len n 64).2 h) (by omega)
  · rw [if_neg h]; simp
theorem small_sum {a b : Nat} (ha : a < Bw ^ 64) (hb : b < Bw ^ 64) : a + b < Bh ^ 100000 := by
  have h : a + b < Bw ^ 64 * Bw := by
    have : Bw ^ 64 * 2 ≤ Bw ^ 64 * Bw := Nat.mul_le_mul_left _ Bw_gt
    omega
  rw [← Nat.pow_succ, Bw_Bh] at h
  exact pow_up (b := 100000) h (by decide)
theorem small_prod {a b : Nat} (ha : a < Bw ^ 64) (hb : b < Bw ^ 64) : a * b < Bh ^ 100000 := by
  have h : a * b < Bw ^ 64 * Bw ^ 64 := by
    rcases Nat.eq_zero_or_pos b with e | e
    · subst e; rw [Nat.mul_zero]; exact Nat.mul_pos (Nat.pow_pos Bw_pos) (Nat.pow_pos Bw_pos)
    · exact Nat.lt_of_lt_of_le (Nat.mul_lt_mul_of_pos_right ha e) (Nat.mul_le_mul_left _ (Nat.le_of_lt hb))
  rw [← Nat.pow_add, Bw_Bh] at h
  exact pow_up (b := 100000) h (by decide)
theorem ordI_nat (x y : Nat) : ordI (x : Int) (y : Int) = ord x y := by
  unfold ordI ord
  by_cases h : x < y
  · rw [if_pos h, if_pos (by omega)]
  · rw [if_neg h, if_neg (by omega)]
    by_cases k : y < x
    · rw [if_pos k, if_pos (by omega)]
    · rw [if_neg k, if_neg (by omega)]

set_option maxRecDepth 100000 in
set_option maxHeartbeats 4000000 in
theorem natAdds_good (a0 a1 : Option Addr) (cap0 cap1 n : Nat) (xs ys : List Nat) (w : World) (ha : Wd w a0 xs) (hb : Wd w a1 ys) (hn : n < Bw) (r1 : rt xs = true) (r2 : rt ys = true) :
    Calls Try.prog 3 #[.slice a0 xs.length cap0, .slice a1 ys.length cap1, .int .u64 (n : Int)] w fun e w' => e = .returned (.bool true) ∧ Below w.heap.size w w' := by
  have l1 := ((rt_iff _).1 r1).1
  have l2 := ((rt_iff _).1 r2).1
  have vx := val_of_rt ha.1 r1
  have vy := val_of_rt hb.1 r2
  have HA := Lib.hid ha
  have HB := Lib.hid hb
  have HN := Lib.hid hn
  have R1 := Lib.hid r1
  have R2 := Lib.hid r2
  have L1 := Lib.hid l1
  have L2 := Lib.hid l2
  have VX : Hid (S64 (val xs)) := Lib.hid ⟨vx⟩
  have SADD : Hid (Sz5 (val xs + val ys)) := Lib.hid ⟨small_sum vx vy⟩
  have SMUL : Hid (Sz5 (val xs * val ys)) := Lib.hid ⟨small_prod vx vy⟩
  have BX4 : Hid (Sz4 ((val xs : Nat) : Int).natAbs) := Lib.hid ⟨by rw [Int.natAbs_natCast]; exact small_of vx (by omega)⟩
  have BY4 : Hid (Sz4 ((val ys : Nat) : Int).natAbs) := Lib.hid ⟨by rw [Int.natAbs_natCast]; exact small_of vy (by omega)⟩
  have BX : Hid (Sz9 ((val xs : Nat) : Int).natAbs) := Lib.hid ⟨small_up BX4.out.out⟩
  have BY : Hid (Sz9 ((val ys : Nat) : Int).natAbs) := Lib.hid ⟨small_up BY4.out.out⟩
  have C1 := Lib.hid (cmp_any a0 a1 cap0 cap1 xs ys w ha hb r1 r2)
  clear ha hb hn r1 r2 l1 l2 vx vy
  have hrr : (rt xs != rt xs) = false := by simp
  go_enter Try.func3, Try.ntmps3
  go_wp2_with fail
  refine C1.out.mono ?_
  rintro e w1 ⟨rfl, h1⟩
  have T1 := Lib.hid h1
  have C2 := Lib.hid (add_any a0 a1 cap0 cap1 xs ys w1 (HA.out.below T1.out) (HB.out.below T1.out) R1.out R2.out)
  clear h1 C1
  go_wp2_with fail
  refine C2.out.mono ?_
  rintro e w2 ⟨Q2, c2, rfl, s2, _, h2⟩
  have T2 : Hid (Below w.heap.size w w2) := T1.out.trans (h2.mono T1.out.size)
  have S2 := Lib.hid s2
  have C3 := Lib.hid (sub_good a0 a1 cap0 cap1 xs ys w2 (HA.out.below T2.out) (HB.out.below T2.out) R1.out R2.out)
  clear h2 s2 C2
  go_wp2_with fail
  refine C3.out.mono ?_
  rintro e w3 ⟨Q3, c3, rfl, d3, h3⟩
  have T3 : Hid (Below w.heap.size w w3) := T2.out.trans (h3.mono T2.out.size)
  have S3 := Lib.hid (S2.out.below h3)
  have D3 := Lib.hid d3
  have C4 := Lib.hid (mul_any a0 a1 cap0 cap1 xs ys w3 (HA.out.below T3.out) (HB.out.below T3.out) R1.out R2.out)
  clear h3 d3 C3
  go_wp2_with fail
  refine C4.out.mono ?_
  rintro e w4 ⟨Q4, c4, rfl, p4, _, h4⟩
  have T4 : Hid (Below w.heap.size w w4) := T3.out.trans (h4.mono T3.out.size)
  have S4 := Lib.hid (S3.out.below h4)
  have D4 := Lib.hid (D3.out.below h4)
  have P4 := Lib.hid p4
  have C5 := Lib.hid (right_any a0 cap0 xs w4 (HA.out.below T4.out) (Nat.le_trans L1.out (by omega)))
  have C6 := Lib.hid (aright_any a0 cap0 xs w4 (HA.out.below T4.out) (Nat.le_trans L1.out (by omega)))
  have C7 := Lib.hid (of_any n w4 HN.out)
  clear h4 p4 C4
  go_wp2_with fail
  refine C5.out.mono ?_
  rintro e w' ⟨rfl, rfl⟩
  go_wp2_with fail
  refine C6.out.mono ?_
  rintro e w' ⟨rfl, rfl⟩
  go_wp2_with fail
  refine C7.out.mono ?_
  rintro e w5 ⟨Q5, c5, rfl, o5, _, h5⟩
  have T5 : Hid (Below w.heap.size w w5) := T4.out.trans (h5.mono T4.out.size)
  have S5 := Lib.hid (S4.out.below h5)
  have D5 := Lib.hid (D4.out.below h5)
  have P5 := Lib.hid (P4.out.below h5)
  have O5 := Lib.hid o5
  have C8 := Lib.hid (newU n w5 HN.out)
  clear h5 o5 C5 C6 C7
  go_wp2_with fail
  refine C8.out.mono ?_
  rintro e w6 ⟨rfl, i6, h6⟩
  have T6 : Hid (Below w.heap.size w w6) := T5.out.trans (h6.mono T5.out.size)
  have S6 := Lib.hid (S5.out.below h6)
  have D6 := Lib.hid (D5.out.below h6)
  have P6 := Lib.hid (P5.out.below h6)
  have hlw : (words n).length ≤ 9223372036854775807 := Nat.le_trans ((words_len n 1).2 (by simpa using HN.out)) (by omega)
  have C9 := Lib.hid (same_any Q5 c5 (words n) 0 w5.heap.size n w6 (O5.out.below h6) hlw i6 (small1 HN.out) (fit_small HN.out).2.symm (fit_small HN.out).1.symm)
  clear h6 i6 C8 hlw
  go_wp2_with fail
  refine C9.out.mono ?_
  rintro e w7 ⟨rfl, h7⟩
  have T7 : Hid (Below w.heap.size w w7) := T6.out.trans (h7.mono T6.out.size)
  have S7 := Lib.hid (S6.out.below h7)
  have D7 := Lib.hid (D6.out.below h7)
  have P7 := Lib.hid (P6.out.below h7)
  have E1 := aright_any a0 cap0 xs w7 (HA.out.below T7.out) (Nat.le_trans L1.out (by omega))
  have E2 := aright_any a1 cap1 ys w7 (HB.out.below T7.out) (Nat.le_trans L2.out (by omega))
  rw [R1.out] at E1
  rw [R2.out] at E2
  have F1 := Lib.hid E1
  have F2 := Lib.hid E2
  have C10 := Lib.hid (abig_any a0 cap0 xs w7 (HA.out.below T7.out) L1.out)
  clear h7 C9 E1 E2
  go_wp2_with fail
  refine F1.out.mono ?_
  rintro e w' ⟨rfl, rfl⟩
  go_wp2_with fail
  refine F2.out.mono ?_
  rintro e w' ⟨rfl, rfl⟩
  go_wp2_with fail
  refine C10.out.mono ?_
  rintro e w8 ⟨rfl, i8, h8⟩
  have T8 : Hid (Below w.heap.size w w8) := T7.out.trans (h8.mono T7.out.size)
  have S8 := Lib.hid (S7.out.below h8)
  have D8 := Lib.hid (D7.out.below h8)
  have P8 := Lib.hid (P7.out.below h8)
  have X8 := Lib.hid i8
  have C11 := Lib.hid (abig_any a1 cap1 ys w8 (HB.out.below T8.out) L2.out)
  clear h8 i8 C10 F1 F2
  go_wp2_with fail
  refine C11.out.mono ?_
  rintro e w9 ⟨rfl, i9, h9⟩
  have T9 : Hid (Below w.heap.size w w9) := T8.out.trans (h9.mono T8.out.size)
  have S9 := Lib.hid (S8.out.below h9)
  have D9 := Lib.hid (D8.out.below h9)
  have P9 := Lib.hid (P8.out.below h9)
  have X9 := Lib.hid (X8.out.below h9)
  have Y9 := Lib.hid i9
  have C12 := icmp_any w7.heap.size w8.heap.size _ _ w9 X9.out Y9.out BX.out.out BY.out.out
  have HC12 := Lib.hid C12
  clear h9 i9 C11 C12
  go_wp2_with fail
  refine HC12.out.mono ?_
  rintro e w10 ⟨rfl, h10⟩
  have T10 : Hid (Below w.heap.size w w10) := T9.out.trans (h10.mono T9.out.size)
  have S10 := Lib.hid (S9.out.below h10)
  have D10 := Lib.hid (D9.out.below h10)
  have P10 := Lib.hid (P9.out.below h10)
  have X10 := Lib.hid (X9.out.below h10)
  have Y10 := Lib.hid (Y9.out.below h10)
  obtain ⟨o, ho⟩ : ∃ o, o = ord (val xs) (val ys) := ⟨_, rfl⟩
  have OI : Hid (ordI ((val xs : Nat) : Int) ((val ys : Nat) : Int) = o) := by show _ = o; rw [ordI_nat, ho]
  have hoo : (o == o) = true := by simp
  rw [OI.out, ← ho]
  have HO := Lib.hid ho
  clear h10 HC12 ho
  by_cases hv : val ys ≤ val xs
  · have ho0 : 0 ≤ o := by rw [HO.out]; unfold ord; rw [if_neg (by omega)]; split <;> decide
    have e1 : subL (val xs) (val ys) = words (val xs - val ys) := if_pos hv
    have e2 : subE (val xs) (val ys) = 0 := if_pos hv
    rw [e1] at D10
    rw [e1, e2]
    have hd : val xs - val ys < Bw ^ 64 := Nat.lt_of_le_of_lt (Nat.sub_le _ _) VX.out.out
    have HD : Hid (S64 (val xs - val ys)) := Lib.hid ⟨hd⟩
    have C11 := newSub w7.heap.size w8.heap.size _ _ w10 X10.out Y10.out BX.out.out BY.out.out
    rw [← Int.natCast_sub hv] at C11
    have HC11 := Lib.hid C11
    clear e1 e2 hv hd C11
    go_wp2_with fail
    refine HC11.out.mono ?_
    rintro e w11 ⟨rfl, i11, h11⟩
    have T11 : Hid (Below w.heap.size w w11) := T10.out.trans (h11.mono T10.out.size)
    have S11 := Lib.hid (S10.out.below h11)
    have P11 := Lib.hid (P10.out.below h11)
    have X11 := Lib.hid (X10.out.below h11)
    have Y11 := Lib.hid (Y10.out.below h11)
    have hlw : (words (val xs - val ys)).length ≤ 9223372036854775807 := Nat.le_trans ((words_len _ 64).2 HD.out.out) (by omega)
    have C12 := Lib.hid (same_any Q3 c3 (words (val xs - val ys)) 0 w10.heap.size (val xs - val ys) w11 (D10.out.below h11) hlw i11 (pow_up (b := 100000) (by have := HD.out.out; rw [Bw_Bh] at this; exact this) (by decide)) (if_pos HD.out.out).symm (if_pos HD.out.out).symm)
    clear h11 i11 HC11 hlw
    go_wp2_with fail
    refine C12.out.mono ?_
    rintro e w12 ⟨rfl, h12⟩
    have T12 : Hid (Below w.heap.size w w12) := T11.out.trans (h12.mono T11.out.size)
    have S12 := Lib.hid (S11.out.below h12)
    have P12 := Lib.hid (P11.out.below h12)
    have X12 := Lib.hid (X11.out.below h12)
    have Y12 := Lib.hid (Y11.out.below h12)
    clear h12 C12
    have C13 := Lib.hid (icmp_any w7.heap.size w8.heap.size _ _ w12 X12.out Y12.out BX.out.out BY.out.out)
    go_wp2_with fail
    refine C13.out.mono ?_
    rintro e w13 ⟨rfl, h13⟩
    rw [OI.out]
    have T13 : Hid (Below w.heap.size w w13) := T12.out.trans (h13.mono T12.out.size)
    have S13 : Hid (Wd w13 Q2 (fitL (val xs + val ys))) := S12.out.below h13
    have P13 : Hid (Wd w13 Q4 (fitL (val xs * val ys))) := P12.out.below h13
    have X13 := Lib.hid (X12.out.below h13)
    have Y13 := Lib.hid (Y12.out.below h13)
    have C14 := Lib.hid (newAdd w7.heap.size w8.heap.size _ _ w13 X13.out Y13.out BX.out.out BY.out.out)
    clear h13 C13
    go_wp2_with fail
    refine C14.out.mono ?_
    rintro e w14 ⟨rfl, i14, h14⟩
    have T14 : Hid (Below w.heap.size w w14) := T13.out.trans (h14.mono T13.out.size)
    have P14 : Hid (Wd w14 Q4 (fitL (val xs * val ys))) := P13.out.below h14
    have X14 := Lib.hid (X13.out.below h14)
    have Y14 := Lib.hid (Y13.out.below h14)
    rw [← Int.natCast_add] at i14
    have C15 := Lib.hid (same_any Q2 c2 (fitL (val xs + val ys)) (fitE (val xs + val ys)) w13.heap.size (val xs + val ys) w14 (S13.out.below h14) (fitL_len _) i14 SADD.out.out rfl rfl)
    clear h14 i14 C14
    go_wp2_with fail
    refine C15.out.mono ?_
    rintro e w15 ⟨rfl, h15⟩
    have T15 : Hid (Below w.heap.size w w15) := T14.out.trans (h15.mono T14.out.size)
    have P15 : Hid (Wd w15 Q4 (fitL (val xs * val ys))) := P14.out.below h15
    have C16 := Lib.hid (newMul w7.heap.size w8.heap.size _ _ w15 (X14.out.below h15) (Y14.out.below h15) BX4.out.out BY4.out.out)
    clear h15 C15
    go_wp2_with fail
    refine C16.out.mono ?_
    rintro e w16 ⟨rfl, i16, h16⟩
    have T16 : Hid (Below w.heap.size w w16) := T15.out.trans (h16.mono T15.out.size)
    rw [← Int.natCast_mul] at i16
    have C17 := Lib.hid (same_any Q4 c4 (fitL (val xs * val ys)) (fitE (val xs * val ys)) w15.heap.size (val xs * val ys) w16 (P15.out.below h16) (fitL_len _) i16 SMUL.out.out rfl rfl)
    clear h16 i16 C16
    go_wp2_with fail
    refine C17.out.mono ?_
    rintro e w17 ⟨rfl, h17⟩
    have T17 : Hid (Below w.heap.size w w17) := T16.out.trans (h17.mono T16.out.size)
    clear h17
    go_wp2
    go_ret
    exact ⟨rfl, T17.out⟩
  · have ho0 : o < 0 := by rw [HO.out, ord_lt (by omega)]; decide
    have e1 : subL (val xs) (val ys) = [] := if_neg hv
    have e2 : subE (val xs) (val ys) = 2 := if_neg hv
    rw [e1, e2]
    simp only [List.length_nil]
    clear e1 e2 hv
    have C13 := Lib.hid (icmp_any w7.heap.size w8.heap.size _ _ w10 X10.out Y10.out BX.out.out BY.out.out)
    go_wp2_with fail
    refine C13.out.mono ?_
    rintro e w13 ⟨rfl, h13⟩
    rw [OI.out]
    have T13 : Hid (Below w.heap.size w w13) := T10.out.trans (h13.mono T10.out.size)
    have S13 : Hid (Wd w13 Q2 (fitL (val xs + val ys))) := S10.out.below h13
    have P13 : Hid (Wd w13 Q4 (fitL (val xs * val ys))) := P10.out.below h13
    have X13 := Lib.hid (X10.out.below h13)
    have Y13 := Lib.hid (Y10.out.below h13)
    have C14 := Lib.hid (newAdd w7.heap.size w8.heap.size _ _ w13 X13.out Y13.out BX.out.out BY.out.out)
    clear h13 C13
    go_wp2_with fail
    refine C14.out.mono ?_
    rintro e w14 ⟨rfl, i14, h14⟩
    have T14 : Hid (Below w.heap.size w w14) := T13.out.trans (h14.mono T13.out.size)
    have P14 : Hid (Wd w14 Q4 (fitL (val xs * val ys))) := P13.out.below h14
    have X14 := Lib.hid (X13.out.below h14)
    have Y14 := Lib.hid (Y13.out.below h14)
    rw [← Int.natCast_add] at i14
    have C15 := Lib.hid (same_any Q2 c2 (fitL (val xs + val ys)) (fitE (val xs + val ys)) w13.heap.size (val xs + val ys) w14 (S13.out.below h14) (fitL_len _) i14 SADD.out.out rfl rfl)
    clear h14 i14 C14
    go_wp2_with fail
    refine C15.out.mono ?_
    rintro e w15 ⟨rfl, h15⟩
    have T15 : Hid (Below w.heap.size w w15) := T14.out.trans (h15.mono T14.out.size)
    have P15 : Hid (Wd w15 Q4 (fitL (val xs * val ys))) := P14.out.below h15
    have C16 := Lib.hid (newMul w7.heap.size w8.heap.size _ _ w15 (X14.out.below h15) (Y14.out.below h15) BX4.out.out BY4.out.out)
    clear h15 C15
    go_wp2_with fail
    refine C16.out.mono ?_
    rintro e w16 ⟨rfl, i16, h16⟩
    have T16 : Hid (Below w.heap.size w w16) := T15.out.trans (h16.mono T15.out.size)
    rw [← Int.natCast_mul] at i16
    have C17 := Lib.hid (same_any Q4 c4 (fitL (val xs * val ys)) (fitE (val xs * val ys)) w15.heap.size (val xs * val ys) w16 (P15.out.below h16) (fitL_len _) i16 SMUL.out.out rfl rfl)
    clear h16 i16 C16
    go_wp2_with fail
    refine C17.out.mono ?_
    rintro e w17 ⟨rfl, h17⟩
    have T17 : Hid (Below w.heap.size w w17) := T16.out.trans (h17.mono T16.out.size)
    clear h17
    go_wp2
    go_ret
    exact ⟨rfl, T17.out⟩
end Go.Proofs.Ytfhbnolppahfhaa
