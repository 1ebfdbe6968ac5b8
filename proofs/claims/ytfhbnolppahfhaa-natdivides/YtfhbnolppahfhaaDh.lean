/- lotdrawerlaw.NatDivides, where parts keeps its word. -/
import Derived.Test.YtfhbnolppahfhaaDg
import Derived.Test.YtfhbnolppahfhaaW9
import Derived.Deep.DeepFit
namespace Go.Proofs.Ytfhbnolppahfhaa
open Go.RowKit Go.Deep

/-- What nat.Div answers, whatever it is given. -/
def DivOut (xs : List Nat) (b : Nat) (w : World) (e : Ending) (w' : World) : Prop :=
  ∃ R zs c, ∃ rr : Nat, ∃ ee : Int, e = .returned (.tuple #[.slice R zs.length c, .int .u64 (rr : Int), .int .i64 ee]) ∧ Wd w' R zs ∧ Below w.heap.size w w' ∧
    ((rt xs = false ∧ zs = [] ∧ rr = 0 ∧ ee = 1) ∨ (rt xs = true ∧ b = 0 ∧ zs = [] ∧ rr = 0 ∧ ee = 2) ∨ (rt xs = true ∧ 0 < b ∧ zs = words (val xs / b) ∧ rr = val xs % b ∧ ee = 0))
theorem div_out (A : Option Addr) (ca b : Nat) (xs : List Nat) (w : World) (ha : Wd w A xs) (hla : xs.length ≤ 9223372036854775807) (hb : b < Bw) :
    Calls Try.prog 23 #[.slice A xs.length ca, .int .u64 (b : Int)] w fun e w' => DivOut xs b w e w' := by
  cases hr : rt xs
  · refine (div_bad A ca b xs w ha hla hr).mono ?_
    rintro e w' ⟨rfl, rfl⟩
    exact ⟨none, [], 0, 0, 1, rfl, Wd.nil, Below.refl _ _, .inl ⟨hr, rfl, rfl, rfl⟩⟩
  · rcases Nat.eq_zero_or_pos b with rfl | hp
    · refine (div_zero A ca xs w ha hla hr).mono ?_
      rintro e w' ⟨rfl, rfl⟩
      exact ⟨none, [], 0, 0, 2, rfl, Wd.nil, Below.refl _ _, .inr (.inl ⟨hr, rfl, rfl, rfl, rfl⟩)⟩
    · refine (div_any A ca b xs w ha hr hp hb).mono ?_
      rintro e w' ⟨R, c, rfl, h1, h2, h3⟩
      exact ⟨R, _, c, _, 0, rfl, h1, h3, .inr (.inr ⟨hr, hp, rfl, rfl, rfl⟩)⟩
theorem sz64 {n : Nat} (h : n < Bw ^ 64) : Sz5 n := ⟨pow_up (a := 2 * 64) (b := 100000) (by rw [Bw_Bh] at h; exact h) (by decide)⟩

set_option maxRecDepth 100000 in
set_option maxHeartbeats 4000000 in
theorem natDivides_any (a0 : Option Addr) (cap0 b n : Nat) (many : Int) (xs : List Nat) (w : World) (ha : Wd w a0 xs) (hla : xs.length ≤ 9223372036854775807) (hb : b < Bw) (hn : n < Bw)
    (HPO : Hid (rt xs = true → 0 < b → 3 ≤ (H.words (val xs)).length → PartsOk (val xs) b)) :
    Calls Try.prog 4 #[.slice a0 xs.length cap0, .int .u64 (b : Int), .int .u64 (n : Int), .int .i64 many] w fun e w' => e = .returned (.bool true) ∧ Below w.heap.size w w' := by
  have C1 := Lib.hid (div_out a0 cap0 b xs w ha hla hb)
  have HA := Lib.hid ha
  have HB := Lib.hid hb
  have HN := Lib.hid hn
  have HL := Lib.hid hla
  clear ha hb hn hla
  by_cases hm : 0 ≤ many ∧ many ≤ 300
  · obtain ⟨k, rfl⟩ := Int.eq_ofNat_of_zero_le hm.1
    have hk : k ≤ 300 := by omega
    clear hm
    go_enter Try.func4, Try.ntmps4
    go_wp2_with fail
    refine C1.out.mono ?_
    rintro e w1 ⟨R, zs, c, rr, ee, rfl, hW, hB1, hcase⟩
    have T1 := Lib.hid hB1
    have W1 := Lib.hid hW
    have HC := Lib.hid hcase
    have C2 := Lib.hid (falling_any n k w1 HN.out hk)
    clear hW hB1 hcase C1
    go_wp2_with fail
    refine C2.out.mono ?_
    rintro e w2 ⟨R2, c2, rfl, f2, h2⟩
    have T2 : Hid (Below w.heap.size w w2) := T1.out.trans (h2.mono T1.out.size)
    have W2 := Lib.hid (W1.out.below h2)
    have F2 := Lib.hid f2
    have C3 := Lib.hid (afalling_any n k w2 HN.out hk)
    clear f2 h2 C2
    go_wp2_with fail
    refine C3.out.mono ?_
    rintro e w3 ⟨g3, rfl, i3, h3⟩
    have T3 : Hid (Below w.heap.size w w3) := T2.out.trans (h3.mono T2.out.size)
    have W3 := Lib.hid (W2.out.below h3)
    have C4 := Lib.hid (same_any R2 c2 (fitL (fall n k)) (fitE (fall n k)) g3 (fall n k) w3 (F2.out.below h3) (fitL_len _) i3 (fall_sz HN.out hk).out rfl rfl)
    clear i3 h3 C3 F2
    go_wp2_with fail
    refine C4.out.mono ?_
    rintro e wt ⟨rfl, h4⟩
    have T4 : Hid (Below w.heap.size w wt) := T3.out.trans (h4.mono T3.out.size)
    have WT := Lib.hid (W3.out.below h4)
    clear h4 C4 hk
    have E1 := aright_any a0 cap0 xs wt (HA.out.below T4.out) HL.out
    rcases HC.out with ⟨q1, rfl, rfl, rfl⟩ | ⟨q1, rfl, rfl, rfl, rfl⟩ | ⟨q1, q2, rfl, hrr, rfl⟩
    · rw [q1] at E1
      have F1 := Lib.hid E1
      clear E1 q1 HC WT
      go_wp2_with fail
      refine F1.out.mono ?_
      rintro e w' ⟨rfl, rfl⟩
      go_wp2
      go_ret
      exact ⟨rfl, T4.out⟩
    · rw [q1] at E1
      have F1 := Lib.hid E1
      clear E1 q1 HC WT
      go_wp2_with fail
      refine F1.out.mono ?_
      rintro e w' ⟨rfl, rfl⟩
      go_wp2
      go_ret
      exact ⟨rfl, T4.out⟩
    · rw [q1] at E1
      have F1 := Lib.hid E1
      have L1 := ((rt_iff _).1 q1).1
      have vx := val_of_rt HA.out.1 q1
      have SX : Hid (Sz5 (val xs)) := Lib.hid (sz64 vx)
      have VX : Hid (S64 (val xs)) := Lib.hid ⟨vx⟩
      have PO := Lib.hid (HPO.out q1 q2)
      have HRR := Lib.hid hrr
      have hbz := eqz_no (x := b) (by omega)
      have C5 := Lib.hid (abig_any a0 cap0 xs (wt.alloc (.cells #[.bool false, .slice none 0 0] 35)) ((HA.out.below T4.out).below (below_hdr wt)) L1)
      clear E1 q1 HC L1 vx hrr
      go_wp2_with fail
      refine F1.out.mono ?_
      rintro e w' ⟨rfl, rfl⟩
      go_wp2_with fail
      go_fit (C5.out)
      rintro e w5 ⟨rfl, i5, h5⟩
      have U5 : Hid (Below wt.heap.size wt w5) := (below_hdr wt).trans (h5.mono (below_hdr wt).size)
      have s5 : (wt.alloc (.cells #[.bool false, .slice none 0 0] 35)).heap.size = wt.heap.size + 1 := by simp
      rw [s5] at i5
      have X5 := Lib.hid i5
      have G5 : Hid (IsH w5 wt.heap.size) := (IsI.new wt).hd.below h5
      have C6 := Lib.hid (newU b w5 HB.out)
      clear i5 h5 C5 F1 s5
      go_wp2_with fail
      go_fit (C6.out)
      rintro e w6 ⟨rfl, i6, h6⟩
      have U6 : Hid (Below wt.heap.size wt w6) := U5.out.trans (h6.mono U5.out.size)
      have hal := below_hdr w6
      have U7 : Hid (Below wt.heap.size wt (w6.alloc (.cells #[.bool false, .slice none 0 0] 35))) := U6.out.trans (hal.mono U6.out.size)
      have l5 := X5.out.lt
      have l6 := i6.lt
      have C7 := Lib.hid (divmod_any wt.heap.size (wt.heap.size + 1) w5.heap.size w6.heap.size (val xs) b _ ((G5.out.below h6).below hal) (IsI.new w6).hd ((X5.out.below h6).below hal) (i6.below hal) (by omega) (by omega) (by omega) SX.out.nine (sz_word HB.out).nine q2 PO.out)
      have lts : Hid (wt.heap.size ≤ w6.heap.size) := U6.out.size
      clear i6 h6 C6 hal l5 l6 G5 X5
      go_wp2_with fail
      go_fit (C7.out)
      rintro e w8 ⟨rfl, i8, j8, h8⟩
      have U8 := Lib.hid (h8 wt.heap.size wt U7.out U7.out.size (Nat.le_refl _) lts.out)
      have hdv : val xs / b < Bw ^ 64 := Nat.lt_of_le_of_lt (Nat.div_le_self _ _) VX.out.out
      have hlw : (words (val xs / b)).length ≤ 9223372036854775807 := Nat.le_trans ((words_len _ 64).2 hdv) (by omega)
      have C8 := Lib.hid (same_any R c (words (val xs / b)) 0 wt.heap.size (val xs / b) w8 (WT.out.below U8.out) hlw i8 (sz64 hdv).out (if_pos hdv).symm (if_pos hdv).symm)
      have J8 := Lib.hid j8
      clear i8 j8 h8 C7 hdv hlw
      go_wp2_with fail
      go_fit (C8.out)
      rintro e w9 ⟨rfl, h9⟩
      have U9 : Hid (Below wt.heap.size wt w9) := U8.out.trans (h9.mono U8.out.size)
      have hmb : val xs % b < Bw := Nat.lt_trans (Nat.mod_lt _ q2) HB.out
      have C9 := iuint_any w6.heap.size (val xs % b) w9 (J8.out.below h9) (sz_word hmb).nine.out
      rw [show val xs % b % 18446744073709551616 = val xs % b from Nat.mod_eq_of_lt hmb] at C9
      rw [← HRR.out] at C9
      have HC9 := Lib.hid C9
      have hMM : ((rr : Int) == (rr : Int)) = true := by simp
      clear h9 C8 hmb C9 J8
      go_wp2_with fail
      refine HC9.out.mono ?_
      rintro e w' ⟨rfl, rfl⟩
      go_wp2
      go_ret
      exact ⟨rfl, T4.out.trans (U9.out.mono T4.out.size)⟩
  · have hm' : many < 0 ∨ 300 < many := by omega
    have C2 : Hid (∀ w1, Calls Try.prog 24 #[.int .u64 (n : Int), .int .i64 many] w1 fun e w' => e = .returned (.tuple #[.slice none 0 0, .int .i64 2]) ∧ w1 = w') := fun w1 => falling_bad n many w1 hm'
    clear hm
    go_enter Try.func4, Try.ntmps4
    go_wp2_with fail
    refine C1.out.mono ?_
    rintro e wt ⟨R, zs, c, rr, ee, rfl, hW, hB1, hcase⟩
    have T4 := Lib.hid hB1
    have WT := Lib.hid hW
    have HC := Lib.hid hcase
    clear hW hB1 hcase C1
    go_wp2_with fail
    refine (C2.out wt).mono ?_
    rintro e w' ⟨rfl, rfl⟩
    rcases hm' with hm1 | hm1
    · have E1 := aright_any a0 cap0 xs wt (HA.out.below T4.out) HL.out
      rcases HC.out with ⟨q1, rfl, rfl, rfl⟩ | ⟨q1, rfl, rfl, rfl, rfl⟩ | ⟨q1, q2, rfl, hrr, rfl⟩
      · rw [q1] at E1
        have F1 := Lib.hid E1
        clear E1 q1 HC WT
        go_wp2_with fail
        refine F1.out.mono ?_
        rintro e w' ⟨rfl, rfl⟩
        go_wp2
        go_ret
        exact ⟨rfl, T4.out⟩
      · rw [q1] at E1
        have F1 := Lib.hid E1
        clear E1 q1 HC WT
        go_wp2_with fail
        refine F1.out.mono ?_
        rintro e w' ⟨rfl, rfl⟩
        go_wp2
        go_ret
        exact ⟨rfl, T4.out⟩
      · rw [q1] at E1
        have F1 := Lib.hid E1
        have L1 := ((rt_iff _).1 q1).1
        have vx := val_of_rt HA.out.1 q1
        have SX : Hid (Sz5 (val xs)) := Lib.hid (sz64 vx)
        have VX : Hid (S64 (val xs)) := Lib.hid ⟨vx⟩
        have PO := Lib.hid (HPO.out q1 q2)
        have HRR := Lib.hid hrr
        have hbz := eqz_no (x := b) (by omega)
        have C5 := Lib.hid (abig_any a0 cap0 xs (wt.alloc (.cells #[.bool false, .slice none 0 0] 35)) ((HA.out.below T4.out).below (below_hdr wt)) L1)
        clear E1 q1 HC L1 vx hrr
        go_wp2_with fail
        refine F1.out.mono ?_
        rintro e w' ⟨rfl, rfl⟩
        go_wp2_with fail
        go_fit (C5.out)
        rintro e w5 ⟨rfl, i5, h5⟩
        have U5 : Hid (Below wt.heap.size wt w5) := (below_hdr wt).trans (h5.mono (below_hdr wt).size)
        have s5 : (wt.alloc (.cells #[.bool false, .slice none 0 0] 35)).heap.size = wt.heap.size + 1 := by simp
        rw [s5] at i5
        have X5 := Lib.hid i5
        have G5 : Hid (IsH w5 wt.heap.size) := (IsI.new wt).hd.below h5
        have C6 := Lib.hid (newU b w5 HB.out)
        clear i5 h5 C5 F1 s5
        go_wp2_with fail
        go_fit (C6.out)
        rintro e w6 ⟨rfl, i6, h6⟩
        have U6 : Hid (Below wt.heap.size wt w6) := U5.out.trans (h6.mono U5.out.size)
        have hal := below_hdr w6
        have U7 : Hid (Below wt.heap.size wt (w6.alloc (.cells #[.bool false, .slice none 0 0] 35))) := U6.out.trans (hal.mono U6.out.size)
        have l5 := X5.out.lt
        have l6 := i6.lt
        have C7 := Lib.hid (divmod_any wt.heap.size (wt.heap.size + 1) w5.heap.size w6.heap.size (val xs) b _ ((G5.out.below h6).below hal) (IsI.new w6).hd ((X5.out.below h6).below hal) (i6.below hal) (by omega) (by omega) (by omega) SX.out.nine (sz_word HB.out).nine q2 PO.out)
        have lts : Hid (wt.heap.size ≤ w6.heap.size) := U6.out.size
        clear i6 h6 C6 hal l5 l6 G5 X5
        go_wp2_with fail
        go_fit (C7.out)
        rintro e w8 ⟨rfl, i8, j8, h8⟩
        have U8 := Lib.hid (h8 wt.heap.size wt U7.out U7.out.size (Nat.le_refl _) lts.out)
        have hdv : val xs / b < Bw ^ 64 := Nat.lt_of_le_of_lt (Nat.div_le_self _ _) VX.out.out
        have hlw : (words (val xs / b)).length ≤ 9223372036854775807 := Nat.le_trans ((words_len _ 64).2 hdv) (by omega)
        have C8 := Lib.hid (same_any R c (words (val xs / b)) 0 wt.heap.size (val xs / b) w8 (WT.out.below U8.out) hlw i8 (sz64 hdv).out (if_pos hdv).symm (if_pos hdv).symm)
        have J8 := Lib.hid j8
        clear i8 j8 h8 C7 hdv hlw
        go_wp2_with fail
        go_fit (C8.out)
        rintro e w9 ⟨rfl, h9⟩
        have U9 : Hid (Below wt.heap.size wt w9) := U8.out.trans (h9.mono U8.out.size)
        have hmb : val xs % b < Bw := Nat.lt_trans (Nat.mod_lt _ q2) HB.out
        have C9 := iuint_any w6.heap.size (val xs % b) w9 (J8.out.below h9) (sz_word hmb).nine.out
        rw [show val xs % b % 18446744073709551616 = val xs % b from Nat.mod_eq_of_lt hmb] at C9
        rw [← HRR.out] at C9
        have HC9 := Lib.hid C9
        have hMM : ((rr : Int) == (rr : Int)) = true := by simp
        clear h9 C8 hmb C9 J8
        go_wp2_with fail
        refine HC9.out.mono ?_
        rintro e w' ⟨rfl, rfl⟩
        go_wp2
        go_ret
        exact ⟨rfl, T4.out.trans (U9.out.mono T4.out.size)⟩
    · have hm2 : ¬ many < 0 := by omega
      have E1 := aright_any a0 cap0 xs wt (HA.out.below T4.out) HL.out
      rcases HC.out with ⟨q1, rfl, rfl, rfl⟩ | ⟨q1, rfl, rfl, rfl, rfl⟩ | ⟨q1, q2, rfl, hrr, rfl⟩
      · rw [q1] at E1
        have F1 := Lib.hid E1
        clear E1 q1 HC WT
        go_wp2_with fail
        refine F1.out.mono ?_
        rintro e w' ⟨rfl, rfl⟩
        go_wp2
        go_ret
        exact ⟨rfl, T4.out⟩
      · rw [q1] at E1
        have F1 := Lib.hid E1
        clear E1 q1 HC WT
        go_wp2_with fail
        refine F1.out.mono ?_
        rintro e w' ⟨rfl, rfl⟩
        go_wp2
        go_ret
        exact ⟨rfl, T4.out⟩
      · rw [q1] at E1
        have F1 := Lib.hid E1
        have L1 := ((rt_iff _).1 q1).1
        have vx := val_of_rt HA.out.1 q1
        have SX : Hid (Sz5 (val xs)) := Lib.hid (sz64 vx)
        have VX : Hid (S64 (val xs)) := Lib.hid ⟨vx⟩
        have PO := Lib.hid (HPO.out q1 q2)
        have HRR := Lib.hid hrr
        have hbz := eqz_no (x := b) (by omega)
        have C5 := Lib.hid (abig_any a0 cap0 xs (wt.alloc (.cells #[.bool false, .slice none 0 0] 35)) ((HA.out.below T4.out).below (below_hdr wt)) L1)
        clear E1 q1 HC L1 vx hrr
        go_wp2_with fail
        refine F1.out.mono ?_
        rintro e w' ⟨rfl, rfl⟩
        go_wp2_with fail
        go_fit (C5.out)
        rintro e w5 ⟨rfl, i5, h5⟩
        have U5 : Hid (Below wt.heap.size wt w5) := (below_hdr wt).trans (h5.mono (below_hdr wt).size)
        have s5 : (wt.alloc (.cells #[.bool false, .slice none 0 0] 35)).heap.size = wt.heap.size + 1 := by simp
        rw [s5] at i5
        have X5 := Lib.hid i5
        have G5 : Hid (IsH w5 wt.heap.size) := (IsI.new wt).hd.below h5
        have C6 := Lib.hid (newU b w5 HB.out)
        clear i5 h5 C5 F1 s5
        go_wp2_with fail
        go_fit (C6.out)
        rintro e w6 ⟨rfl, i6, h6⟩
        have U6 : Hid (Below wt.heap.size wt w6) := U5.out.trans (h6.mono U5.out.size)
        have hal := below_hdr w6
        have U7 : Hid (Below wt.heap.size wt (w6.alloc (.cells #[.bool false, .slice none 0 0] 35))) := U6.out.trans (hal.mono U6.out.size)
        have l5 := X5.out.lt
        have l6 := i6.lt
        have C7 := Lib.hid (divmod_any wt.heap.size (wt.heap.size + 1) w5.heap.size w6.heap.size (val xs) b _ ((G5.out.below h6).below hal) (IsI.new w6).hd ((X5.out.below h6).below hal) (i6.below hal) (by omega) (by omega) (by omega) SX.out.nine (sz_word HB.out).nine q2 PO.out)
        have lts : Hid (wt.heap.size ≤ w6.heap.size) := U6.out.size
        clear i6 h6 C6 hal l5 l6 G5 X5
        go_wp2_with fail
        go_fit (C7.out)
        rintro e w8 ⟨rfl, i8, j8, h8⟩
        have U8 := Lib.hid (h8 wt.heap.size wt U7.out U7.out.size (Nat.le_refl _) lts.out)
        have hdv : val xs / b < Bw ^ 64 := Nat.lt_of_le_of_lt (Nat.div_le_self _ _) VX.out.out
        have hlw : (words (val xs / b)).length ≤ 9223372036854775807 := Nat.le_trans ((words_len _ 64).2 hdv) (by omega)
        have C8 := Lib.hid (same_any R c (words (val xs / b)) 0 wt.heap.size (val xs / b) w8 (WT.out.below U8.out) hlw i8 (sz64 hdv).out (if_pos hdv).symm (if_pos hdv).symm)
        have J8 := Lib.hid j8
        clear i8 j8 h8 C7 hdv hlw
        go_wp2_with fail
        go_fit (C8.out)
        rintro e w9 ⟨rfl, h9⟩
        have U9 : Hid (Below wt.heap.size wt w9) := U8.out.trans (h9.mono U8.out.size)
        have hmb : val xs % b < Bw := Nat.lt_trans (Nat.mod_lt _ q2) HB.out
        have C9 := iuint_any w6.heap.size (val xs % b) w9 (J8.out.below h9) (sz_word hmb).nine.out
        rw [show val xs % b % 18446744073709551616 = val xs % b from Nat.mod_eq_of_lt hmb] at C9
        rw [← HRR.out] at C9
        have HC9 := Lib.hid C9
        have hMM : ((rr : Int) == (rr : Int)) = true := by simp
        clear h9 C8 hmb C9 J8
        go_wp2_with fail
        refine HC9.out.mono ?_
        rintro e w' ⟨rfl, rfl⟩
        go_wp2
        go_ret
        exact ⟨rfl, T4.out.trans (U9.out.mono T4.out.size)⟩
end Go.Proofs.Ytfhbnolppahfhaa
