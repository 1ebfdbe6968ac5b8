/- nat.Falling. -/
import Derived.Test.YtfhbnolppahfhaaW3
namespace Go.Proofs.Ytfhbnolppahfhaa
open Go.RowKit Go.Deep

/-- n * (n-1) * (n-2) * .., so many factors; 0 if one of them is 0. -/
def fall (n : Nat) : Nat → Nat
  | 0 => 1
  | k + 1 => fall n k * (n - k)
theorem fall_zero {n : Nat} : ∀ {k : Nat}, n < k → fall n k = 0
  | k + 1, h => by
    rw [fall]
    by_cases e : n = k
    · subst e; simp
    · rw [fall_zero (by omega), Nat.zero_mul]
theorem fall_mono {n k m : Nat} (h : k ≤ m) (hm : m ≤ n) : fall n k ≤ fall n m := by
  induction m with
  | zero => have : k = 0 := by omega
            subst this; exact Nat.le_refl _
  | succ m ih =>
    by_cases e : k = m + 1
    · subst e; exact Nat.le_refl _
    · refine Nat.le_trans (ih (by omega) (by omega)) ?_
      rw [fall]
      exact Nat.le_mul_of_pos_right _ (by omega)
theorem fall_add (n a : Nat) : ∀ b, fall n (a + b) = fall n a * fall (n - a) b
  | 0 => by simp [fall]
  | b + 1 => by
    rw [← Nat.add_assoc, fall, fall_add n a b, fall, Nat.mul_assoc, Nat.sub_sub]

theorem fall_le {n : Nat} (hn : n < Bw) : ∀ k, fall n k ≤ Bw ^ k
  | 0 => Nat.le_refl _
  | k + 1 => by
    rw [fall, Nat.pow_succ]
    exact Nat.mul_le_mul (fall_le hn k) (by omega)
theorem fall_lt {n k : Nat} (hn : n < Bw) (hk : k < 64) : fall n k < Bw ^ 64 := Nat.lt_of_le_of_lt (fall_le hn k) (Nat.pow_lt_pow_right Bw_gt hk)

/-- What stands in the loop of Falling: the product of k factors. -/
def FallRel (w : World) (n k : Nat) (R : Option Addr) (wr : World) : Prop :=
  fall n k < Bw ^ 64 ∧ Wd wr R (words (fall n k)) ∧ Below w.heap.size w wr

set_option maxHeartbeats 1000000 in
theorem falling_high (n many : Nat) (w : World) (hn : n < 18446744073709551616) (hm : many ≤ 300) (hle : many ≤ n) :
    Calls Try.prog 24 #[.int .u64 (n : Int), .int .i64 (many : Int)] w fun e w' => ∃ R c, e = .returned (.tuple #[.slice R (fitL (fall n many)).length c, .int .i64 (fitE (fall n many))]) ∧
      Wd w' R (fitL (fall n many)) ∧ Below w.heap.size w w' := by
  have C1 := Lib.hid (of_any 1 w Bw_gt)
  go_enter Try.func24, Try.ntmps24
  go_wp2_with fail
  refine C1.out.mono ?_
  rintro e w1 ⟨R0, c0, rfl, hW, hc, hB⟩
  have HS : Hid (FallRel w n 0 R0 w1) := ⟨Nat.one_lt_pow (by omega) Bw_gt, hW, hB⟩
  have HE : Hid ((words 1).length = (words (fall n 0)).length) := rfl
  clear hW hB hc
  go_wp2_with fail
  go_loopw [7, 24] (fun pv i wr => ∃ (k c : Nat) (R : Option Addr), k ≤ many ∧ i = .int .u64 k ∧ pv = .slice R (words (fall n k)).length c ∧ FallRel w n k R wr) (fun _ i _ => many - (intOf i).toNat)
  case atStart => exact ⟨0, c0, R0, Nat.zero_le _, rfl, by rw [HE.out], HS.out⟩
  case round =>
    clear HS HE C1
    obtain ⟨k, c, R, hk, rfl, rfl, hR⟩ := hrel
    have HR := Lib.hid hR
    clear hR
    by_cases hlt : k < many
    · have C2 := Lib.hid (of_any (n - k) wr (by unfold Bw; omega))
      go_wp2_with fail
      rw [show (n : Int) - (k : Int) = ((n - k : Nat) : Int) by omega]
      refine C2.out.mono ?_
      rintro e w2 ⟨R2, c2, rfl, hW2, _, hB2⟩
      have hlt64 : n - k < Bw ^ 64 := Nat.lt_of_lt_of_le (show n - k < Bw ^ 1 by unfold Bw; omega) (Nat.pow_le_pow_right Bw_pos (by omega))
      have C3 := Lib.hid (mul_any R R2 c c2 (words (fall n k)) (words (n - k)) w2 (HR.out.2.1.below hB2) hW2 (rt_words HR.out.1) (rt_words hlt64))
      rw [val_words, val_words] at C3
      have HB2 := Lib.hid hB2
      clear hW2 hB2 hlt64
      go_wp2_with fail
      refine C3.out.mono ?_
      rintro e w3 ⟨R3, c3, rfl, hW3, _, hB3⟩
      have HB3 : Hid (Below w.heap.size w w3) := (HR.out.2.2.trans (HB2.out.mono HR.out.2.2.size)).trans (hB3.mono (Nat.le_trans HR.out.2.2.size HB2.out.size))
      have HW3 := Lib.hid hW3
      clear hW3 hB3
      by_cases hf : fall n (k + 1) < Bw ^ 64
      · have e1 : fitL (fall n k * (n - k)) = words (fall n (k + 1)) := if_pos hf
        have e2 : fitE (fall n k * (n - k)) = 0 := if_pos hf
        rw [e1] at HW3
        rw [e1, e2]
        have HF := Lib.hid hf
        clear e1 e2 hf
        go_wp2_with fail
        go_roundw
        case rel => exact ⟨k + 1, c3, R3, by omega, by go_num, rfl, HF.out, HW3.out, HB3.out⟩
        case measure => simp [intOf]; omega
      · have e1 : fitL (fall n k * (n - k)) = [] := if_neg hf
        have e2 : fitE (fall n k * (n - k)) = 4 := if_neg hf
        have hall : ¬ fall n many < Bw ^ 64 := fun h => hf (Nat.lt_of_le_of_lt (fall_mono (by omega) hle) h)
        have E3 : Hid (fitL (fall n many) = []) := if_neg hall
        have E4 : Hid (fitE (fall n many) = 4) := if_neg hall
        rw [e1, e2]
        clear e1 e2 hf hall
        go_wp2
        go_ret2
        exact ⟨none, 0, by rw [E3.out, E4.out]; rfl, by rw [E3.out]; exact Wd.nil, HB3.out⟩
    · obtain rfl : many = k := by omega
      have E3 : Hid (fitL (fall n many) = words (fall n many)) := if_pos HR.out.1
      have E4 : Hid (fitE (fall n many) = 0) := if_pos HR.out.1
      go_wp2
      go_ret2
      exact ⟨R, c, by rw [E3.out, E4.out]; rfl, by rw [E3.out]; exact HR.out.2.1, HR.out.2.2⟩

set_option maxHeartbeats 400000 in
theorem falling_low (n many : Nat) (w : World) (hm : many ≤ 300) (hle : n < many) :
    Calls Try.prog 24 #[.int .u64 (n : Int), .int .i64 (many : Int)] w fun e w' => e = .returned (.tuple #[.slice none 0 0, .int .i64 0]) ∧ w = w' := by
  go_enter Try.func24, Try.ntmps24
  go_wp2
  go_ret2
  exact ⟨rfl, rfl⟩

theorem falling_any (n many : Nat) (w : World) (hn : n < Bw) (hm : many ≤ 300) :
    Calls Try.prog 24 #[.int .u64 (n : Int), .int .i64 (many : Int)] w fun e w' => ∃ R c, e = .returned (.tuple #[.slice R (fitL (fall n many)).length c, .int .i64 (fitE (fall n many))]) ∧
      Wd w' R (fitL (fall n many)) ∧ Below w.heap.size w w' := by
  by_cases h : many ≤ n
  · exact falling_high n many w hn hm h
  · refine (falling_low n many w hm (by omega)).mono ?_
    rintro e w' ⟨rfl, rfl⟩
    have e0 : fall n many = 0 := fall_zero (by omega)
    have e1 : fitL (fall n many) = [] := by rw [e0]; unfold fitL; rw [if_pos (Nat.pow_pos Bw_pos)]; exact words_zero
    have e2 : fitE (fall n many) = 0 := by rw [e0]; unfold fitE; rw [if_pos (Nat.pow_pos Bw_pos)]
    rw [e1, e2]
    exact ⟨none, 0, rfl, Wd.nil, Below.refl _ _⟩

set_option maxHeartbeats 400000 in
theorem falling_bad (n many : Int) (w : World) (h : many < 0 ∨ 300 < many) :
    Calls Try.prog 24 #[.int .u64 n, .int .i64 many] w fun e w' => e = .returned (.tuple #[.slice none 0 0, .int .i64 2]) ∧ w = w' := by
  rcases h with h | h
  · go_enter Try.func24, Try.ntmps24
    go_wp2
    go_ret2
    exact ⟨rfl, rfl⟩
  · have h' : ¬ many < 0 := by omega
    go_enter Try.func24, Try.ntmps24
    go_wp2
    go_ret2
    exact ⟨rfl, rfl⟩
end Go.Proofs.Ytfhbnolppahfhaa
