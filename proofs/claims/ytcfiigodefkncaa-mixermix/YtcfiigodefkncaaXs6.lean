/- lotdrawerkeep.alive13. -/
import Derived.Test.YtcfiigodefkncaaXs5
import Derived.Test.YtcfiigodefkncaaXq
namespace Go.Proofs.Ytcfiigodefkncaa
open Go.RowKit Go.Deep

def al13 : Mx := ⟨1#64, 2#64, 3#64, 4#64⟩
theorem al13_o : stO al13 = 11520#64 := by decide +kernel
theorem al13_p : stO (stN al13) = 0#64 := by decide +kernel
theorem al13_n : stN al13 ≠ stN (stN al13) := by decide +kernel

set_option maxRecDepth 100000 in
set_option maxHeartbeats 2000000 in
theorem alive13_any (w : World) : Calls Try.prog 17 #[] w fun e w' => e = .returned (.bool true) ∧ Below w.heap.size w w' := by
  have C1 : Hid (∀ w : World, Calls Try.prog 8 #[.agg #[.int .u64 1, .int .u64 2, .int .u64 3, .int .u64 4]] w fun e w' => e = .returned (.tuple #[.int .u64 11520, mxv (stN al13)]) ∧ Below w.heap.size w w') := fun w => by
    have := step_any al13 w
    rw [al13_o] at this
    exact this
  have C2 : Hid (∀ w : World, Calls Try.prog 8 #[mxv (stN al13)] w fun e w' => e = .returned (.tuple #[.int .u64 0, mxv (stN (stN al13))]) ∧ Below w.heap.size w w') := fun w => by
    have := step_any (stN al13) w
    rw [al13_p] at this
    exact this
  have C3 : Hid (∀ w : World, Calls Try.prog 13 #[.agg #[.int .u64 1, .int .u64 2, .int .u64 3, .int .u64 4], .int .i64 2] w fun e w' => ∃ (R : Option Addr) (cr : Nat), e = .returned (.tuple #[.slice R 2 cr, mxv (stN (stN al13)), .int .i64 0]) ∧ UP w' R cr [11520#64, 0#64] ∧ Below w.heap.size w w') := fun w => by
    have := words_ok al13 2 (by decide) w
    rw [show outs 2 al13 = [stO al13, stO (stN al13)] from rfl, al13_o, al13_p] at this
    exact this
  have hne := al13_n
  obtain ⟨⟨p0, p1, p2, p3⟩, hp⟩ : ∃ p, stN al13 = p := ⟨_, rfl⟩
  rw [hp] at C1 C2 C3 hne
  obtain ⟨⟨q0, q1, q2, q3⟩, hq⟩ : ∃ q, stN ⟨p0, p1, p2, p3⟩ = q := ⟨_, rfl⟩
  rw [hq] at C2 C3 hne
  clear hp hq
  have E1 : ∀ w : World, _ := fun w => mx_eq ⟨q0, q1, q2, q3⟩ ⟨q0, q1, q2, q3⟩ w
  have E2 : ∀ w : World, _ := fun w => mx_eq ⟨p0, p1, p2, p3⟩ ⟨q0, q1, q2, q3⟩ w
  rw [decide_eq_true rfl] at E1
  rw [decide_eq_false hne] at E2
  dsimp only at E1 E2
  unfold mxv at C1 C2 C3
  dsimp only at C1 C2 C3
  go_enter Try.func17, Try.ntmps17
  go_wp2_with fail
  refine (C1.out _).mono ?_
  rintro e w1 ⟨rfl, hb1⟩
  go_wp2_with fail
  refine (C2.out _).mono ?_
  rintro e w2 ⟨rfl, hb2⟩
  have HX1 : Hid (XB w2 w1.heap.size ⟨p0, p1, p2, p3⟩) := by
    have := xb_new w1 ⟨p0, p1, p2, p3⟩
    exact this.below hb2 this.lt
  have HB2 : Hid (Below w.heap.size w w2) := hb1.trans (((Below.refl _ w1).alloc (Nat.le_refl _) _ |>.trans (hb2.mono (by simp))).mono hb1.size)
  clear hb1 hb2
  go_wp2_with fail
  refine (C3.out _).mono ?_
  rintro e w3 ⟨R, cr, rfl, hU, hb3⟩
  obtain ⟨b, off, rfl, _, hc⟩ := (hU.later ((Below.refl _ w3).alloc (Nat.le_refl _) (.cells #[.int .u64 (q0.toNat : Int), .int .u64 (q1.toNat : Int), .int .u64 (q2.toNat : Int), .int .u64 (q3.toNat : Int)] 24))).ul.at (by simp)
  have k0 := hc 0 (by simp)
  simp only [Nat.add_zero] at k0
  have hs23 : w2.heap.size < w3.heap.size := Nat.lt_of_lt_of_le (by simp) hb3.size
  have hs13 : w1.heap.size < w3.heap.size := Nat.lt_trans HX1.out.lt hs23
  have x1 : XB (w3.alloc (.cells #[.int .u64 (q0.toNat : Int), .int .u64 (q1.toNat : Int), .int .u64 (q2.toNat : Int), .int .u64 (q3.toNat : Int)] 24)) w1.heap.size ⟨p0, p1, p2, p3⟩ := ((HX1.out.below ((Below.refl _ w2).alloc (Nat.le_refl _) (.cells #[.int .u64 (q0.toNat : Int), .int .u64 (q1.toNat : Int), .int .u64 (q2.toNat : Int), .int .u64 (q3.toNat : Int)] 24)) HX1.out.lt).below hb3 (by simp; have := HX1.out.lt; omega)).below ((Below.refl _ w3).alloc (Nat.le_refl _) _) hs13
  have x2 : XB (w3.alloc (.cells #[.int .u64 (q0.toNat : Int), .int .u64 (q1.toNat : Int), .int .u64 (q2.toNat : Int), .int .u64 (q3.toNat : Int)] 24)) w2.heap.size ⟨q0, q1, q2, q3⟩ := ((xb_new w2 ⟨q0, q1, q2, q3⟩).below hb3 (by simp)).below ((Below.refl _ w3).alloc (Nat.le_refl _) _) hs23
  have a0 := x1.c0
  have a1 := x1.c1
  have a2 := x1.c2
  have a3 := x1.c3
  have b0 := x2.c0
  have b1 := x2.c1
  have b2 := x2.c2
  have b3 := x2.c3
  have HB : Hid (Below w.heap.size w (w3.alloc (.cells #[.int .u64 (q0.toNat : Int), .int .u64 (q1.toNat : Int), .int .u64 (q2.toNat : Int), .int .u64 (q3.toNat : Int)] 24))) := (HB2.out.trans ((((Below.refl _ w2).alloc (Nat.le_refl _) _).trans (hb3.mono (by simp))).mono HB2.out.size)).alloc (by have := HB2.out.size; omega) _
  clear hc x1 x2 hb3 hU C1 C2 C3 HX1 HB2
  go_wp2
  go_ret
  exact ⟨rfl, HB.out⟩
end Go.Proofs.Ytcfiigodefkncaa
