/- walk: what its functions answer, as contracts; lotdrawerkeep.alive17, out of them. -/
import Derived.Test.YtojoecoocbjgaaaB0
import Derived.Test.YtojoecoocbjgaaaWk1
import Derived.WalkSmall
namespace Go.Proofs.Ytojoecoocbjgaaa
open Go.RowKit

def hgt (h : Int) : Prop := -100 ≤ h ∧ h ≤ 100
def stp (n : Int) : Prop := 0 ≤ n ∧ n ≤ 56
instance (h : Int) : Decidable (hgt h) := by unfold hgt; infer_instance
instance (n : Int) : Decidable (stp n) := by unfold stp; infer_instance
def ans (p : Prop) [Decidable p] (x : Int) : Value := if p then .tuple #[.int .i64 x, .int .i64 0] else .tuple #[.int .i64 0, .int .i64 2]
theorem ans_ok {p : Prop} [Decidable p] (x : Int) (h : p) : ans p x = .tuple #[.int .i64 x, .int .i64 0] := if_pos h
theorem ans_no {p : Prop} [Decidable p] (x : Int) (h : ¬ p) : ans p x = .tuple #[.int .i64 0, .int .i64 2] := if_neg h
def CtFree : Prop := ∀ (n to : Int) (w : World), Calls Try.prog 9 #[.int .i64 n, .int .i64 to] w fun e w' => e = .returned (ans (stp n ∧ hgt to) (free n.toNat to)) ∧ Below w.heap.size w w'
def CtAbove : Prop := ∀ (n a to : Int) (w : World), Calls Try.prog 10 #[.int .i64 n, .int .i64 a, .int .i64 to] w fun e w' => e = .returned (ans (stp n ∧ hgt a ∧ hgt to) (above n.toNat a to)) ∧ Below w.heap.size w w'
def CtBet : Prop := ∀ (n a to top : Int) (w : World), Calls Try.prog 11 #[.int .i64 n, .int .i64 a, .int .i64 to, .int .i64 top] w fun e w' => e = .returned (ans (stp n ∧ hgt a ∧ hgt to ∧ hgt top) (bet top n.toNat a to)) ∧ Below w.heap.size w w'
def fstZ (n : Nat) : Int := if n = 0 then 0 else first n
def CtFirst : Prop := ∀ (n : Int) (w : World), Calls Try.prog 12 #[.int .i64 n] w fun e w' => e = .returned (ans (stp n) (fstZ n.toNat)) ∧ Below w.heap.size w w'
def CtCat : Prop := ∀ (n : Int) (w : World), Calls Try.prog 13 #[.int .i64 n] w fun e w' => e = .returned (ans (0 ≤ n ∧ n ≤ 28) (cat n.toNat)) ∧ Below w.heap.size w w'
/-- At numbers that are taken. -/
theorem CtFree.ok (h : CtFree) {n : Nat} {to : Int} (h1 : n ≤ 56) (h2 : hgt to) (w : World) : Calls Try.prog 9 #[.int .i64 (n : Int), .int .i64 to] w fun e w' => e = .returned (.tuple #[.int .i64 (free n to), .int .i64 0]) ∧ Below w.heap.size w w' := by
  have := h n to w
  rwa [ans_ok _ ⟨⟨by omega, by omega⟩, h2⟩, Int.toNat_natCast] at this
theorem CtAbove.ok (h : CtAbove) {n : Nat} {a to : Int} (h1 : n ≤ 56) (h2 : hgt a) (h3 : hgt to) (w : World) : Calls Try.prog 10 #[.int .i64 (n : Int), .int .i64 a, .int .i64 to] w fun e w' => e = .returned (.tuple #[.int .i64 (above n a to), .int .i64 0]) ∧ Below w.heap.size w w' := by
  have := h n a to w
  rwa [ans_ok _ ⟨⟨by omega, by omega⟩, h2, h3⟩, Int.toNat_natCast] at this
theorem CtBet.ok (h : CtBet) {n : Nat} {a to top : Int} (h1 : n ≤ 56) (h2 : hgt a) (h3 : hgt to) (h4 : hgt top) (w : World) : Calls Try.prog 11 #[.int .i64 (n : Int), .int .i64 a, .int .i64 to, .int .i64 top] w fun e w' => e = .returned (.tuple #[.int .i64 (bet top n a to), .int .i64 0]) ∧ Below w.heap.size w w' := by
  have := h n a to top w
  rwa [ans_ok _ ⟨⟨by omega, by omega⟩, h2, h3, h4⟩, Int.toNat_natCast] at this
theorem CtFirst.ok (h : CtFirst) {n : Nat} (h1 : n ≤ 56) (h0 : 1 ≤ n) (w : World) : Calls Try.prog 12 #[.int .i64 (n : Int)] w fun e w' => e = .returned (.tuple #[.int .i64 (first n), .int .i64 0]) ∧ Below w.heap.size w w' := by
  have := h n w
  rwa [ans_ok _ ⟨by omega, by omega⟩, Int.toNat_natCast, fstZ, if_neg (by omega)] at this
theorem CtCat.ok (h : CtCat) {n : Nat} (h1 : n ≤ 28) (w : World) : Calls Try.prog 13 #[.int .i64 (n : Int)] w fun e w' => e = .returned (.tuple #[.int .i64 (cat n), .int .i64 0]) ∧ Below w.heap.size w w' := by
  have := h n w
  rwa [ans_ok _ ⟨by omega, by omega⟩, Int.toNat_natCast] at this

theorem two_pow_le {n : Nat} (h : n ≤ 56) : (2 : Int) ^ n ≤ 72057594037927936 := by
  have : (2 : Int) ^ n ≤ 2 ^ 56 := by
    have h1 : 2 ^ n ≤ 2 ^ 56 := Nat.pow_le_pow_right (by decide) h
    exact_mod_cast h1
  have e : (2 : Int) ^ 56 = 72057594037927936 := by decide +kernel
  omega
theorem ways_bd (may : Nat → Int → Bool) (a : Int) {n : Nat} (h : Int) (hn : n ≤ 56) : 0 ≤ ways may a n h ∧ ways may a n h ≤ 72057594037927936 :=
  ⟨ways_nonneg _ _ _ _, Int.le_trans (ways_le _ _ _ _) (two_pow_le hn)⟩
/-- Products of ways over so many steps and so many more. -/
theorem ways_prod (may may' : Nat → Int → Bool) (a a' : Int) {n m : Nat} (h h' : Int) (hn : n + m ≤ 56) : 0 ≤ ways may a n h * ways may' a' m h' ∧ ways may a n h * ways may' a' m h' ≤ 72057594037927936 := by
  have h1 := ways_nonneg may a n h
  have h2 := ways_nonneg may' a' m h'
  have h3 := ways_le may a n h
  have h4 := ways_le may' a' m h'
  refine ⟨Int.mul_nonneg h1 h2, ?_⟩
  have h5 := Int.mul_le_mul h3 h4 h2 (Int.le_of_lt (Int.pow_pos (by decide)))
  rw [← Int.pow_add] at h5
  exact Int.le_trans h5 (two_pow_le hn)

theorem al17_f : free 4 2 = 4 := by decide +kernel
theorem al17_a : above 4 1 1 = 2 := by decide +kernel
theorem al17_b : bet 3 4 1 1 = 1 := by decide +kernel
theorem al17_1 : first 4 = 2 := by decide +kernel
theorem al17_c : cat 3 = 5 := by decide +kernel

set_option maxRecDepth 100000 in
set_option maxHeartbeats 1000000 in
theorem alive17_any (KF : CtFree) (KA : CtAbove) (KB : CtBet) (K1 : CtFirst) (KC : CtCat) (w : World) : Calls Try.prog 27 #[] w fun e w' => e = .returned (.bool true) ∧ Below w.heap.size w w' := by
  have CF := Lib.hid (fun w => KF.ok (n := 4) (to := 2) (by decide) (by decide) w)
  have CA := Lib.hid (fun w => KA.ok (n := 4) (a := 1) (to := 1) (by decide) (by decide) (by decide) w)
  have CB := Lib.hid (fun w => KB.ok (n := 4) (a := 1) (to := 1) (top := 3) (by decide) (by decide) (by decide) (by decide) w)
  have C1 := Lib.hid (fun w => K1.ok (n := 4) (by decide) (by decide) w)
  have CC := Lib.hid (fun w => KC.ok (n := 3) (by decide) w)
  rw [al17_f] at CF
  rw [al17_a] at CA
  rw [al17_b] at CB
  rw [al17_1] at C1
  rw [al17_c] at CC
  clear KF KA KB K1 KC
  go_enter Try.func27, Try.ntmps27
  go_wp2_with fail
  refine (CF.out _).mono ?_
  rintro e w1 ⟨rfl, hb⟩
  have HB1 := Lib.hid hb
  clear hb CF
  go_wp2_with fail
  refine (CA.out _).mono ?_
  rintro e w2 ⟨rfl, hb⟩
  have HB2 := Lib.hid (HB1.out.trans (hb.mono HB1.out.size))
  clear hb CA HB1
  go_wp2_with fail
  refine (CB.out _).mono ?_
  rintro e w3 ⟨rfl, hb⟩
  have HB3 := Lib.hid (HB2.out.trans (hb.mono HB2.out.size))
  clear hb CB HB2
  go_wp2_with fail
  refine (C1.out _).mono ?_
  rintro e w4 ⟨rfl, hb⟩
  have HB4 := Lib.hid (HB3.out.trans (hb.mono HB3.out.size))
  clear hb C1 HB3
  go_wp2_with fail
  refine (CC.out _).mono ?_
  rintro e w5 ⟨rfl, hb⟩
  have HB5 := Lib.hid (HB4.out.trans (hb.mono HB4.out.size))
  clear hb CC HB4
  go_wp2
  go_ret
  exact ⟨rfl, HB5.out⟩
end Go.Proofs.Ytojoecoocbjgaaa
