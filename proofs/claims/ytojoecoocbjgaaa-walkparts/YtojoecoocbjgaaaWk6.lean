/- WalkParts' walk. -/
import Derived.Test.YtojoecoocbjgaaaWk2
namespace Go.Proofs.Ytojoecoocbjgaaa
open Go.RowKit

theorem bet_prod (top : Int) {a b : Nat} (x h z : Int) (hn : a + b ≤ 56) : 0 ≤ bet top a x h * bet top b h z ∧ bet top a x h * bet top b h z ≤ 72057594037927936 := ways_prod (mayIn top) (mayIn top) x h h z hn
theorem bet_bd (top : Int) {a b : Nat} (x z : Int) (hn : a + b ≤ 56) : ∀ k : Nat, 0 ≤ sumTo (fun h => bet top a x h * bet top b h z) k ∧ sumTo (fun h => bet top a x h * bet top b h z) k ≤ k * 72057594037927936
  | 0 => by simp [sumTo]
  | k + 1 => by
    have ih := bet_bd top (a := a) (b := b) x z hn k
    have hp := bet_prod top (a := a) (b := b) x ((k : Int) + 1) z hn
    unfold sumTo
    push_cast
    omega

set_option maxRecDepth 100000 in
set_option maxHeartbeats 1000000 in
theorem walkParts_walk (KF : CtFree) (KA : CtAbove) (KB : CtBet) (K1 : CtFirst) (KC : CtCat) (a b x z t : Int) (w : World) : Calls Try.prog 8 #[.int .i64 a, .int .i64 b, .int .i64 x, .int .i64 z, .int .i64 t] w fun e w' => e = .returned (.bool true) ∧ Below w.heap.size w w' := by
  have CL := Lib.hid (alive17_any KF KA KB K1 KC w)
  have HA := Lib.hid KA
  have HBe := Lib.hid KB
  clear KF KA KB K1 KC
  go_enter Try.func8, Try.ntmps8
  go_wp2_with fail
  refine CL.out.mono ?_
  rintro e w1 ⟨rfl, hb⟩
  have HB1 := Lib.hid hb
  clear hb CL
  by_cases h1 : a < 0
  · go_wp2
    go_ret
    exact ⟨rfl, HB1.out⟩
  by_cases h2 : b < 0
  · go_wp2
    go_ret
    exact ⟨rfl, HB1.out⟩
  by_cases h3 : 56 < a
  · go_wp2
    go_ret
    exact ⟨rfl, HB1.out⟩
  by_cases h4 : 56 < b
  · go_wp2
    go_ret
    exact ⟨rfl, HB1.out⟩
  by_cases h5 : 56 < a + b
  · go_wp2
    go_ret
    exact ⟨rfl, HB1.out⟩
  by_cases h6 : t < 1
  · go_wp2
    go_ret
    exact ⟨rfl, HB1.out⟩
  by_cases h7 : 20 < t
  · go_wp2
    go_ret
    exact ⟨rfl, HB1.out⟩
  by_cases h8 : x < 1
  · go_wp2
    go_ret
    exact ⟨rfl, HB1.out⟩
  by_cases h9 : z < 1
  · go_wp2
    go_ret
    exact ⟨rfl, HB1.out⟩
  by_cases h10 : 100 < x
  · go_wp2
    go_ret
    exact ⟨rfl, HB1.out⟩
  by_cases h11 : 100 < z
  · go_wp2
    go_ret
    exact ⟨rfl, HB1.out⟩
  obtain ⟨p, rfl⟩ := Int.eq_ofNat_of_zero_le (show 0 ≤ a by omega)
  obtain ⟨q, rfl⟩ := Int.eq_ofNat_of_zero_le (show 0 ≤ b by omega)
  obtain ⟨M, hM⟩ := Int.eq_ofNat_of_zero_le (show 0 ≤ t - 1 by omega)
  obtain rfl : t = (M : Int) + 1 := by omega
  have hpq : p + q ≤ 56 := by omega
  have hM20 : M ≤ 19 := by omega
  clear hM
  go_wp2
  go_loopw [11, 12] (fun s i wr => ∃ k : Nat, k ≤ M ∧ s = .int .i64 (sumTo (fun h => bet ((M : Int) + 1) p x h * bet ((M : Int) + 1) q h z) k) ∧ i = .int .i64 ((k : Int) + 1) ∧ Below w.heap.size w wr) (fun _ i _ => M + 1 - (intOf i).toNat)
  case atStart => exact ⟨0, by omega, rfl, rfl, HB1.out⟩
  case round =>
    clear HB1
    obtain ⟨k, hk, rfl, rfl, hB⟩ := hrel
    have HB := Lib.hid hB
    clear hB
    by_cases hlt : k < M
    · have C1 := Lib.hid (fun w => CtBet.ok HBe.out (n := p) (a := x) (to := (k : Int) + 1) (top := (M : Int) + 1) (by omega) ⟨by omega, by omega⟩ ⟨by omega, by omega⟩ ⟨by omega, by omega⟩ w)
      have C2 := Lib.hid (fun w => CtBet.ok HBe.out (n := q) (a := (k : Int) + 1) (to := z) (top := (M : Int) + 1) (by omega) ⟨by omega, by omega⟩ ⟨by omega, by omega⟩ ⟨by omega, by omega⟩ w)
      have bp := bet_prod ((M : Int) + 1) (a := p) (b := q) x ((k : Int) + 1) z hpq
      have bs := bet_bd ((M : Int) + 1) (a := p) (b := q) x z hpq k
      have HE : Hid (sumTo (fun h => bet ((M : Int) + 1) p x h * bet ((M : Int) + 1) q h z) (k + 1) = sumTo (fun h => bet ((M : Int) + 1) p x h * bet ((M : Int) + 1) q h z) k + bet ((M : Int) + 1) p x ((k : Int) + 1) * bet ((M : Int) + 1) q ((k : Int) + 1) z) := rfl
      generalize hS : sumTo (fun h => bet ((M : Int) + 1) p x h * bet ((M : Int) + 1) q h z) k = S at *
      have bs2 : 0 ≤ S ∧ S ≤ 1369094286720630784 := by omega
      clear bs hS
      generalize bet ((M : Int) + 1) p x ((k : Int) + 1) = u at *
      generalize bet ((M : Int) + 1) q ((k : Int) + 1) z = v at *
      have k1 : IntKind.i64.wrap (u * v) = u * v := IntWalk.i64_in _ (by omega)
      have k2 : IntKind.i64.wrap (S + u * v) = S + u * v := IntWalk.i64_in _ (by omega)
      go_wp2_with fail
      refine (C1.out _).mono ?_
      rintro e w2 ⟨rfl, hb⟩
      have HB2 := Lib.hid (HB.out.trans (hb.mono HB.out.size))
      clear hb C1 HB
      go_wp2_with fail
      refine (C2.out _).mono ?_
      rintro e w3 ⟨rfl, hb⟩
      have HB3 := Lib.hid (HB2.out.trans (hb.mono HB2.out.size))
      clear hb C2 HB2
      go_wp2
      go_roundw
      case rel => exact ⟨k + 1, by omega, by rw [HE.out], by go_num, HB3.out⟩
      case measure => simp [intOf]; omega
    · obtain rfl : k = M := by omega
      have C1 := Lib.hid (fun w => CtBet.ok HBe.out (n := p + q) (a := x) (to := z) (top := (k : Int) + 1) hpq ⟨by omega, by omega⟩ ⟨by omega, by omega⟩ ⟨by omega, by omega⟩ w)
      have C2 := Lib.hid (fun w => CtAbove.ok HA.out (n := p + q) (a := x) (to := z) hpq ⟨by omega, by omega⟩ ⟨by omega, by omega⟩ w)
      have e1 := parts k p x q z
      have e2 := bet_above ((k : Int) + 1) (p + q) x z
      rw [← e1]
      rw [show ((p + q : Nat) : Int) = (p : Int) + (q : Int) by rfl] at C1 C2
      clear e1 HA HBe hk hlt
      generalize bet ((k : Int) + 1) (p + q) x z = u at *
      generalize above (p + q) x z = v at *
      go_wp2_with fail
      refine (C1.out _).mono ?_
      rintro e w2 ⟨rfl, hb⟩
      have HB2 := Lib.hid (HB.out.trans (hb.mono HB.out.size))
      clear hb C1 HB
      go_wp2_with fail
      refine (C2.out _).mono ?_
      rintro e w3 ⟨rfl, hb⟩
      have HB3 := Lib.hid (HB2.out.trans (hb.mono HB2.out.size))
      clear hb C2 HB2
      go_wp2
      go_ret
      exact ⟨rfl, HB3.out⟩
end Go.Proofs.Ytojoecoocbjgaaa
