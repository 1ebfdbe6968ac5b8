/- lotdrawerlaw.JoinPools: the walk. -/
import Derived.Test.YtgmbhlkjnamjhaaJe
import Derived.Test.YtgmbhlkjnamjhaaJb
import Derived.Test.YtgmbhlkjnamjhaaX7
namespace Go.Proofs.Ytgmbhlkjnamjhaa
open Go.RowKit Go.Deep

theorem sameB_self (r c : Int) (xs : List Int) : sameB r c xs r c xs = true := by simp [sameB]
theorem cb_iff {n m k f : Int} : CB n m k f ↔ (n < 0 ∨ m < 0 ∨ 25 < n ∨ 25 < m ∨ f < 0 ∨ k < f) := by unfold CB; omega
set_option maxRecDepth 100000 in
set_option maxHeartbeats 8000000 in
theorem joinPools_walk (ra ca rb cb : Int) (A B W H : Option Addr) (ka kb wc hc : Nat) (xs ys ws hs : List Int) (n m k f : Int) (w : World) (hA : IP w A ka xs) (hB : IP w B kb ys) (hW : IP w W wc ws) (hH : IP w H hc hs) (hR : ∀ n ∈ hs, -9223372036854775808 ≤ n ∧ n ≤ 9223372036854775807) (hk : k ≤ 9223372036854775807) :
    Calls Try.prog 3 #[pv ra ca (.slice A xs.length ka), pv rb cb (.slice B ys.length kb), .slice W ws.length wc, .slice H hs.length hc, .int .i64 n, .int .i64 m, .int .i64 k, .int .i64 f] w fun e w' => e = .returned (.bool true) ∧ Below w.heap.size w w' := by
  have hJ0 := JA.new w ra ca (.slice A xs.length ka) rb cb (.slice B ys.length kb)
  have CP := Lib.hid (pools_any ra ca rb cb A B W H ka kb wc hc xs ys ws hs _ (hA.later hJ0.bl) (hB.later hJ0.bl) (hW.later hJ0.bl) (hH.later hJ0.bl))
  have HJ0 := Lib.hid hJ0
  have HA := Lib.hid hA
  have HB := Lib.hid hB
  have HW := Lib.hid hW
  have HH := Lib.hid hH
  have HRR := Lib.hid hR
  have CC := fun wx : World => Lib.hid (count_any n m k f wx hk)
  obtain ⟨⟨⟨r, c, l⟩, er⟩, hq⟩ : ∃ q, poolsR ra ca xs rb cb ys ws hs = q := ⟨_, rfl⟩
  rw [hq] at CP
  have HQ := Lib.hid hq
  clear hJ0 hA hB hW hH hR hq
  unfold pv at *
  obtain ⟨a0, a1, a2, _⟩ := HJ0.out.a.at
  obtain ⟨b0, b1, b2, _⟩ := HJ0.out.b.at
  go_enter Try.func3, Try.ntmps3
  go_wp2_with fail
  refine CP.out.mono ?_
  rintro e w2 ⟨v, rfl, hO, hb2⟩
  have hJ2 := HJ0.out.later hb2
  obtain ⟨R, cr, e, hI⟩ := hO.ip
  subst e
  clear a0 a1 a2 b0 b1 b2 HJ0 CP hO hb2
  unfold pv
  have k1 : Below w2.heap.size w2 (w2.alloc (.cells #[.int .i64 r, .int .i64 c, .slice R l.length cr] 24)) := (Below.refl _ _).alloc (Nat.le_refl _) _
  have hP := PB.new w2 r c (.slice R l.length cr)
  have hJ3 := hJ2.later k1
  have hI3 := hI.later k1
  have CG := Lib.hid (gPools_any ra ca rb cb A B W H ka kb wc hc xs ys ws hs _ (HA.out.later hJ3.bl) (HB.out.later hJ3.bl) (HW.out.later hJ3.bl) (HH.out.later hJ3.bl) HRR.out)
  rw [HQ.out] at CG
  unfold pv at CG
  obtain ⟨a0, a1, a2, _⟩ := hJ3.a.at
  obtain ⟨b0, b1, b2, _⟩ := hJ3.b.at
  have HJ3 := Lib.hid hJ3
  have HP := Lib.hid hP
  have HI3 := Lib.hid hI3
  clear k1 hP hJ3 hI3 hJ2 hI
  go_wp2_with fail
  refine CG.out.mono ?_
  rintro e w4 ⟨v, rfl, hO, hb4⟩
  obtain ⟨V, cv, e, hI⟩ := hO.ip
  subst e
  have hJ4 := HJ3.out.later hb4
  have hP4 := HP.out.later hb4
  have hI4 := HI3.out.later hb4
  clear a0 a1 a2 b0 b1 b2 HJ3 CG hO hb4 HP HI3 HA HB HW HH HRR HQ
  unfold pv
  have k1 : Below w4.heap.size w4 (w4.alloc (.cells #[.int .i64 r, .int .i64 c, .slice V l.length cv] 24)) := (Below.refl _ _).alloc (Nat.le_refl _) _
  have hQ := PB.new w4 r c (.slice V l.length cv)
  have HBL := Lib.hid (hJ4.later k1).bl
  have CS := Lib.hid (samePool_any r c r c R V cr cv l l _ (hI4.later k1) (hI.later k1))
  rw [sameB_self] at CS
  unfold pv at CS
  obtain ⟨p0, p1, p2, _⟩ := (hP4.later k1).at
  obtain ⟨q0, q1, q2, _⟩ := hQ.at
  have ter : ((er : Int) != er) = false := by simp
  clear k1 hQ hJ4 hP4 hI4 hI
  by_cases hb : CB n m k f
  · have e1 : cntR n m k f = (0, 2) := if_pos hb
    rw [e1] at CC
    unfold ptup at CC
    rw [cb_iff] at hb
    go_wp2_with fail
    refine (CC _).out.mono ?_
    rintro e w5 ⟨rfl, rfl⟩
    go_wp2_with fail
    refine CS.out.mono ?_
    rintro e w6 ⟨rfl, hb6⟩
    have HB6 := Lib.hid (HBL.out.trans (hb6.mono HBL.out.size))
    clear hb6 CS CC p0 p1 p2 q0 q1 q2
    rcases (show n < 0 ∨ (0 ≤ n ∧ m < 0) ∨ (0 ≤ n ∧ 0 ≤ m ∧ 25 < n) ∨ (0 ≤ n ∧ 0 ≤ m ∧ n ≤ 25 ∧ 25 < m) ∨ (0 ≤ n ∧ 0 ≤ m ∧ n ≤ 25 ∧ m ≤ 25 ∧ f < 0) ∨ (0 ≤ n ∧ 0 ≤ m ∧ n ≤ 25 ∧ m ≤ 25 ∧ 0 ≤ f ∧ k < f) by omega) with h | ⟨h1, h⟩ | ⟨h1, h2, h⟩ | ⟨h1, h2, h3, h⟩ | ⟨h1, h2, h3, h4, h⟩ | ⟨h1, h2, h3, h4, h5, h⟩
    all_goals
      clear hb
      go_wp2
      go_ret
      exact ⟨rfl, HB6.out⟩
  · have e1 : cntR n m k f = (((bc n.toNat f.toNat * bc m.toNat (k - f).toNat : Nat) : Int), 0) := if_neg hb
    rw [e1] at CC
    unfold ptup at CC
    rw [cb_iff] at hb
    obtain ⟨N, rfl⟩ : ∃ N : Nat, n = N := ⟨n.toNat, by omega⟩
    obtain ⟨M, rfl⟩ : ∃ M : Nat, m = M := ⟨m.toNat, by omega⟩
    obtain ⟨F, rfl⟩ : ∃ F : Nat, f = F := ⟨f.toNat, by omega⟩
    obtain ⟨D, hD⟩ : ∃ D : Nat, k - (F : Int) = D := ⟨(k - F).toNat, by omega⟩
    rw [Int.toNat_natCast, Int.toNat_natCast, Int.toNat_natCast, hD, Int.toNat_natCast] at CC
    have n1 : (N : Int) ≤ 25 := by omega
    have m1 : (M : Int) ≤ 25 := by omega
    have f1 : (F : Int) ≤ k := by omega
    have x1 := bc_25 (show N ≤ 25 by omega) F
    have x2 := bc_25 (show M ≤ 25 by omega) D
    have g1 : N < F → bc N F = 0 := bc_gt
    have g2 : M < D → bc M D = 0 := bc_gt
    have E1 := fun wx : World => Lib.hid (eOf_any N F wx (by omega) (by omega))
    have E2 := fun wx : World => Lib.hid (eOf_any M D wx (by omega) (by omega))
    clear hb e1
    generalize bc N F = x at *
    generalize bc M D = y at *
    have hxy : x * y ≤ 33554432 * 33554432 := Nat.mul_le_mul x1 x2
    have hm : (x : Int) * (y : Int) = ((x * y : Nat) : Int) := by push_cast; rfl
    have hz : (N < F ∨ M < D) → x * y = 0 := by
      rintro (h | h)
      · rw [g1 h, Nat.zero_mul]
      · rw [g2 h, Nat.mul_zero]
    generalize x * y = z at *
    have hzz : ((z : Int) == (z : Int)) = true := by simp
    have HG := Lib.hid (And.intro g1 g2)
    clear g1 g2
    go_wp2_with fail
    refine (CC _).out.mono ?_
    rintro e w5 ⟨rfl, rfl⟩
    go_wp2_with fail
    refine CS.out.mono ?_
    rintro e w6 ⟨rfl, hb6⟩
    have HB6 := Lib.hid (HBL.out.trans (hb6.mono HBL.out.size))
    clear hb6 CS CC p0 p1 p2 q0 q1 q2
    by_cases hgo : F ≤ N ∧ D ≤ M
    · obtain ⟨g3, g4⟩ := hgo
      have i1 : (F : Int) ≤ (N : Int) := by omega
      have i2 : (D : Int) ≤ (M : Int) := by omega
      clear hz
      go_wp2_with fail
      refine (E1 _).out.mono ?_
      rintro e w7 ⟨rfl, hb7⟩
      go_wp2_with fail
      refine (E2 _).out.mono ?_
      rintro e w8 ⟨rfl, hb8⟩
      have HB7 := Lib.hid (HB6.out.trans (hb7.mono HB6.out.size))
      have HB8 := Lib.hid (HB7.out.trans (hb8.mono HB7.out.size))
      clear hb7 hb8 E1 E2
      go_wp2
      go_ret
      exact ⟨rfl, HB8.out⟩
    · have hz0 := hz (by omega)
      subst hz0
      clear hz E1 E2
      rcases (show (N : Int) < F ∨ ((F : Int) ≤ N ∧ (M : Int) < D) by omega) with g3 | ⟨g3, g4⟩
      · go_wp2
        go_ret
        exact ⟨rfl, HB6.out⟩
      · go_wp2
        go_ret
        exact ⟨rfl, HB6.out⟩
end Go.Proofs.Ytgmbhlkjnamjhaa
