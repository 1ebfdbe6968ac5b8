/- lotdrawerref.GPools. -/
import Derived.Test.YtgmbhlkjnamjhaaJe1
import Derived.Test.YtgmbhlkjnamjhaaJe2
namespace Go.Proofs.Ytgmbhlkjnamjhaa
open Go.RowKit Go.Deep Go.Maps

set_option maxRecDepth 100000 in
set_option maxHeartbeats 8000000 in
theorem gPools_any (ra ca rb cb : Int) (A B W H : Option Addr) (ka kb wc hc : Nat) (xs ys ws hs : List Int) (w : World) (hA : IP w A ka xs) (hB : IP w B kb ys) (hW : IP w W wc ws) (hH : IP w H hc hs) (hR : ∀ n ∈ hs, -9223372036854775808 ≤ n ∧ n ≤ 9223372036854775807) :
    Calls Try.prog 8 #[pv ra ca (.slice A xs.length ka), pv rb cb (.slice B ys.length kb), .slice W ws.length wc, .slice H hs.length hc] w (PPost w.heap.size w (poolsR ra ca xs rb cb ys ws hs)) := by
  have HJ0 := Lib.hid (JB.new w ra ca (.slice A xs.length ka) rb cb (.slice B ys.length kb))
  have RA : Hid (∀ wx, Calls Try.prog 21 #[pv ra ca (.slice A xs.length ka)] wx fun e w' => e = .returned (.bool (prB ra ca xs)) ∧ Below wx.heap.size wx w') := fun wx => fRight_any ra ca A ka xs wx
  have RB : Hid (∀ wx, Calls Try.prog 21 #[pv rb cb (.slice B ys.length kb)] wx fun e w' => e = .returned (.bool (prB rb cb ys)) ∧ Below wx.heap.size wx w') := fun wx => fRight_any rb cb B kb ys wx
  have HA := Lib.hid hA
  have HB := Lib.hid hB
  have HW := Lib.hid hW
  have HH := Lib.hid hH
  have lw := hW.le
  have lh := hH.le
  have cw := hW.cap
  have ch := hH.cap
  clear hA hB hW hH
  have HR := Lib.hid hR
  have hmm := @run_makeMap Try.prog
  clear hR
  unfold pv at *
  by_cases pa : PR ra ca xs
  · have ea : prB ra ca xs = true := decide_eq_true pa
    rw [ea] at RA
    clear ea
    by_cases pb : PR rb cb ys
    · have eb : prB rb cb ys = true := decide_eq_true pb
      rw [eb] at RB
      clear eb
      by_cases er : ra = rb
      · have hj : JR ra ca xs rb cb ys := ⟨pa, pb, er⟩
        have HE : Hid (poolsR ra ca xs rb cb ys ws hs = _) := if_pos hj
        have pa0 := pa
        have pb0 := pb
        obtain ⟨⟨pa1, pa2⟩, pa3, pa4, pa5⟩ := pa
        obtain ⟨_, pb3, pb4, pb5⟩ := pb
        have xl : xs.length ≤ 400 := by omega
        have yl : ys.length ≤ 400 := by omega
        clear hj pa5 pb5
        subst er
        obtain ⟨R, rfl⟩ : ∃ R : Nat, ra = R := ⟨ra.toNat, by omega⟩
        obtain ⟨P, rfl⟩ : ∃ P : Nat, ca = P := ⟨ca.toNat, by omega⟩
        obtain ⟨Q, rfl⟩ : ∃ Q : Nat, cb = Q := ⟨cb.toNat, by omega⟩
        obtain ⟨M, hM⟩ : ∃ M : Nat, (P : Int) + (Q : Int) = M := ⟨P + Q, by omega⟩
        rw [hM] at HE
        have tne : ((R : Int) != (R : Int)) = false := by simp
        by_cases hfull : (1099511627776 : Int) < M
        · have E := Lib.hid (HE.out.trans (if_pos hfull))
          clear HE
          go_enter Try.func8, Try.ntmps8
          go_wp2_with fail
          refine (RA.out _).mono ?_
          rintro e w1 ⟨rfl, hb1⟩
          have HJ1 := Lib.hid (HJ0.out.later hb1)
          clear hb1 HJ0
          obtain ⟨b0, b1, b2, _, _, _⟩ := HJ1.out.b.at
          go_wp2_with fail
          refine (RB.out _).mono ?_
          rintro e w2 ⟨rfl, hb2⟩
          have HJ2 := Lib.hid (HJ1.out.later hb2)
          clear hb2 HJ1 b0 b1 b2
          obtain ⟨a0, a1, a2, _, _, _⟩ := HJ2.out.a.at
          obtain ⟨b0, b1, b2, _, _, _⟩ := HJ2.out.b.at
          obtain ⟨c0, c1, c2, c3, c4, c5⟩ := HJ2.out.c.at
          go_wp2
          have hr := HJ2.out.ret E.out
          exact ret_pool (p := 8) (u := 9) rfl rfl rfl hr.1 rfl hr.2
        · have HE2 := Lib.hid (HE.out.trans (if_neg hfull))
          clear HE
          obtain ⟨N, hN⟩ : ∃ N : Nat, min (R : Int) (M : Int) = N := ⟨min R M, by omega⟩
          rw [hN] at HE2
          rcases (show ws.length < N ∨ (N ≤ ws.length ∧ hs.length < N) ∨ (N ≤ ws.length ∧ N ≤ hs.length) by omega) with hs1 | ⟨hs1, hs2⟩ | ⟨hs1, hs2⟩
          · have E := Lib.hid (HE2.out.trans (if_pos (.inl (by omega))))
            clear HE2
            rcases (show ((R : Int) < M ∧ N = R) ∨ ((M : Int) ≤ R ∧ N = M) by omega) with ⟨hrm, rfl⟩ | ⟨hrm, rfl⟩
            all_goals
              go_enter Try.func8, Try.ntmps8
              go_wp2_with fail
              refine (RA.out _).mono ?_
              rintro e w1 ⟨rfl, hb1⟩
              have HJ1 := Lib.hid (HJ0.out.later hb1)
              clear hb1 HJ0
              obtain ⟨b0, b1, b2, _, _, _⟩ := HJ1.out.b.at
              go_wp2_with fail
              refine (RB.out _).mono ?_
              rintro e w2 ⟨rfl, hb2⟩
              have HJ2 := Lib.hid (HJ1.out.later hb2)
              clear hb2 HJ1 b0 b1 b2
              obtain ⟨a0, a1, a2, _, _, _⟩ := HJ2.out.a.at
              obtain ⟨b0, b1, b2, _, _, _⟩ := HJ2.out.b.at
              obtain ⟨c0, c1, c2, c3, c4, c5⟩ := HJ2.out.c.at
              go_wp2
              have hr := HJ2.out.ret E.out
              exact ret_pool (p := 8) (u := 9) rfl rfl rfl hr.1 rfl hr.2
          · have E := Lib.hid (HE2.out.trans (if_pos (.inr (by omega))))
            clear HE2
            rcases (show ((R : Int) < M ∧ N = R) ∨ ((M : Int) ≤ R ∧ N = M) by omega) with ⟨hrm, rfl⟩ | ⟨hrm, rfl⟩
            all_goals
              go_enter Try.func8, Try.ntmps8
              go_wp2_with fail
              refine (RA.out _).mono ?_
              rintro e w1 ⟨rfl, hb1⟩
              have HJ1 := Lib.hid (HJ0.out.later hb1)
              clear hb1 HJ0
              obtain ⟨b0, b1, b2, _, _, _⟩ := HJ1.out.b.at
              go_wp2_with fail
              refine (RB.out _).mono ?_
              rintro e w2 ⟨rfl, hb2⟩
              have HJ2 := Lib.hid (HJ1.out.later hb2)
              clear hb2 HJ1 b0 b1 b2
              obtain ⟨a0, a1, a2, _, _, _⟩ := HJ2.out.a.at
              obtain ⟨b0, b1, b2, _, _, _⟩ := HJ2.out.b.at
              obtain ⟨c0, c1, c2, c3, c4, c5⟩ := HJ2.out.c.at
              go_wp2
              have hr := HJ2.out.ret E.out
              exact ret_pool (p := 8) (u := 9) rfl rfl rfl hr.1 rfl hr.2
          · have HE3 := Lib.hid (HE2.out.trans (if_neg (by omega)))
            rw [Int.toNat_natCast] at HE3
            clear HE2
            rcases (show ((R : Int) < M ∧ N = R) ∨ ((M : Int) ≤ R ∧ N = M) by omega) with ⟨hrm, rfl⟩ | ⟨hrm, rfl⟩
            · exact gPools_lt A B W H ka kb wc hc xs ys ws hs w HA.out HB.out HW.out HH.out HR.out N P Q M pa0 pb0 hM hfull hrm hs1 hs2
            · exact gPools_ge A B W H ka kb wc hc xs ys ws hs w HA.out HB.out HW.out HH.out HR.out N P Q R pa0 pb0 hM hfull hrm hs1 hs2
      · have E := Lib.hid (poolsR_form (ws := ws) (hs := hs) (fun h : JR ra ca xs rb cb ys => er h.2.2))
        have tne : (ra != rb) = true := by simp [er]
        clear pa pb
        go_enter Try.func8, Try.ntmps8
        go_wp2_with fail
        refine (RA.out _).mono ?_
        rintro e w1 ⟨rfl, hb1⟩
        have HJ1 := Lib.hid (HJ0.out.later hb1)
        clear hb1 HJ0
        obtain ⟨b0, b1, b2, _, _, _⟩ := HJ1.out.b.at
        go_wp2_with fail
        refine (RB.out _).mono ?_
        rintro e w2 ⟨rfl, hb2⟩
        have HJ2 := Lib.hid (HJ1.out.later hb2)
        clear hb2 HJ1 b0 b1 b2
        obtain ⟨a0, a1, a2, _, _, _⟩ := HJ2.out.a.at
        obtain ⟨b0, b1, b2, _, _, _⟩ := HJ2.out.b.at
        obtain ⟨c0, c1, c2, c3, c4, c5⟩ := HJ2.out.c.at
        go_wp2
        have hr := HJ2.out.ret E.out
        exact ret_pool (p := 8) (u := 9) rfl rfl rfl hr.1 rfl hr.2
    · have eb : prB rb cb ys = false := decide_eq_false pb
      rw [eb] at RB
      have E := Lib.hid (poolsR_form (ws := ws) (hs := hs) (fun h : JR ra ca xs rb cb ys => pb h.2.1))
      clear pa pb eb
      go_enter Try.func8, Try.ntmps8
      go_wp2_with fail
      refine (RA.out _).mono ?_
      rintro e w1 ⟨rfl, hb1⟩
      have HJ1 := Lib.hid (HJ0.out.later hb1)
      clear hb1 HJ0
      obtain ⟨b0, b1, b2, _, _, _⟩ := HJ1.out.b.at
      go_wp2_with fail
      refine (RB.out _).mono ?_
      rintro e w2 ⟨rfl, hb2⟩
      have HJ2 := Lib.hid (HJ1.out.later hb2)
      clear hb2 HJ1 b0 b1 b2
      obtain ⟨a0, a1, a2, _, _, _⟩ := HJ2.out.a.at
      obtain ⟨b0, b1, b2, _, _, _⟩ := HJ2.out.b.at
      obtain ⟨c0, c1, c2, c3, c4, c5⟩ := HJ2.out.c.at
      go_wp2
      have hr := HJ2.out.ret E.out
      exact ret_pool (p := 8) (u := 9) rfl rfl rfl hr.1 rfl hr.2
  · have ea : prB ra ca xs = false := decide_eq_false pa
    rw [ea] at RA
    have E := Lib.hid (poolsR_form (ws := ws) (hs := hs) (fun h : JR ra ca xs rb cb ys => pa h.1))
    clear pa ea
    go_enter Try.func8, Try.ntmps8
    go_wp2_with fail
    refine (RA.out _).mono ?_
    rintro e w1 ⟨rfl, hb1⟩
    have HJ1 := Lib.hid (HJ0.out.later hb1)
    clear hb1 HJ0
    obtain ⟨c0, c1, c2, c3, c4, c5⟩ := HJ1.out.c.at
    go_wp2
    have hr := HJ1.out.ret E.out
    exact ret_pool (p := 8) (u := 9) rfl rfl rfl hr.1 rfl hr.2
end Go.Proofs.Ytgmbhlkjnamjhaa
