/- lotdrawerlaw.PpsTakes: the walk. -/
import Derived.Test.YthfnnceehhhfkaaY3
import Derived.Test.YthfnnceehhhfkaaY5
import Derived.Test.YthfnnceehhhfkaaY6
namespace Go.Proofs.Ythfnnceehhhfkaa
open Go.RowKit Go.Deep

set_option maxRecDepth 100000 in
set_option maxHeartbeats 4000000 in
theorem ppsTakes_walk (A : Option Addr) (ca : Nat) (W : List Int) (m s k : Int) (w : World) (hW : IP w A ca W) :
    Calls Try.prog 3 #[.slice A W.length ca, .int .i64 m, .int .i64 s, .int .i64 k] w fun e w' => e = .returned (.bool true) ∧ Below w.heap.size w w' := by
  have hle := hW.le
  have hcap := hW.cap
  have C1 := Lib.hid (psum_any A ca W m w hW)
  have C2 := Lib.hid (jsum_any A ca W m w hW)
  have C3 := Lib.hid (take_any A ca W m s w hW)
  have C4 : Hid (∀ w' : World, Below w.heap.size w w' → Calls Try.prog 11 #[.slice A W.length ca, .int .i64 m, .int .i64 s] w' (LPost w' (takeP W m s))) := fun w' h => jtake_any A ca W m s w' (hW.later h)
  have C5 : Hid (∀ w' : World, Below w.heap.size w w' → Calls Try.prog 12 #[.slice A W.length ca, .int .i64 m, .int .i64 k] w' fun e w'' => e = .returned (ptup (shrP W m k)) ∧ w' = w'') := fun w' h => share_any A ca W m k w' (hW.later h)
  have HW := Lib.hid hW
  have hs := sumP_two W m
  obtain ⟨⟨D, f⟩, hD⟩ : ∃ q, takeP W m s = q := ⟨_, rfl⟩
  rw [hD] at C3 C4
  have n3 : (f != f) = false := ineq_no rfl
  clear hW hD
  rcases hs with ⟨er, h, he⟩ | ⟨n, rfl, h, hP, h0⟩
  · rw [h] at C1 C2
    rw [shrP_err h he] at C5
    have n2 : (er != er) = false := ineq_no rfl
    have t1 : (er != 0) = true := ineq_yes he
    have t2 : (er == er) = true := by simp
    unfold ptup at C1 C2 C5
    clear h he
    go_enter Try.func3, Try.ntmps3
    go_wp2_with fail
    refine C1.out.mono ?_
    rintro e w1 ⟨rfl, rfl⟩
    clear C1
    go_wp2_with fail
    refine C2.out.mono ?_
    rintro e w1 ⟨rfl, rfl⟩
    clear C2
    go_wp2_with fail
    refine C3.out.mono ?_
    rintro e w2 ⟨R2, c2', rfl, hD2, hb2⟩
    unfold ltup
    have HD2 := Lib.hid hD2
    have HB2 := Lib.hid hb2
    have C4 := Lib.hid (C4.out w2 hb2)
    clear hD2 hb2 C3
    go_wp2_with fail
    refine C4.out.mono ?_
    rintro e w3 ⟨R3, c3, rfl, hD3, hb3⟩
    unfold ltup
    have hdl : D.length ≤ c3 := hD3.le
    have hdc : c3 ≤ 9223372036854775807 := hD3.cap
    have C6 := Lib.hid (iequal_any R2 R3 c2' c3 D D w3 (HD2.out.later hb3).il hD3.il (by omega) (by omega))
    simp only [decide_true] at C6
    have HB3 := Lib.hid (HB2.out.trans (hb3.mono HB2.out.size))
    have C5 := Lib.hid (C5.out w3 HB3.out)
    clear hD3 hb3 C4 HB2 HD2
    go_wp2_with fail
    refine C5.out.mono ?_
    rintro e w4 ⟨rfl, rfl⟩
    clear C5
    go_wp2_with fail
    refine C6.out.mono ?_
    rintro e w4 ⟨rfl, hb4⟩
    have HB4 := Lib.hid (HB3.out.trans (hb4.mono HB3.out.size))
    clear hb4 C6
    go_wp2
    go_ret
    exact ⟨rfl, HB4.out⟩
  · rw [h] at C1 C2
    have n1 : (sumW W != sumW W) = false := ineq_no rfl
    unfold ptup at C1 C2
    have HP := Lib.hid hP
    by_cases hk : 0 ≤ k ∧ k < W.length
    · obtain ⟨j, rfl⟩ : ∃ j : Nat, k = j := ⟨k.toNat, by omega⟩
      have hj : j < W.length := by omega
      rw [shrP_in h hj] at C5
      have hx := HP.out.at j
      have hm := HP.out.2.2
      obtain ⟨hx1, hx2⟩ := mul_bound (B := 1048576) hx.1 hx.2 (Int.le_trans (by decide) hm.1) hm.2 (by omega)
      have t0 : decide ((j : Int) < 0) = false := by rw [decide_eq_false_iff_not]; omega
      have t1 : decide ((W.length : Int) ≤ (j : Int)) = false := by rw [decide_eq_false_iff_not]; omega
      have t2 : decide (W.length ≤ j) = false := by rw [decide_eq_false_iff_not]; omega
      obtain ⟨y, hy⟩ : ∃ y, W.getD j 0 * (n : Int) = y := ⟨_, rfl⟩
      rw [hy] at hx1 hx2 C5
      have ty : (y == y) = true := by simp
      obtain ⟨x, hxx⟩ : ∃ x, W.getD j 0 = x := ⟨_, rfl⟩
      have HX := Lib.hid hxx
      rw [hxx] at hy hx
      unfold ptup at C5
      clear h hP hk hxx
      generalize sumW W = S at *
      go_enter Try.func3, Try.ntmps3
      go_wp2_with fail
      refine C1.out.mono ?_
      rintro e w1 ⟨rfl, rfl⟩
      clear C1
      go_wp2_with fail
      refine C2.out.mono ?_
      rintro e w1 ⟨rfl, rfl⟩
      clear C2
      go_wp2_with fail
      refine C3.out.mono ?_
      rintro e w2 ⟨R2, c2', rfl, hD2, hb2⟩
      unfold ltup
      have HD2 := Lib.hid hD2
      have HB2 := Lib.hid hb2
      have C4 := Lib.hid (C4.out w2 hb2)
      clear hD2 hb2 C3
      go_wp2_with fail
      refine C4.out.mono ?_
      rintro e w3 ⟨R3, c3, rfl, hD3, hb3⟩
      unfold ltup
      have hdl : D.length ≤ c3 := hD3.le
      have hdc : c3 ≤ 9223372036854775807 := hD3.cap
      have C6 := Lib.hid (iequal_any R2 R3 c2' c3 D D w3 (HD2.out.later hb3).il hD3.il (by omega) (by omega))
      simp only [decide_true] at C6
      have HB3 := Lib.hid (HB2.out.trans (hb3.mono HB2.out.size))
      have C5 := Lib.hid (C5.out w3 HB3.out)
      clear hD3 hb3 C4 HB2 HD2
      go_wp2_with fail
      refine C5.out.mono ?_
      rintro e w4 ⟨rfl, rfl⟩
      clear C5
      go_wp2_with fail
      refine C6.out.mono ?_
      rintro e w4 ⟨rfl, hb4⟩
      have HB4 := Lib.hid (HB3.out.trans (hb4.mono HB3.out.size))
      obtain ⟨b, off, rfl, _, hcell⟩ := (HW.out.later HB4.out).il.at (by omega)
      have hci := hcell j hj
      rw [HX.out] at hci
      clear hb4 C6 hcell
      go_wp2
      go_ret
      exact ⟨rfl, HB4.out⟩
    · rw [shrP_out h hk] at C5
      unfold ptup at C5
      have hk2 : (k < 0 ∧ decide (k < 0) = true) ∨ ((W.length : Int) ≤ k ∧ decide (k < 0) = false ∧ decide ((W.length : Int) ≤ k) = true) := by
        by_cases h : k < 0
        · exact .inl ⟨h, decide_eq_true h⟩
        · exact .inr ⟨by omega, decide_eq_false h, decide_eq_true (by omega)⟩
      clear h hP hk
      generalize sumW W = S at *
      rcases hk2 with ⟨h, t1⟩ | ⟨h, t1, t2⟩
      all_goals
        go_enter Try.func3, Try.ntmps3
        go_wp2_with fail
        refine C1.out.mono ?_
        rintro e w1 ⟨rfl, rfl⟩
        clear C1
        go_wp2_with fail
        refine C2.out.mono ?_
        rintro e w1 ⟨rfl, rfl⟩
        clear C2
        go_wp2_with fail
        refine C3.out.mono ?_
        rintro e w2 ⟨R2, c2', rfl, hD2, hb2⟩
        unfold ltup
        have HD2 := Lib.hid hD2
        have HB2 := Lib.hid hb2
        have C4 := Lib.hid (C4.out w2 hb2)
        clear hD2 hb2 C3
        go_wp2_with fail
        refine C4.out.mono ?_
        rintro e w3 ⟨R3, c3, rfl, hD3, hb3⟩
        unfold ltup
        have hdl : D.length ≤ c3 := hD3.le
        have hdc : c3 ≤ 9223372036854775807 := hD3.cap
        have C6 := Lib.hid (iequal_any R2 R3 c2' c3 D D w3 (HD2.out.later hb3).il hD3.il (by omega) (by omega))
        simp only [decide_true] at C6
        have HB3 := Lib.hid (HB2.out.trans (hb3.mono HB2.out.size))
        have C5 := Lib.hid (C5.out w3 HB3.out)
        clear hD3 hb3 C4 HB2 HD2
        go_wp2_with fail
        refine C5.out.mono ?_
        rintro e w4 ⟨rfl, rfl⟩
        clear C5
        go_wp2_with fail
        refine C6.out.mono ?_
        rintro e w4 ⟨rfl, hb4⟩
        have HB4 := Lib.hid (HB3.out.trans (hb4.mono HB3.out.size))
        clear hb4 C6
        go_wp2
        go_ret
        exact ⟨rfl, HB4.out⟩
end Go.Proofs.Ythfnnceehhhfkaa
