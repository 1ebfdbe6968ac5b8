/- pps.Share. -/
import Derived.Test.YthfnnceehhhfkaaY1
namespace Go.Proofs.Ythfnnceehhhfkaa
open Go.RowKit Go.Deep

/-- How often index k is taken, over all starts. -/
noncomputable def shrP (W : List Int) (m k : Int) : Int × Int := if (sumP W m).2 = 0 then (if 0 ≤ k ∧ k < W.length then (W.getD k.toNat 0 * m, 0) else (0, 3)) else (0, (sumP W m).2)
theorem shrP_err {W : List Int} {m e k : Int} (h : sumP W m = (0, e)) (he : e ≠ 0) : shrP W m k = (0, e) := by
  unfold shrP; rw [h]; exact if_neg he
theorem shrP_out {W : List Int} {m k : Int} (h : sumP W m = (sumW W, 0)) (hs : ¬ (0 ≤ k ∧ k < W.length)) : shrP W m k = (0, 3) := by
  unfold shrP; rw [h]; rw [if_pos rfl, if_neg hs]
theorem shrP_in {W : List Int} {m : Int} {k : Nat} (h : sumP W m = (sumW W, 0)) (hk : k < W.length) : shrP W m (k : Int) = (W.getD k 0 * m, 0) := by
  unfold shrP; rw [h, if_pos rfl, if_pos (by omega), Int.toNat_natCast]

set_option maxRecDepth 100000 in
set_option maxHeartbeats 1000000 in
theorem share_any (A : Option Addr) (ca : Nat) (W : List Int) (m k : Int) (w : World) (hW : IP w A ca W) :
    Calls Try.prog 12 #[.slice A W.length ca, .int .i64 m, .int .i64 k] w fun e w' => e = .returned (ptup (shrP W m k)) ∧ w = w' := by
  have hle := hW.le
  have hcap := hW.cap
  have C := Lib.hid (psum_any A ca W m w hW)
  unfold ptup at C
  have hs : (∃ e : Int, sumP W m = (0, e) ∧ e ≠ 0) ∨ (sumP W m = (sumW W, 0) ∧ WP W m) := by
    rcases sumP_cases W m with ⟨h, _⟩ | ⟨h, _⟩ | ⟨h, h2, _⟩
    · exact .inl ⟨2, h, by decide⟩
    · exact .inl ⟨3, h, by decide⟩
    · exact .inr ⟨h, h2⟩
  rcases hs with ⟨er, h, he⟩ | ⟨h, hP⟩
  · have E := Lib.hid (shrP_err (k := k) h he)
    rw [h] at C
    have t1 : (er != 0) = true := ineq_yes he
    clear hW h he
    go_enter Try.func12, Try.ntmps12
    go_wp2_with fail
    refine C.out.mono ?_
    rintro e w1 ⟨rfl, rfl⟩
    go_wp2
    go_ret2
    exact ⟨by rw [E.out]; rfl, rfl⟩
  · rw [h] at C
    by_cases hk : 0 ≤ k ∧ k < W.length
    · obtain ⟨j, rfl⟩ : ∃ j : Nat, k = j := ⟨k.toNat, by omega⟩
      have hj : j < W.length := by omega
      have E := Lib.hid (shrP_in h hj)
      obtain ⟨b, off, rfl, _, hcell⟩ := hW.il.at (by omega)
      have hci := hcell j hj
      have hx := hP.at j
      have hm := hP.2.2
      have hx1 : 0 ≤ W.getD j 0 * m := Int.mul_nonneg hx.1 (by omega)
      have hx2 : W.getD j 0 * m ≤ 1048576 * m := Int.mul_le_mul_of_nonneg_right hx.2 (by omega)
      have t0 : decide ((j : Int) < 0) = false := by rw [decide_eq_false_iff_not]; omega
      have t1 : decide ((W.length : Int) ≤ (j : Int)) = false := by rw [decide_eq_false_iff_not]; omega
      have t2 : decide (W.length ≤ j) = false := by rw [decide_eq_false_iff_not]; omega
      obtain ⟨y, hy⟩ : ∃ y, W.getD j 0 * m = y := ⟨_, rfl⟩
      rw [hy] at hx1 hx2 E
      generalize W.getD j 0 = x at *
      clear hW h hP hcell hk
      go_enter Try.func12, Try.ntmps12
      go_wp2_with fail
      refine C.out.mono ?_
      rintro e w1 ⟨rfl, rfl⟩
      go_wp2
      go_ret2
      exact ⟨by rw [E.out]; rfl, rfl⟩
    · have E := Lib.hid (shrP_out h hk)
      have hk2 : (k < 0 ∧ decide (k < 0) = true) ∨ ((W.length : Int) ≤ k ∧ decide (k < 0) = false ∧ decide ((W.length : Int) ≤ k) = true) := by
        by_cases h : k < 0
        · exact .inl ⟨h, decide_eq_true h⟩
        · exact .inr ⟨by omega, decide_eq_false h, decide_eq_true (by omega)⟩
      clear hW h hP hk
      rcases hk2 with ⟨h, t1⟩ | ⟨h, t1, t2⟩
      all_goals
        go_enter Try.func12, Try.ntmps12
        go_wp2_with fail
        refine C.out.mono ?_
        rintro e w1 ⟨rfl, rfl⟩
        go_wp2
        go_ret2
        exact ⟨by rw [E.out]; rfl, rfl⟩
end Go.Proofs.Ythfnnceehhhfkaa
