/- lotdrawerkeep.LfsrBack. -/
import Derived.Test.YtcadpgpenjpdiaaXl9
namespace Go.Proofs.Ytcadpgpenjpdiaa
open Go.RowKit Go.Deep

theorem beqN {x y : Nat} : ((x : Int) == (y : Int)) = decide (x = y) := by
  rw [Bool.eq_iff_iff, beq_iff_eq, decide_eq_true_iff]; omega
theorem beqZ {x : Nat} : ((x : Int) == 0) = decide (x = 0) := by
  rw [Bool.eq_iff_iff, beq_iff_eq, decide_eq_true_iff]; omega
theorem nst_eqs {n t a b : Nat} (h : NR n t) (ha : a < 2 ^ n) (hb : b < 2 ^ n) : (nst n t a = nst n t b ↔ a = b) ∧ (nst n t a = 0 ↔ a = 0) :=
  ⟨⟨nst_inj h ha hb, fun e => by rw [e]⟩, ⟨fun e => nst_inj h ha (Nat.two_pow_pos n) (by rw [e, nst_zero]), fun e => by rw [e, nst_zero]⟩⟩

set_option maxRecDepth 100000 in
set_option maxHeartbeats 2000000 in
theorem lfsrBack_walk (n : Int) (t a b : Nat) (ht : t < 4294967296) (ha : a < 4294967296) (hb : b < 4294967296) (w : World) : Calls Try.prog 5 #[.int .i64 n, .int .u32 (t : Int), .int .u32 (a : Int), .int .u32 (b : Int)] w fun e w' => e = .returned (.bool true) ∧ Below w.heap.size w w' := by
  have CA := Lib.hid alive14_any
  by_cases h1 : OKh n t a
  · by_cases h2 : OKh n t b
    · obtain ⟨k, rfl, hR, hak⟩ := OKh.of h1
      obtain ⟨k', hkk, hR', hbk⟩ := OKh.of h2
      have : k' = k := by omega
      subst this
      clear hR' h1 h2 hkk
      have C1 := Lib.hid (step_ok hR hak)
      have C2 := Lib.hid (step_ok hR hbk)
      have C3 := Lib.hid (back_ok hR (nst_lt hR.lo t a))
      rw [bkn_nst hR hak] at C3
      obtain ⟨q1, q2⟩ := nst_eqs hR hak hbk
      have e1 : ((nst k' t a : Int) == (nst k' t b : Int)) = decide (a = b) := by rw [beqN, decide_eq_decide]; exact q1
      have e2 : ((a : Int) == (b : Int)) = decide (a = b) := beqN
      have e3 : ((nst k' t a : Int) == 0) = decide (a = 0) := by rw [beqZ, decide_eq_decide]; exact q2
      have e4 : ((a : Int) == 0) = decide (a = 0) := beqZ
      clear q1 q2 hR hak hbk
      generalize nst k' t a = x at *
      generalize nst k' t b = y at *
      generalize decide (a = b) = p at *
      generalize decide (a = 0) = z at *
      cases p <;> cases z <;> (
        go_enter Try.func5, Try.ntmps5
        go_wp2_with fail
        refine (CA.out _).mono ?_
        rintro e w1 ⟨rfl, hb1⟩
        go_wp2_with fail
        refine (C1.out _).mono ?_
        rintro e w2 ⟨rfl, hb2⟩
        have HB2 := Lib.hid (hb1.trans (hb2.mono hb1.size))
        clear hb1 hb2
        go_wp2_with fail
        refine (C2.out _).mono ?_
        rintro e w3 ⟨rfl, hb3⟩
        have HB3 := Lib.hid (HB2.out.trans (hb3.mono HB2.out.size))
        clear hb3 HB2
        go_wp2_with fail
        refine (C3.out _).mono ?_
        rintro e w4 ⟨rfl, hb4⟩
        have HB4 := Lib.hid (HB3.out.trans (hb4.mono HB3.out.size))
        clear hb4 HB3
        go_wp2
        go_ret
        exact ⟨rfl, HB4.out⟩)
    · obtain ⟨k, rfl, hR, hak⟩ := OKh.of h1
      have C1 := Lib.hid (step_ok hR hak)
      have C2 := Lib.hid (step_bad ht hb h2)
      clear h1 h2 hR hak
      generalize nst k t a = x at *
      go_enter Try.func5, Try.ntmps5
      go_wp2_with fail
      refine (CA.out _).mono ?_
      rintro e w1 ⟨rfl, hb1⟩
      go_wp2_with fail
      refine (C1.out _).mono ?_
      rintro e w2 ⟨rfl, hb2⟩
      have HB2 := Lib.hid (hb1.trans (hb2.mono hb1.size))
      clear hb1 hb2
      go_wp2_with fail
      refine (C2.out _).mono ?_
      rintro e w3 ⟨rfl, rfl⟩
      go_wp2
      go_ret
      exact ⟨rfl, HB2.out⟩
  · have C1 := Lib.hid (step_bad ht ha h1)
    clear h1
    by_cases h2 : OKh n t b
    · obtain ⟨k, rfl, hR, hbk⟩ := OKh.of h2
      have C2 := Lib.hid (step_ok hR hbk)
      clear h2 hR hbk
      generalize nst k t b = y at *
      go_enter Try.func5, Try.ntmps5
      go_wp2_with fail
      refine (CA.out _).mono ?_
      rintro e w1 ⟨rfl, hb1⟩
      have HB1 := Lib.hid hb1
      clear hb1
      go_wp2_with fail
      refine (C1.out _).mono ?_
      rintro e w2 ⟨rfl, rfl⟩
      go_wp2_with fail
      refine (C2.out _).mono ?_
      rintro e w3 ⟨rfl, hb3⟩
      have HB3 := Lib.hid (HB1.out.trans (hb3.mono HB1.out.size))
      clear hb3 HB1
      go_wp2
      go_ret
      exact ⟨rfl, HB3.out⟩
    · have C2 := Lib.hid (step_bad ht hb h2)
      clear h2
      go_enter Try.func5, Try.ntmps5
      go_wp2_with fail
      refine (CA.out _).mono ?_
      rintro e w1 ⟨rfl, hb1⟩
      have HB1 := Lib.hid hb1
      clear hb1
      go_wp2_with fail
      refine (C1.out _).mono ?_
      rintro e w2 ⟨rfl, rfl⟩
      go_wp2_with fail
      refine (C2.out _).mono ?_
      rintro e w3 ⟨rfl, rfl⟩
      go_wp2
      go_ret
      exact ⟨rfl, HB1.out⟩
end Go.Proofs.Ytcadpgpenjpdiaa
