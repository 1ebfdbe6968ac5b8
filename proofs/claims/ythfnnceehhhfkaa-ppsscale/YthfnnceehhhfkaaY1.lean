/- pps.Sum. -/
import Derived.Test.YthfnnceehhhfkaaYa
import Derived.Test.YthfnnceehhhfkaaH1
namespace Go.Proofs.Ythfnnceehhhfkaa
open Go.RowKit Go.Deep

theorem sumP_out {W : List Int} {m : Int} (h : ¬ (1 ≤ m ∧ m ≤ 400)) : sumP W m = (0, 2) := if_neg (fun hw => h hw.2.2)
theorem sumP_nil {W : List Int} {m : Int} (h : 1 ≤ m ∧ m ≤ 400) (h0 : W.length = 0) : sumP W m = (0, 3) := by
  have e : W = [] := List.eq_nil_of_length_eq_zero h0
  subst e
  have hw : WP [] m := ⟨by simp, by simp, h⟩
  unfold sumP; rw [if_pos hw]; exact if_pos rfl
theorem sumP_sumC {W : List Int} {m : Int} (h : 1 ≤ m ∧ m ≤ 400) (h0 : W.length ≠ 0) : sumP W m = sumC W := by
  unfold sumP sumC
  have e : WP W m ↔ WR W := ⟨fun hw => ⟨by omega, hw.1, hw.2.1⟩, fun hw => ⟨hw.2.1, hw.2.2, h⟩⟩
  by_cases hw : WR W
  · rw [if_pos hw, if_pos (e.2 hw)]
  · rw [if_neg hw, if_neg (fun h => hw (e.1 h))]

set_option maxRecDepth 100000 in
set_option maxHeartbeats 1000000 in
theorem psum_any (A : Option Addr) (ca : Nat) (W : List Int) (m : Int) (w : World) (hW : IP w A ca W) :
    Calls Try.prog 8 #[.slice A W.length ca, .int .i64 m] w fun e w' => e = .returned (ptup (sumP W m)) ∧ w = w' := by
  have hle := hW.le
  have hcap := hW.cap
  by_cases hm : 1 ≤ m ∧ m ≤ 400
  · by_cases h0 : W.length = 0
    · have E := Lib.hid (sumP_nil hm h0)
      have hz : ((W.length : Int) == 0) = true := by rw [h0]; rfl
      have HE := Lib.hid h0
      clear hW h0
      go_enter Try.func8, Try.ntmps8
      go_wp2
      go_ret2
      exact ⟨by rw [E.out]; rfl, rfl⟩
    · have C := Lib.hid (sum_any A ca W w hW)
      have E := Lib.hid (sumP_sumC hm h0)
      have hz : ((W.length : Int) == 0) = false := eqz_no h0
      clear hW
      unfold ptup at C
      go_enter Try.func8, Try.ntmps8
      go_wp2_with fail
      refine C.out.mono ?_
      rintro e w1 ⟨rfl, rfl⟩
      go_wp2
      go_ret2
      exact ⟨by rw [E.out]; rfl, rfl⟩
  · have E := Lib.hid (sumP_out (W := W) hm)
    clear hW
    have hm2 : m < 1 ∨ 400 < m := by omega
    clear hm
    rcases hm2 with h | h
    · go_enter Try.func8, Try.ntmps8
      go_wp2
      go_ret2
      exact ⟨by rw [E.out]; rfl, rfl⟩
    · have t1 : decide (m < 1) = false := by rw [decide_eq_false_iff_not]; omega
      go_enter Try.func8, Try.ntmps8
      go_wp2
      go_ret2
      exact ⟨by rw [E.out]; rfl, rfl⟩
end Go.Proofs.Ythfnnceehhhfkaa
