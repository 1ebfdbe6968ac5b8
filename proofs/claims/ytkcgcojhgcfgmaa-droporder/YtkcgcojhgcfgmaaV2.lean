/- fen.find. -/
import Derived.Test.YtkcgcojhgcfgmaaV1
namespace Go.Proofs.Ytkcgcojhgcfgmaa
open Go.RowKit Go.Deep

set_option maxRecDepth 100000 in
set_option maxHeartbeats 1000000 in
theorem find_any (A : Option Addr) (ca : Nat) (W : List Int) (n : Int) (w : World) (hW : IP w A ca W) (hF : WF W) (hn : n ≤ 9223372036854775807) :
    Calls Try.prog 28 #[.slice A W.length ca, .int .i64 n] w fun e w' => e = .returned (ptup (fnd W n)) ∧ w = w' := by
  have hle := hW.le
  have hcap := hW.cap
  by_cases hneg : n < 0
  · have E : Hid (fnd W n = (0, 3)) := fnd_neg hneg
    clear hW hF
    go_enter Try.func28, Try.ntmps28
    go_wp2
    go_ret2
    exact ⟨by rw [E.out]; rfl, rfl⟩
  have HW := Lib.hid hW
  have HF := Lib.hid hF
  have hneg2 : decide (n < 0) = false := by rw [decide_eq_false_iff_not]; exact hneg
  clear hW hF
  go_enter Try.func28, Try.ntmps28
  go_wp2
  clear hneg2
  go_loop [1, 12] (fun nv iv => ∃ k : Nat, k ≤ W.length ∧ iv = .int .i64 k ∧ nv = .int .i64 (n - pre W k) ∧ 0 ≤ n - pre W k ∧ (∀ j, j < k → hitP W n j = false)) (fun _ iv => W.length - (intOf iv).toNat)
  case atStart => exact ⟨0, by omega, rfl, by rw [pre_zero]; simp, by rw [pre_zero]; omega, fun j hj => by omega⟩
  case round =>
    obtain ⟨k, hk, rfl, rfl, h0, hJ⟩ := hrel
    have HJ := Lib.hid hJ
    have hp := pre_bound HF.out hk
    clear hJ
    by_cases hlt : k < W.length
    · obtain ⟨b, off, rfl, _, hcell⟩ := HW.out.il.at (by omega)
      have hci := hcell k hlt
      have hx := HF.out.at k
      clear hcell
      by_cases hh : n - pre W k < W.getD k 0
      · have E : Hid (fnd W n = ((k : Int), 0)) := fnd_hit (pk_hit (by omega) hlt HJ.out hh)
        generalize W.getD k 0 = x at *
        generalize pre W k = p at *
        go_wp2
        go_ret2
        exact ⟨by rw [E.out]; rfl, rfl⟩
      · have HN := Lib.hid (pk_step hlt HJ.out hh)
        have HS := Lib.hid (pre_succ hlt)
        have hh2 : decide (n - pre W k < W.getD k 0) = false := by rw [decide_eq_false_iff_not]; exact hh
        generalize W.getD k 0 = x at *
        generalize pre W k = p at *
        go_wp2
        go_round
        case rel => exact ⟨k + 1, by omega, by go_num, by rw [HS.out, Int.sub_sub], by rw [HS.out]; omega, HN.out⟩
        case measure => simp [intOf]; omega
    · obtain rfl : k = W.length := by omega
      have E : Hid (fnd W n = (0, 3)) := fnd_miss (pk_miss (by omega) HJ.out)
      generalize pre W W.length = p at *
      go_wp2
      go_ret2
      exact ⟨by rw [E.out]; rfl, rfl⟩
end Go.Proofs.Ytkcgcojhgcfgmaa
