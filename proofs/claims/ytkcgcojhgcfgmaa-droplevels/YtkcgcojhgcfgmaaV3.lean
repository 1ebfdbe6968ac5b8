/- fen.Pick. -/
import Derived.Test.YtkcgcojhgcfgmaaV2
namespace Go.Proofs.Ytkcgcojhgcfgmaa
open Go.RowKit Go.Deep

set_option maxRecDepth 100000 in
set_option maxHeartbeats 1000000 in
theorem pickC_any (A : Option Addr) (ca : Nat) (W : List Int) (n : Int) (w : World) (hW : IP w A ca W) (hn : n ≤ 9223372036854775807) :
    Calls Try.prog 22 #[.slice A W.length ca, .int .i64 n] w fun e w' => e = .returned (ptup (pickC W n)) ∧ w = w' := by
  have CR := Lib.hid (right_any A ca W w hW)
  by_cases hF : WF W
  · have CF := Lib.hid (find_any A ca W n w hW hF hn)
    rw [wfB_ok hF] at CR
    rw [pickC_ok hF]
    generalize fnd W n = r at *
    clear hW hF
    go_enter Try.func22, Try.ntmps22
    go_wp2_with fail
    refine CR.out.mono ?_
    rintro e w1 ⟨rfl, rfl⟩
    clear CR
    unfold ptup at CF
    go_wp2_with fail
    refine CF.out.mono ?_
    rintro e w1 ⟨rfl, rfl⟩
    go_wp2
    go_ret2
    exact ⟨rfl, rfl⟩
  · rw [wfB_no hF] at CR
    rw [pickC_no hF]
    clear hW hF
    go_enter Try.func22, Try.ntmps22
    go_wp2_with fail
    refine CR.out.mono ?_
    rintro e w1 ⟨rfl, rfl⟩
    go_wp2
    go_ret2
    exact ⟨rfl, rfl⟩
end Go.Proofs.Ytkcgcojhgcfgmaa
