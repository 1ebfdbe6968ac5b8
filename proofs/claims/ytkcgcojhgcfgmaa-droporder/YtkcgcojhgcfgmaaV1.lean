/- fen.right. -/
import Derived.Test.YtkcgcojhgcfgmaaVa
import Derived.Test.YtkcgcojhgcfgmaaIv
namespace Go.Proofs.Ytkcgcojhgcfgmaa
open Go.RowKit Go.Deep

theorem wf_no {W : List Int} {k : Nat} (hk : k < W.length) (h : W.getD k 0 < 0 ∨ 1073741824 < W.getD k 0) : ¬ WF W := by
  intro hw
  have := hw.2 _ (memV hk)
  omega
theorem wf_take {W : List Int} (hl : W.length ≤ 400) (h : ∀ j, j < W.length → 0 ≤ W.getD j 0 ∧ W.getD j 0 ≤ 1073741824) : WF W := by
  refine ⟨hl, fun x hx => ?_⟩
  obtain ⟨j, hj, rfl⟩ := List.mem_iff_getElem.1 hx
  have := h j hj
  rw [List.getD_eq_getElem?_getD, List.getElem?_eq_getElem hj] at this
  exact this
open Classical in
noncomputable def wfB (W : List Int) : Bool := decide (WF W)
open Classical in
theorem wfB_ok {W : List Int} (h : WF W) : wfB W = true := decide_eq_true h
open Classical in
theorem wfB_no {W : List Int} (h : ¬ WF W) : wfB W = false := decide_eq_false h

set_option maxRecDepth 100000 in
set_option maxHeartbeats 1000000 in
theorem right_any (A : Option Addr) (ca : Nat) (W : List Int) (w : World) (hW : IP w A ca W) :
    Calls Try.prog 27 #[.slice A W.length ca] w fun e w' => e = .returned (.bool (wfB W)) ∧ w = w' := by
  have hle := hW.le
  have hcap := hW.cap
  by_cases h4 : 400 < W.length
  · have E : Hid (wfB W = false) := wfB_no (fun h => by have := h.1; omega)
    clear hW
    go_enter Try.func27, Try.ntmps27
    go_wp2
    go_ret
    exact ⟨retB E.out.symm, rfl⟩
  have HW := Lib.hid hW
  have h40 : decide ((400 : Int) < (W.length : Int)) = false := by rw [decide_eq_false_iff_not]; omega
  clear hW
  go_enter Try.func27, Try.ntmps27
  go_wp2
  clear h40
  go_loop [10] (fun iv => ∃ k : Nat, k ≤ W.length ∧ iv = .int .i64 k ∧ (∀ j, j < k → 0 ≤ W.getD j 0 ∧ W.getD j 0 ≤ 1073741824)) (fun iv => W.length - (intOf iv).toNat)
  case atStart => exact ⟨0, by omega, rfl, fun j hj => by omega⟩
  case round =>
    obtain ⟨k, hk, rfl, hM⟩ := hrel
    have HM := Lib.hid hM
    clear hM
    by_cases hlt : k < W.length
    · obtain ⟨b, off, rfl, _, hcell⟩ := HW.out.il.at (by omega)
      have hci := hcell k hlt
      clear hcell
      by_cases hneg : W.getD k 0 < 0
      · have E : Hid (wfB W = false) := wfB_no (wf_no hlt (.inl hneg))
        generalize W.getD k 0 = x at *
        go_wp2
        go_ret
        exact ⟨retB E.out.symm, rfl⟩
      · by_cases hbig : 1073741824 < W.getD k 0
        · have E : Hid (wfB W = false) := wfB_no (wf_no hlt (.inr hbig))
          generalize W.getD k 0 = x at *
          go_wp2
          go_ret
          exact ⟨retB E.out.symm, rfl⟩
        · have HN : Hid (∀ j, j < k + 1 → 0 ≤ W.getD j 0 ∧ W.getD j 0 ≤ 1073741824) := fun j hj => by
            by_cases e : j = k
            · subst e; omega
            · exact HM.out j (by omega)
          generalize W.getD k 0 = x at *
          go_wp2
          go_round
          case rel => exact ⟨k + 1, by omega, by go_num, HN.out⟩
          case measure => simp [intOf]; omega
    · obtain rfl : W.length = k := by omega
      have E : Hid (wfB W = true) := wfB_ok (wf_take (by omega) HM.out)
      go_wp2
      go_ret
      exact ⟨retB E.out.symm, rfl⟩
end Go.Proofs.Ytkcgcojhgcfgmaa
