/- lotdrawerref.IWrong. -/
import Derived.Test.YtomdjaidechjpaaV1
namespace Go.Proofs.Ytomdjaidechjpaa
open Go.RowKit Go.Deep

set_option maxRecDepth 100000 in
set_option maxHeartbeats 1000000 in
theorem iwrong_any (A : Option Addr) (ca : Nat) (W : List Int) (w : World) (hW : IP w A ca W) :
    Calls Try.prog 14 #[.slice A W.length ca] w fun e w' => e = .returned (.bool (!wfB W)) ∧ w = w' := by
  have hle := hW.le
  have hcap := hW.cap
  have HW := Lib.hid hW
  clear hW
  have h40 : (W.length ≤ 400 ∧ decide ((400 : Int) < (W.length : Int)) = false) ∨ (400 < W.length ∧ decide ((400 : Int) < (W.length : Int)) = true) := by
    by_cases h : 400 < W.length
    · exact .inr ⟨h, decide_eq_true (by omega)⟩
    · exact .inl ⟨by omega, decide_eq_false (by omega)⟩
  rcases h40 with ⟨h4, t0⟩ | ⟨h4, t0⟩
  · have H4 := Lib.hid h4
    go_enter Try.func14, Try.ntmps14
    go_wp2_with fail
    clear t0 h4
    go_loop [3, 11] (fun ov iv => ∃ k : Nat, k ≤ W.length ∧ iv = .int .i64 k ∧ ((ov = .bool false ∧ (∀ j, j < k → 0 ≤ W.getD j 0 ∧ W.getD j 0 ≤ 1073741824)) ∨ (ov = .bool true ∧ ¬ WF W))) (fun _ iv => W.length - (intOf iv).toNat)
    case atStart => exact ⟨0, by omega, rfl, .inl ⟨rfl, fun j hj => by omega⟩⟩
    case round =>
      obtain ⟨k, hk, rfl, hc⟩ := hrel
      by_cases hlt : k < W.length
      · obtain ⟨b, off, rfl, _, hcell⟩ := HW.out.il.at (by omega)
        have hci := hcell k hlt
        clear hcell
        rcases hc with ⟨rfl, hM⟩ | ⟨rfl, hno⟩
        · have HM := Lib.hid hM
          clear hM
          by_cases hneg : W.getD k 0 < 0
          · have E := Lib.hid (wf_no hlt (.inl hneg))
            have t1 : decide (W.getD k 0 < 0) = true := decide_eq_true hneg
            generalize W.getD k 0 = x at *
            go_wp2
            go_round
            case rel => exact ⟨k + 1, by omega, by go_num, .inr ⟨rfl, E.out⟩⟩
            case measure => simp [intOf]; omega
          · by_cases hbig : 1073741824 < W.getD k 0
            · have E := Lib.hid (wf_no hlt (.inr hbig))
              have t1 : decide (W.getD k 0 < 0) = false := decide_eq_false hneg
              have t2 : decide (1073741824 < W.getD k 0) = true := decide_eq_true hbig
              generalize W.getD k 0 = x at *
              go_wp2
              go_round
              case rel => exact ⟨k + 1, by omega, by go_num, .inr ⟨rfl, E.out⟩⟩
              case measure => simp [intOf]; omega
            · have HN : Hid (∀ j, j < k + 1 → 0 ≤ W.getD j 0 ∧ W.getD j 0 ≤ 1073741824) := fun j hj => by
                by_cases e : j = k
                · subst e; omega
                · exact HM.out j (by omega)
              have t1 : decide (W.getD k 0 < 0) = false := decide_eq_false hneg
              have t2 : decide (1073741824 < W.getD k 0) = false := decide_eq_false hbig
              generalize W.getD k 0 = x at *
              go_wp2
              go_round
              case rel => exact ⟨k + 1, by omega, by go_num, .inl ⟨rfl, HN.out⟩⟩
              case measure => simp [intOf]; omega
        · have E := Lib.hid hno
          clear hno
          generalize W.getD k 0 = x at *
          go_wp2
          go_round
          case rel => exact ⟨k + 1, by omega, by go_num, .inr ⟨rfl, E.out⟩⟩
          case measure => simp [intOf]; omega
      · obtain rfl : k = W.length := by omega
        rcases hc with ⟨rfl, hM⟩ | ⟨rfl, hno⟩
        · have E : Hid (wfB W = true) := wfB_ok (wf_take H4.out hM)
          clear hM
          go_wp2
          go_ret
          exact ⟨retB (by rw [E.out]; rfl), rfl⟩
        · have E : Hid (wfB W = false) := wfB_no hno
          clear hno
          go_wp2
          go_ret
          exact ⟨retB (by rw [E.out]; rfl), rfl⟩
  · have E : Hid (wfB W = false) := wfB_no (fun h => by have := h.1; omega)
    go_enter Try.func14, Try.ntmps14
    go_wp2_with fail
    clear t0
    go_loop [3, 11] (fun ov iv => ∃ k : Nat, k ≤ W.length ∧ iv = .int .i64 k ∧ ov = .bool true) (fun _ iv => W.length - (intOf iv).toNat)
    case atStart => exact ⟨0, by omega, rfl, rfl⟩
    case round =>
      obtain ⟨k, hk, rfl, rfl⟩ := hrel
      by_cases hlt : k < W.length
      · obtain ⟨b, off, rfl, _, hcell⟩ := HW.out.il.at (by omega)
        have hci := hcell k hlt
        clear hcell
        generalize W.getD k 0 = x at *
        go_wp2
        go_round
        case rel => exact ⟨k + 1, by omega, by go_num, rfl⟩
        case measure => simp [intOf]; omega
      · obtain rfl : k = W.length := by omega
        go_wp2
        go_ret
        exact ⟨retB (by rw [E.out]; rfl), rfl⟩
end Go.Proofs.Ytomdjaidechjpaa
