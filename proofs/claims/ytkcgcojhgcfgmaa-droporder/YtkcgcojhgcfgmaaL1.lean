/- drop.Wrong. -/
import Derived.Test.YtkcgcojhgcfgmaaLa
import Derived.Test.YtkcgcojhgcfgmaaIv
namespace Go.Proofs.Ytkcgcojhgcfgmaa
open Go.RowKit Go.Deep

theorem wd_no {W : List Int} {m : Int} {k : Nat} (hk : k < W.length) (h : W.getD k 0 < 1 ∨ 1048576 < W.getD k 0) : ¬ WD W m := by
  intro hw
  have := hw.at hk
  omega
theorem wd_take {W : List Int} {m : Int} (hl : W.length ≤ 400) (h1 : 1 ≤ m) (h2 : m ≤ 400) (h : ∀ j, j < W.length → 1 ≤ W.getD j 0 ∧ W.getD j 0 ≤ 1048576) : WD W m := by
  refine ⟨hl, h1, h2, fun x hx => ?_⟩
  obtain ⟨j, hj, rfl⟩ := List.mem_iff_getElem.1 hx
  have := h j hj
  rw [List.getD_eq_getElem?_getD, List.getElem?_eq_getElem hj] at this
  exact this

set_option maxRecDepth 100000 in
set_option maxHeartbeats 1000000 in
theorem dwrong_any (A : Option Addr) (ca : Nat) (W : List Int) (m : Int) (w : World) (hW : IP w A ca W) :
    Calls Try.prog 13 #[.slice A W.length ca, .int .i64 m] w fun e w' => e = .returned (.int .i64 (wdE W m)) ∧ w = w' := by
  have hle := hW.le
  have hcap := hW.cap
  by_cases hb : 400 < W.length ∨ m < 1 ∨ 400 < m
  · have E : Hid (wdE W m = 2) := wdE_no (fun h => by have h1 := h.1; have h2 := h.2.1; have h3 := h.2.2.1; omega)
    have hcs : (decide ((400 : Int) < (W.length : Int)) = true ∧ decide (400 < W.length) = true) ∨ ((decide ((400 : Int) < (W.length : Int)) = false ∧ decide (400 < W.length) = false) ∧ decide (m < 1) = true) ∨ ((decide ((400 : Int) < (W.length : Int)) = false ∧ decide (400 < W.length) = false) ∧ decide (m < 1) = false ∧ decide (400 < m) = true) := by
      simp only [decide_eq_true_iff, decide_eq_false_iff_not]
      omega
    clear hW hb
    rcases hcs with ⟨d1, d2⟩ | ⟨⟨d1, d2⟩, d3⟩ | ⟨⟨d1, d2⟩, d3, d4⟩
    all_goals
      go_enter Try.func13, Try.ntmps13
      go_wp2
      go_ret
      exact ⟨retI E.out.symm, rfl⟩
  have HW := Lib.hid hW
  have d1 : decide ((400 : Int) < (W.length : Int)) = false := by rw [decide_eq_false_iff_not]; omega
  have d2 : decide (400 < W.length) = false := by rw [decide_eq_false_iff_not]; omega
  have d3 : decide (m < 1) = false := by rw [decide_eq_false_iff_not]; omega
  have d4 : decide (400 < m) = false := by rw [decide_eq_false_iff_not]; omega
  have HB : Hid (W.length ≤ 400 ∧ 1 ≤ m ∧ m ≤ 400) := by show _ ∧ _; omega
  clear hW hb
  go_enter Try.func13, Try.ntmps13
  go_wp2
  clear d1 d2 d3 d4
  go_loop [20] (fun iv => ∃ k : Nat, k ≤ W.length ∧ iv = .int .i64 k ∧ (∀ j, j < k → 1 ≤ W.getD j 0 ∧ W.getD j 0 ≤ 1048576)) (fun iv => W.length - (intOf iv).toNat)
  case atStart => exact ⟨0, by omega, rfl, fun j hj => by omega⟩
  case round =>
    obtain ⟨k, hk, rfl, hM⟩ := hrel
    have HM := Lib.hid hM
    clear hM
    by_cases hlt : k < W.length
    · obtain ⟨b, off, rfl, _, hcell⟩ := HW.out.il.at (by omega)
      have hci := hcell k hlt
      clear hcell
      by_cases hneg : W.getD k 0 < 1
      · have E : Hid (wdE W m = 2) := wdE_no (wd_no hlt (.inl hneg))
        have t1 : decide (W.getD k 0 < 1) = true := decide_eq_true hneg
        generalize W.getD k 0 = x at *
        go_wp2
        go_ret
        exact ⟨retI E.out.symm, rfl⟩
      · by_cases hbig : 1048576 < W.getD k 0
        · have E : Hid (wdE W m = 2) := wdE_no (wd_no hlt (.inr hbig))
          have t1 : decide (W.getD k 0 < 1) = false := decide_eq_false hneg
          have t2 : decide (1048576 < W.getD k 0) = true := decide_eq_true hbig
          generalize W.getD k 0 = x at *
          go_wp2
          go_ret
          exact ⟨retI E.out.symm, rfl⟩
        · have HN : Hid (∀ j, j < k + 1 → 1 ≤ W.getD j 0 ∧ W.getD j 0 ≤ 1048576) := fun j hj => by
            by_cases e : j = k
            · subst e; omega
            · exact HM.out j (by omega)
          have t1 : decide (W.getD k 0 < 1) = false := decide_eq_false hneg
          have t2 : decide (1048576 < W.getD k 0) = false := decide_eq_false hbig
          generalize W.getD k 0 = x at *
          go_wp2
          go_round
          case rel => exact ⟨k + 1, by omega, by go_num, HN.out⟩
          case measure => simp [intOf]; omega
    · obtain rfl : W.length = k := by omega
      have E : Hid (wdE W m = 0) := wdE_ok (wd_take HB.out.1 HB.out.2.1 HB.out.2.2 HM.out)
      go_wp2
      go_ret
      exact ⟨retI E.out.symm, rfl⟩
end Go.Proofs.Ytkcgcojhgcfgmaa
