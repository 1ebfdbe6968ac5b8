/- lotdrawerref.KWrong. -/
import Derived.Test.YtkcgcojhgcfgmaaL1
namespace Go.Proofs.Ytkcgcojhgcfgmaa
open Go.RowKit Go.Deep

/-- So far all is right. -/
def rgB (W : List Int) (m : Int) (k : Nat) : Bool := decide (W.length < 401) && decide (0 < m) && decide (m < 401) && (W.take k).all fun x => decide (0 < x) && decide (x ≤ 1048576)
theorem rgB_succ {W : List Int} {m : Int} {k : Nat} (h : k < W.length) : rgB W m (k + 1) = (rgB W m k && decide (0 < W.getD k 0) && decide (W.getD k 0 ≤ 1048576)) := by
  unfold rgB
  rw [take_snocV h, List.all_append]
  simp [Bool.and_assoc]
theorem rgB_all {W : List Int} {m : Int} : (rgB W m W.length = true ∧ WD W m) ∨ (rgB W m W.length = false ∧ ¬ WD W m) := by
  have : rgB W m W.length = true ↔ WD W m := by
    unfold rgB WD
    rw [List.take_length]
    simp only [Bool.and_eq_true, decide_eq_true_iff, List.all_eq_true]
    constructor
    · rintro ⟨⟨⟨h1, h2⟩, h3⟩, h4⟩
      exact ⟨by omega, by omega, by omega, fun x hx => by have := h4 x hx; omega⟩
    · rintro ⟨h1, h2, h3, h4⟩
      exact ⟨⟨⟨by omega, by omega⟩, by omega⟩, fun x hx => by have := h4 x hx; omega⟩
  by_cases h : WD W m
  · exact .inl ⟨this.2 h, h⟩
  · refine .inr ⟨?_, h⟩
    cases hr : rgB W m W.length
    · rfl
    · exact absurd (this.1 hr) h

set_option maxRecDepth 100000 in
set_option maxHeartbeats 1000000 in
theorem kwrong_any (A : Option Addr) (ca : Nat) (W : List Int) (m : Int) (w : World) (hW : IP w A ca W) :
    Calls Try.prog 12 #[.slice A W.length ca, .int .i64 m] w fun e w' => e = .returned (.int .i64 (wdE W m)) ∧ w = w' := by
  have hle := hW.le
  have hcap := hW.cap
  have HW := Lib.hid hW
  obtain ⟨b0, hb0⟩ : ∃ b, rgB W m 0 = b := ⟨_, rfl⟩
  have HB0 := Lib.hid hb0
  have hcs : ((decide ((W.length : Int) < 401) = false ∧ decide (W.length < 401) = false) ∧ b0 = false) ∨ ((decide ((W.length : Int) < 401) = true ∧ decide (W.length < 401) = true) ∧ decide (0 < m) = false ∧ b0 = false) ∨ ((decide ((W.length : Int) < 401) = true ∧ decide (W.length < 401) = true) ∧ decide (0 < m) = true ∧ decide (m < 401) = b0) := by
    have e : rgB W m 0 = (decide (W.length < 401) && decide (0 < m) && decide (m < 401)) := by simp [rgB]
    rw [e] at hb0
    by_cases h1 : W.length < 401
    · have h1' : (W.length : Int) < 401 := by omega
      rw [decide_eq_true h1] at hb0
      by_cases h2 : 0 < m
      · rw [decide_eq_true h2] at hb0
        exact .inr (.inr ⟨⟨decide_eq_true h1', decide_eq_true h1⟩, decide_eq_true h2, by simpa using hb0⟩)
      · rw [decide_eq_false h2] at hb0
        exact .inr (.inl ⟨⟨decide_eq_true h1', decide_eq_true h1⟩, decide_eq_false h2, by simpa using hb0.symm⟩)
    · have h1' : ¬ (W.length : Int) < 401 := by omega
      rw [decide_eq_false h1] at hb0
      exact .inl ⟨⟨decide_eq_false h1', decide_eq_false h1⟩, by simpa using hb0.symm⟩
  clear hW hb0
  rcases hcs with ⟨⟨d1, d2⟩, rfl⟩ | ⟨⟨d1, d2⟩, d3, rfl⟩ | ⟨⟨d1, d2⟩, d3, d4⟩
  all_goals
    go_enter Try.func12, Try.ntmps12
    go_wp2
    clear d1 d2
    try clear d3
    try clear d4
    go_loop [5, 21] (fun bv iv => ∃ k : Nat, k ≤ W.length ∧ iv = .int .i64 k ∧ bv = .bool (rgB W m k)) (fun _ iv => W.length - (intOf iv).toNat)
    case atStart => exact ⟨0, by omega, rfl, by rw [HB0.out]⟩
    case round =>
      obtain ⟨k, hk, rfl, rfl⟩ := hrel
      by_cases hlt : k < W.length
      · obtain ⟨b, off, rfl, _, hcell⟩ := HW.out.il.at (by omega)
        have hci := hcell k hlt
        have HN : Hid (rgB W m (k + 1) = (rgB W m k && decide (0 < W.getD k 0) && decide (W.getD k 0 ≤ 1048576))) := rgB_succ hlt
        clear hcell
        generalize W.getD k 0 = x at *
        generalize rgB W m k = q at *
        cases q
        · go_wp2
          go_round
          case rel => exact ⟨k + 1, by omega, by go_num, by rw [HN.out]; rfl⟩
          case measure => simp [intOf]; omega
        · by_cases h0 : 0 < x
          · have t1 : decide (0 < x) = true := decide_eq_true h0
            obtain ⟨q2, hq2⟩ : ∃ q2, decide (x ≤ 1048576) = q2 := ⟨_, rfl⟩
            rw [t1, hq2] at HN
            go_wp2
            go_round
            case rel => exact ⟨k + 1, by omega, by go_num, by rw [HN.out]; rfl⟩
            case measure => simp [intOf]; omega
          · have t1 : decide (0 < x) = false := decide_eq_false h0
            rw [t1] at HN
            go_wp2
            go_round
            case rel => exact ⟨k + 1, by omega, by go_num, by rw [HN.out]; rfl⟩
            case measure => simp [intOf]; omega
      · obtain rfl : k = W.length := by omega
        rcases rgB_all (W := W) (m := m) with ⟨h1, h2⟩ | ⟨h1, h2⟩
        · have E : Hid (wdE W m = 0) := wdE_ok h2
          rw [h1]
          clear h1 h2
          go_wp2
          go_ret
          exact ⟨retI E.out.symm, rfl⟩
        · have E : Hid (wdE W m = 2) := wdE_no h2
          rw [h1]
          clear h1 h2
          go_wp2
          go_ret
          exact ⟨retI E.out.symm, rfl⟩
end Go.Proofs.Ytkcgcojhgcfgmaa
