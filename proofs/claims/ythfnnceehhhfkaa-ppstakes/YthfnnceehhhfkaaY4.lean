/- lotdrawerref.JSum. -/
import Derived.Test.YthfnnceehhhfkaaYa
import Derived.Test.YthfnnceehhhfkaaHwr
import Derived.Test.YthfnnceehhhfkaaIv
namespace Go.Proofs.Ythfnnceehhhfkaa
open Go.RowKit Go.Deep

theorem not_wp {W : List Int} {m : Int} (h : ¬ WP W m) : sumP W m = (0, 2) := if_neg h

set_option maxRecDepth 100000 in
set_option maxHeartbeats 2000000 in
theorem jsum_any (A : Option Addr) (ca : Nat) (W : List Int) (m : Int) (w : World) (hW : IP w A ca W) :
    Calls Try.prog 9 #[.slice A W.length ca, .int .i64 m] w fun e w' => e = .returned (ptup (sumP W m)) ∧ w = w' := by
  have hle := hW.le
  have hcap := hW.cap
  have HW := Lib.hid hW
  clear hW
  have hstart : ((W.length ≤ 400 ∧ 1 ≤ m ∧ m ≤ 400) ∧ (decide ((W.length : Int) < 401) = true ∧ decide (0 < m) = true ∧ decide (m < 401) = true)) ∨ (¬ WP W m ∧ decide ((W.length : Int) < 401) = false) ∨ (¬ WP W m ∧ decide ((W.length : Int) < 401) = true ∧ decide (0 < m) = false) ∨ (¬ WP W m ∧ decide ((W.length : Int) < 401) = true ∧ decide (0 < m) = true ∧ decide (m < 401) = false) := by
    by_cases h4 : W.length ≤ 400
    · by_cases h0 : 0 < m
      · by_cases h1 : m < 401
        · exact .inl ⟨⟨h4, h0, by omega⟩, decide_eq_true (by omega), decide_eq_true h0, decide_eq_true h1⟩
        · exact .inr (.inr (.inr ⟨fun h => by have := h.2.2.2; omega, decide_eq_true (by omega), decide_eq_true h0, decide_eq_false h1⟩))
      · exact .inr (.inr (.inl ⟨fun h => by have := h.2.2.1; omega, decide_eq_true (by omega), decide_eq_false h0⟩))
    · exact .inr (.inl ⟨fun h => h4 h.1, decide_eq_false (by omega)⟩)
  rcases hstart with ⟨h04, p1, p2, p3⟩ | ⟨hno, p1⟩ | ⟨hno, p1, p2⟩ | ⟨hno, p1, p2, p3⟩
  · have H04 := Lib.hid h04
    have h4 := h04.1
    clear h04
    go_enter Try.func9, Try.ntmps9
    go_wp2_with fail
    clear p1 p2 p3
    go_loop [6, 7, 23] (fun nv ov iv => ∃ k : Nat, k ≤ W.length ∧ iv = .int .i64 k ∧ ((ov = .bool true ∧ nv = .int .i64 (sumW (W.take k)) ∧ (∀ x ∈ W.take k, 0 ≤ x ∧ x ≤ 1048576)) ∨ (ov = .bool false ∧ ¬ WP W m ∧ ∃ N : Int, nv = .int .i64 N))) (fun _ _ iv => W.length - (intOf iv).toNat)
    case atStart => exact ⟨0, by omega, rfl, .inl ⟨rfl, rfl, by simp⟩⟩
    case round =>
      obtain ⟨k, hk, rfl, hc⟩ := hrel
      by_cases hlt : k < W.length
      · obtain ⟨b, off, rfl, _, hcell⟩ := HW.out.il.at (by omega)
        have hci := hcell k hlt
        clear hcell
        rcases hc with ⟨rfl, rfl, hM⟩ | ⟨rfl, hno, N, rfl⟩
        · have hs := sumW_le hM
          have hkl : (W.take k).length ≤ 400 := by rw [List.length_take]; omega
          have HM := Lib.hid hM
          have HT := Lib.hid (take_snocV hlt)
          clear hM
          by_cases hneg : W.getD k 0 < 0
          · have E : Hid (¬ WP W m) := fun h => by have := h.2.1 _ (memV hlt); omega
            have t1 : decide (0 ≤ W.getD k 0) = false := by rw [decide_eq_false_iff_not]; omega
            generalize W.getD k 0 = x at *
            go_wp2
            go_round
            case rel => exact ⟨k + 1, by omega, by go_num, .inr ⟨rfl, E.out, _, rfl⟩⟩
            case measure => simp [intOf]; omega
          · by_cases hbig : 1048576 < W.getD k 0
            · have E : Hid (¬ WP W m) := fun h => by have := h.2.1 _ (memV hlt); omega
              have t1 : decide (0 ≤ W.getD k 0) = true := by rw [decide_eq_true_iff]; omega
              have t2 : decide (W.getD k 0 ≤ 1048576) = false := by rw [decide_eq_false_iff_not]; omega
              generalize W.getD k 0 = x at *
              go_wp2
              go_round
              case rel => exact ⟨k + 1, by omega, by go_num, .inr ⟨rfl, E.out, _, rfl⟩⟩
              case measure => simp [intOf]; omega
            · have HS : Hid (sumW (W.take (k + 1)) = sumW (W.take k) + W.getD k 0) := by show _ = _; rw [HT.out, sumW_snoc]
              have HN : Hid (∀ x ∈ W.take (k + 1), 0 ≤ x ∧ x ≤ 1048576) := by
                show ∀ _, _
                rw [HT.out]
                intro x hx
                rw [List.mem_append] at hx
                rcases hx with hx | hx
                · exact HM.out x hx
                · rw [List.mem_singleton] at hx; omega
              have t1 : decide (0 ≤ W.getD k 0) = true := by rw [decide_eq_true_iff]; omega
              have t2 : decide (W.getD k 0 ≤ 1048576) = true := by rw [decide_eq_true_iff]; omega
              clear HT
              generalize W.getD k 0 = x at *
              go_wp2
              go_round
              case rel => exact ⟨k + 1, by omega, by go_num, .inl ⟨rfl, by rw [HS.out], HN.out⟩⟩
              case measure => simp [intOf]; omega
        · have E := Lib.hid hno
          clear hno
          generalize W.getD k 0 = x at *
          go_wp2
          go_round
          case rel => exact ⟨k + 1, by omega, by go_num, .inr ⟨rfl, E.out, _, rfl⟩⟩
          case measure => simp [intOf]; omega
      · obtain rfl : k = W.length := by omega
        rcases hc with ⟨rfl, rfl, hM⟩ | ⟨rfl, hno, N, rfl⟩
        · rw [List.take_length] at hM ⊢
          have hs := sumW_le hM
          have HWR : Hid (WP W m) := ⟨H04.out.1, hM, H04.out.2⟩
          clear hM
          by_cases hz : sumW W = 0
          · have E : Hid (sumP W m = (0, 3)) := by show sumP W m = _; unfold sumP; rw [if_pos HWR.out, if_pos hz]
            have hzz : (sumW W == 0) = true := by rw [hz]; rfl
            clear hz
            go_wp2
            go_ret2
            exact ⟨by rw [E.out]; rfl, rfl⟩
          · have E : Hid (sumP W m = (sumW W, 0)) := by show sumP W m = _; unfold sumP; rw [if_pos HWR.out, if_neg hz]
            have hzz : (sumW W == 0) = false := by rw [beq_eq_false_iff_ne]; exact hz
            go_wp2
            go_ret2
            exact ⟨by rw [E.out]; rfl, rfl⟩
        · have E : Hid (sumP W m = (0, 2)) := not_wp hno
          clear hno
          go_wp2
          go_ret2
          exact ⟨by rw [E.out]; rfl, rfl⟩
  all_goals
    have E : Hid (sumP W m = (0, 2)) := not_wp hno
    clear hno
    go_enter Try.func9, Try.ntmps9
    go_wp2_with fail
    go_loop [6, 7, 23] (fun nv ov iv => ∃ k : Nat, k ≤ W.length ∧ iv = .int .i64 k ∧ ov = .bool false ∧ ∃ N : Int, nv = .int .i64 N) (fun _ _ iv => W.length - (intOf iv).toNat)
    case atStart => exact ⟨0, by omega, rfl, rfl, _, rfl⟩
    case round =>
      obtain ⟨k, hk, rfl, rfl, N, rfl⟩ := hrel
      by_cases hlt : k < W.length
      · obtain ⟨b, off, rfl, _, hcell⟩ := HW.out.il.at (by omega)
        have hci := hcell k hlt
        clear hcell
        generalize W.getD k 0 = x at *
        go_wp2
        go_round
        case rel => exact ⟨k + 1, by omega, by go_num, rfl, _, rfl⟩
        case measure => simp [intOf]; omega
      · obtain rfl : k = W.length := by omega
        go_wp2
        go_ret2
        exact ⟨by rw [E.out]; rfl, rfl⟩
end Go.Proofs.Ythfnnceehhhfkaa
