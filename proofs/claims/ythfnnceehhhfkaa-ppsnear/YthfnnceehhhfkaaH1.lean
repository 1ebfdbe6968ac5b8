/- alias.Sum. -/
import Derived.Test.YthfnnceehhhfkaaHwr
import Derived.Test.YthfnnceehhhfkaaIv
namespace Go.Proofs.Ythfnnceehhhfkaa
open Go.RowKit Go.Deep

theorem sumC_no {W : List Int} {k : Nat} (hk : k < W.length) (h : W.getD k 0 < 0 ∨ 1048576 < W.getD k 0) : sumC W = (0, 2) := by
  unfold sumC
  rw [if_neg]
  intro hw
  have := hw.2.2 _ (memW hk)
  omega

set_option maxRecDepth 100000 in
set_option maxHeartbeats 1000000 in
theorem sum_any (A : Option Addr) (ca : Nat) (W : List Int) (w : World) (hW : IP w A ca W) :
    Calls Try.prog 17 #[.slice A W.length ca] w fun e w' => e = .returned (ptup (sumC W)) ∧ w = w' := by
  have hle := hW.le
  have hcap := hW.cap
  by_cases h0 : W.length = 0
  · have E : Hid (sumC W = (0, 2)) := if_neg (fun h => by have := h.1; omega)
    clear hW
    go_enter Try.func17, Try.ntmps17
    go_wp2
    go_ret2
    exact ⟨by rw [E.out]; rfl, rfl⟩
  by_cases h4 : 400 < W.length
  · have E : Hid (sumC W = (0, 2)) := if_neg (fun h => by have := h.2.1; omega)
    have hz : ((W.length : Int) == 0) = false := eqz_no h0
    clear hW
    go_enter Try.func17, Try.ntmps17
    go_wp2
    go_ret2
    exact ⟨by rw [E.out]; rfl, rfl⟩
  have HW := Lib.hid hW
  have hz : ((W.length : Int) == 0) = false := eqz_no h0
  have h40 : decide ((400 : Int) < (W.length : Int)) = false := by rw [decide_eq_false_iff_not]; omega
  clear hW
  go_enter Try.func17, Try.ntmps17
  go_wp2
  clear hz h40
  go_loop [4, 17] (fun sv iv => ∃ k : Nat, k ≤ W.length ∧ iv = .int .i64 k ∧ sv = .int .i64 (sumW (W.take k)) ∧ (∀ x ∈ W.take k, 0 ≤ x ∧ x ≤ 1048576)) (fun _ iv => W.length - (intOf iv).toNat)
  case atStart => exact ⟨0, by omega, rfl, rfl, by simp⟩
  case round =>
    obtain ⟨k, hk, rfl, rfl, hM⟩ := hrel
    have hs := sumW_le hM
    have hkl : (W.take k).length ≤ 400 := by rw [List.length_take]; omega
    have HM := Lib.hid hM
    clear hM
    by_cases hlt : k < W.length
    · obtain ⟨b, off, rfl, _, hcell⟩ := HW.out.il.at (by omega)
      have hci := hcell k hlt
      have HT := Lib.hid (take_snocW hlt)
      clear hcell
      by_cases hneg : W.getD k 0 < 0
      · have E := Lib.hid (sumC_no hlt (.inl hneg))
        generalize W.getD k 0 = x at *
        go_wp2
        go_ret2
        exact ⟨by rw [E.out]; rfl, rfl⟩
      · by_cases hbig : 1048576 < W.getD k 0
        · have E := Lib.hid (sumC_no hlt (.inr hbig))
          generalize W.getD k 0 = x at *
          go_wp2
          go_ret2
          exact ⟨by rw [E.out]; rfl, rfl⟩
        · have HS : Hid (sumW (W.take (k + 1)) = sumW (W.take k) + W.getD k 0) := by show _ = _; rw [HT.out, sumW_snoc]
          have HN : Hid (∀ x ∈ W.take (k + 1), 0 ≤ x ∧ x ≤ 1048576) := by
            show ∀ _, _
            rw [HT.out]
            intro x hx
            rw [List.mem_append] at hx
            rcases hx with hx | hx
            · exact HM.out x hx
            · rw [List.mem_singleton] at hx; omega
          clear HT
          generalize W.getD k 0 = x at *
          go_wp2
          go_round
          case rel => exact ⟨k + 1, by omega, by go_num, by rw [HS.out], HN.out⟩
          case measure => simp [intOf]; omega
    · obtain rfl : W.length = k := by omega
      have ht : W.take W.length = W := List.take_length
      rw [ht] at hs HM ⊢
      have HWR : Hid (WR W) := ⟨by omega, by omega, HM.out⟩
      by_cases hz : sumW W = 0
      · have E : Hid (sumC W = (0, 3)) := by show sumC W = _; unfold sumC; rw [if_pos HWR.out, if_pos hz]
        have HZ := Lib.hid hz
        have hzz : (sumW W == 0) = true := by rw [hz]; rfl
        clear hz ht
        go_wp2
        go_ret2
        exact ⟨by rw [E.out]; rfl, rfl⟩
      · have E : Hid (sumC W = (sumW W, 0)) := by show sumC W = _; unfold sumC; rw [if_pos HWR.out, if_neg hz]
        have hzz : (sumW W == 0) = false := by rw [beq_eq_false_iff_ne]; exact hz
        clear ht
        go_wp2
        go_ret2
        exact ⟨by rw [E.out]; rfl, rfl⟩
end Go.Proofs.Ythfnnceehhhfkaa
