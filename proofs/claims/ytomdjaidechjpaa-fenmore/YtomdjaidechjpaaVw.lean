/- lotdrawerkeep.FenMore: the walk. -/
import Derived.Test.YtomdjaidechjpaaV9
import Derived.Deep.QuietTactic
import Derived.BigQuiet
import Derived.WalkSmall
namespace Go.Proofs.Ytomdjaidechjpaa
open Go.RowKit Go.Deep

theorem pre_set {W : List Int} {k i : Nat} (y : Int) (hk : k < W.length) (hi : i ≤ W.length) : pre (W.set k y) i = pre W i + (if k < i then y - W.getD k 0 else 0) := by
  unfold pre
  rw [List.take_set]
  by_cases h : k < i
  · rw [if_pos h, sumW_set y (by rw [List.length_take]; omega)]
    have e : (W.take i).getD k 0 = W.getD k 0 := by
      simp [List.getD_eq_getElem?_getD, List.getElem?_take, h]
    rw [e]
    omega
  · rw [if_neg h, List.set_eq_of_length_le (by rw [List.length_take]; omega)]
    omega

set_option maxRecDepth 100000 in
set_option maxHeartbeats 4000000 in
theorem fenMore_walk (A : Option Addr) (ca : Nat) (W : List Int) (k0 m0 : Int) (w : World) (hW : IP w A ca W) (hn : W.length < 17592186044416) :
    Calls Try.prog 7 #[.slice A W.length ca, .int .i64 k0, .int .i64 m0] w fun e w' => e = .returned (.bool true) ∧ Below w.heap.size w w' := by
  have CA := Lib.hid (alive9_any w)
  have hle := hW.le
  have hcap := hW.cap
  have HW := Lib.hid hW
  by_cases hout : k0 < 0 ∨ (W.length : Int) ≤ k0 ∨ m0 < 0 ∨ 1000 < m0
  · have ht : (decide (k0 < 0) = true) ∨ (decide (k0 < 0) = false ∧ decide ((W.length : Int) ≤ k0) = true) ∨ (decide (k0 < 0) = false ∧ decide ((W.length : Int) ≤ k0) = false ∧ decide (m0 < 0) = true) ∨ (decide (k0 < 0) = false ∧ decide ((W.length : Int) ≤ k0) = false ∧ decide (m0 < 0) = false ∧ decide (1000 < m0) = true) := by
      by_cases h0 : k0 < 0
      · exact .inl (decide_eq_true h0)
      · by_cases h1 : (W.length : Int) ≤ k0
        · exact .inr (.inl ⟨decide_eq_false h0, decide_eq_true h1⟩)
        · by_cases h2 : m0 < 0
          · exact .inr (.inr (.inl ⟨decide_eq_false h0, decide_eq_false h1, decide_eq_true h2⟩))
          · exact .inr (.inr (.inr ⟨decide_eq_false h0, decide_eq_false h1, decide_eq_false h2, decide_eq_true (by omega)⟩))
    clear hW hout
    rcases ht with t0 | ⟨t0, t1⟩ | ⟨t0, t1, t2⟩ | ⟨t0, t1, t2, t3⟩
    all_goals
      go_enter Try.func7, Try.ntmps7
      go_wp2_with fail
      refine CA.out.mono ?_
      rintro e w1 ⟨rfl, hb1⟩
      have HB1 := Lib.hid hb1
      clear CA hb1
      go_wp2
      go_ret
      exact ⟨rfl, HB1.out⟩
  · obtain ⟨k, rfl⟩ : ∃ k : Nat, k0 = k := ⟨k0.toNat, by omega⟩
    obtain ⟨m, rfl⟩ : ∃ m : Nat, m0 = m := ⟨m0.toNat, by omega⟩
    have hk : k < W.length := by omega
    have hm : m ≤ 1000 := by omega
    have t0 : decide ((k : Int) < 0) = false := by rw [decide_eq_false_iff_not]; omega
    have t1 : decide ((W.length : Int) ≤ (k : Int)) = false := by rw [decide_eq_false_iff_not]; omega
    have t1' : decide (W.length ≤ k) = false := by rw [decide_eq_false_iff_not]; omega
    have t2 : decide ((m : Int) < 0) = false := by rw [decide_eq_false_iff_not]; omega
    have t3 : decide ((1000 : Int) < (m : Int)) = false := by rw [decide_eq_false_iff_not]; omega
    have t3' : decide (1000 < m) = false := by rw [decide_eq_false_iff_not]; omega
    clear hW hout
    have hki : (k : Int) < (W.length : Int) := by omega
    obtain ⟨y, hy⟩ : ∃ y, IntKind.i64.wrap (W.getD k 0 + (m : Int)) = y := ⟨_, rfl⟩
    have HY : Hid (WF W → y = W.getD k 0 + (m : Int)) := fun h => by
      have := h.at k
      rw [← hy]
      exact IntWalk.i64_in _ (by omega)
    go_enter Try.func7, Try.ntmps7
    go_wp2_with fail
    refine CA.out.mono ?_
    rintro e w1 ⟨rfl, hb1⟩
    have HB1 := Lib.hid hb1
    have HW1 := Lib.hid (HW.out.later hb1)
    have CC := Lib.hid (clone_any A ca W w1 HW1.out hn)
    clear CA hb1
    go_wp2_with fail
    refine CC.out.mono ?_
    rintro e w2 ⟨v, rfl, hO, hb2⟩
    obtain ⟨g, cap, rfl, hg0, hg1, hg2, hg3, hg4, hg5, hO2⟩ := hO.form rfl (by omega)
    have hck := hg4 k hk
    have hfk := hg5 k
    have HB2 : Hid (Below w1.heap.size w1 (w2.setCell ⟨g, k, none⟩ (.int .i64 y))) := hb2.setCell (p := ⟨g, k, none⟩) hg0 _
    have HO2 := Lib.hid (hO2.set k y)
    clear hO hb2 hg0 hg1 hg4 hg5 hO2 CC
    generalize hxx : W.getD k 0 = x at *
    have HX := Lib.hid hxx
    clear hxx
    have HW2 := Lib.hid (HW1.out.later HB2.out)
    have HM2 : Hid (IP (w2.setCell ⟨g, k, none⟩ (.int .i64 y)) (some ⟨g, 0, none⟩) cap (W.set k y)) := HO2.out.ipv (by rw [List.length_set])
    have HB3 := Lib.hid (HB1.out.trans (HB2.out.mono HB1.out.size))
    clear HO2 HB2 HB1 HW1 HW
    have C1 := Lib.hid (sumsC_any A ca W _ HW2.out)
    have C2 : Hid (∀ w' : World, Below (w2.setCell ⟨g, k, none⟩ (.int .i64 y)).heap.size (w2.setCell ⟨g, k, none⟩ (.int .i64 y)) w' → Calls Try.prog 8 #[.slice (some ⟨g, 0, none⟩) W.length cap] w' (LPost w' (sumsC (W.set k y)))) := fun w' h => by
      have := sumsC_any _ cap (W.set k y) w' (HM2.out.later h)
      rw [List.length_set] at this
      exact this
    clear HM2
    go_wp2_with fail
    refine C1.out.mono ?_
    generalize w2.setCell ⟨g, k, none⟩ (.int .i64 y) = w3 at *
    rintro e w4 ⟨R1, c1, rfl, hS, hb4⟩
    have HS4 := Lib.hid hS
    have HB4 := Lib.hid (HB3.out.trans (hb4.mono HB3.out.size))
    have C2 := Lib.hid (C2.out w4 hb4)
    clear hS hb4 C1 HB3 HW2
    rcases Classical.em (WF W) with hF | hF
    · rw [sumsC_ok hF] at HS4 ⊢
      rcases Classical.em (WF (W.set k y)) with hG | hG
      · rw [sumsC_ok hG] at C2
        unfold ltup
        go_wp2_with fail
        refine C2.out.mono ?_
        rintro e w5 ⟨R2, c2, rfl, hT, hb5⟩
        unfold ltup
        have HA : Hid (IP w5 R1 c1 (sumsL W)) := HS4.out.later hb5
        have HT : Hid (IP w5 R2 c2 (sumsL (W.set k y))) := hT
        have HB5 := Lib.hid (HB4.out.trans (hb5.mono HB4.out.size))
        have hla := sumsL_len W
        have hlb : (sumsL (W.set k y)).length = W.length + 1 := by rw [sumsL_len, List.length_set]
        have hyv := HY.out hF
        have HP : Hid (∀ i, i ≤ W.length → pre (W.set k y) i = pre W i + (if k < i then (m : Int) else 0)) := fun i hi => by
          rw [pre_set y hk hi, hyv, HX.out]
          split <;> omega
        have HBA : Hid (∀ i, i ≤ W.length → 0 ≤ pre W i ∧ pre W i ≤ 500000000000) := fun i hi => by
          have := pre_bound hF hi
          have := hF.1
          omega
        have HLA := Lib.hid hla
        have HLB := Lib.hid hlb
        have h4 := hF.1
        have hac : W.length + 1 ≤ c1 := by have := HA.out.le; omega
        have ham : c1 ≤ 9223372036854775807 := HA.out.cap
        have hbc : W.length + 1 ≤ c2 := by have := HT.out.le; omega
        have hbm : c2 ≤ 9223372036854775807 := HT.out.cap
        clear hT hb5 C2 HS4 HB4 hyv HY hF hG hck hfk hy
        rw [hla, hlb]
        go_wp2_with fail
        clear hla hlb t0 t1 t1' t2 t3 t3'
        go_loopw [59] (fun iv wr => ∃ i : Nat, i ≤ W.length + 1 ∧ iv = .int .i64 i ∧ Below w5.heap.size w5 wr) (fun iv _ => W.length + 1 - (intOf iv).toNat)
        case atStart => exact ⟨0, by omega, rfl, Below.refl _ _⟩
        case round =>
          obtain ⟨i, hi, rfl, hB⟩ := hrel
          have HB := Lib.hid hB
          clear hB
          by_cases hlt : i < W.length + 1
          · have hla := HLA.out
            have hlb := HLB.out
            obtain ⟨b1, o1, rfl, _, hc1⟩ := (HA.out.later HB.out).il.at (by omega)
            obtain ⟨b2, o2, rfl, _, hc2⟩ := (HT.out.later HB.out).il.at (by omega)
            have ha := hc1 i (by omega)
            have hb := hc2 i (by omega)
            rw [sumsL_at (by omega)] at ha
            rw [sumsL_at (by rw [List.length_set]; omega), HP.out i (by omega)] at hb
            have hp := HBA.out i (by omega)
            have i1 : (i : Int) < (W.length : Int) + 1 := by omega
            have d1 : decide ((W.length : Int) + 1 ≤ (i : Int)) = false := by rw [decide_eq_false_iff_not]; omega
            have HBN : Hid (∀ q, Below w5.heap.size w5 (wr.drewN q)) := fun q => below_drewN HB.out q
            clear hc1 hc2 hla hlb
            generalize pre W i = p at *
            by_cases hki2 : k < i
            · rw [if_pos hki2] at hb
              have d2 : decide ((k : Int) < (i : Int)) = true := by rw [decide_eq_true_iff]; omega
              have d3 : decide (k < i) = true := decide_eq_true hki2
              have d4 : (p + (m : Int) != p + (m : Int)) = false := ineq_no rfl
              go_wp2
              go_quiet (fail)
              go_wp2
              go_roundw
              case rel => exact ⟨i + 1, by omega, by go_num, HBN.out _⟩
              case measure => simp [intOf]; omega
            · rw [if_neg hki2] at hb
              have d2 : decide ((k : Int) < (i : Int)) = false := by rw [decide_eq_false_iff_not]; omega
              have d3 : decide (k < i) = false := decide_eq_false hki2
              have d4 : (p + 0 != p + 0) = false := ineq_no rfl
              go_wp2
              go_quiet (fail)
              go_wp2
              go_roundw
              case rel => exact ⟨i + 1, by omega, by go_num, HBN.out _⟩
              case measure => simp [intOf]; omega
          · obtain rfl : i = W.length + 1 := by omega
            have HBE := Lib.hid (HB5.out.trans (HB.out.mono HB5.out.size))
            go_wp2
            go_ret
            exact ⟨rfl, HBE.out⟩
      · rw [sumsC_no hG] at C2
        clear hF hG
        unfold ltup
        go_wp2_with fail
        refine C2.out.mono ?_
        rintro e w5 ⟨R2, c2, rfl, hT, hb5⟩
        unfold ltup
        have HB5 := Lib.hid (HB4.out.trans (hb5.mono HB4.out.size))
        clear hT hb5 C2 HS4 HB4
        go_wp2
        go_ret
        exact ⟨rfl, HB5.out⟩
    · rw [sumsC_no hF] at HS4 ⊢
      generalize sumsC (W.set k y) = q at *
      obtain ⟨s2, f2⟩ := q
      clear hF
      unfold ltup
      go_wp2_with fail
      refine C2.out.mono ?_
      rintro e w5 ⟨R2, c2, rfl, hT, hb5⟩
      unfold ltup
      have HB5 := Lib.hid (HB4.out.trans (hb5.mono HB4.out.size))
      clear hT hb5 C2 HS4 HB4
      go_wp2
      go_ret
      exact ⟨rfl, HB5.out⟩
end Go.Proofs.Ytomdjaidechjpaa
