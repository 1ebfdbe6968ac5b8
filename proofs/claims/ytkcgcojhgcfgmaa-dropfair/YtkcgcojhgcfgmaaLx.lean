/- lotdrawerkeep.DropFair: the walk. -/
import Derived.Test.YtkcgcojhgcfgmaaL8
import Derived.Test.YtkcgcojhgcfgmaaLf
namespace Go.Proofs.Ytkcgcojhgcfgmaa
open Go.RowKit Go.Deep

set_option maxRecDepth 100000 in
set_option maxHeartbeats 4000000 in
theorem dropFair_walk (A A2 : Option Addr) (ca c2 : Nat) (W : List Int) (T : List Bool) (w : World) (hW : IP w A ca W) (hT : TP w A2 c2 T) :
    Calls Try.prog 7 #[.slice A W.length ca, .slice A2 T.length c2] w fun e w' => e = .returned (.bool true) ∧ Below w.heap.size w w' := by
  have CA := Lib.hid (alive11_any w)
  have hle := hW.le
  have hcap := hW.cap
  have hle2 := hT.le
  have hcap2 := hT.cap
  have HW := Lib.hid hW
  have HT := Lib.hid hT
  clear hW hT
  rcases levC_three W ((W.length : Int) - 1) with ⟨hc, hD⟩ | ⟨hc, hD, hL, hl⟩ | ⟨N, D, hc, hD, hL, hl⟩
  · go_enter Try.func7, Try.ntmps7
    go_wp2_with fail
    refine CA.out.mono ?_
    rintro e w1 ⟨rfl, hb1⟩
    have HB1 := Lib.hid hb1
    have C1 := Lib.hid (level_any A ca W ((W.length : Int) - 1) w1 (HW.out.later hb1))
    rw [hc] at C1
    unfold lvtup fval at C1
    clear CA hb1 HW hc hD
    go_wp2_with fail
    refine C1.out.mono ?_
    rintro e w2 ⟨rfl, hb2⟩
    have HB4 := Lib.hid (HB1.out.trans ((hb2.alloc hb2.size (.cells #[.int .i64 0, .int .i64 0] 24)).mono HB1.out.size))
    clear hb2 C1 HB1
    go_wp2
    go_ret
    exact ⟨rfl, HB4.out⟩
  · exact absurd hl (by omega)
  · have n1 := hL.n1
    have n2 := hL.n2
    have d1 := hL.d1
    have d4 := hL.bounds hD
    obtain ⟨s, rfl⟩ : ∃ s : Nat, N = (s : Int) := ⟨N.toNat, by omega⟩
    have hcs : (600 < s ∧ decide ((600 : Int) < (s : Int)) = true ∧ decide (600 < s) = true) ∨ (8 < W.length ∧ decide ((600 : Int) < (s : Int)) = false ∧ decide (600 < s) = false ∧ decide ((8 : Int) < (W.length : Int)) = true ∧ decide (8 < W.length) = true) ∨
        (T.length ≠ W.length ∧ (decide ((600 : Int) < (s : Int)) = false ∧ decide (600 < s) = false) ∧ (decide ((8 : Int) < (W.length : Int)) = false ∧ decide (8 < W.length) = false)) ∨
        ((s ≤ 600 ∧ W.length ≤ 8 ∧ T.length = W.length) ∧ decide ((600 : Int) < (s : Int)) = false ∧ decide (600 < s) = false ∧ decide ((8 : Int) < (W.length : Int)) = false ∧ decide (8 < W.length) = false) := by
      simp only [decide_eq_true_iff, decide_eq_false_iff_not]
      omega
    rcases hcs with ⟨_, t1, t2⟩ | ⟨_, t1, t2, t3, t4⟩ | ⟨hne, ⟨t1, t2⟩, ⟨t3, t4⟩⟩ | ⟨⟨hs6, hw8, htl⟩, t1, t2, t3, t4⟩
    case inr.inr.inr =>
      have HX : Hid (∀ x ∈ W, 1 ≤ x ∧ x ≤ 1048576) := hD.2.2.2
      have HL := Lib.hid hL
      have HDD := Lib.hid hD
      have HWF := Lib.hid (sgL_wf hD (by omega : 0 ≤ (s : Int)) n2 (by omega : 0 ≤ D) d4)
      have HSS := Lib.hid (seg_sum hL)
      have HTL := Lib.hid htl
      have HM : Hid (∀ j, j < W.length → 0 ≤ mxF s D (W.getD j 0) ∧ mxF s D (W.getD j 0) ≤ 419430400) := fun j hj => mxF_bound (HX.out _ (memV hj)) (by omega) d4 (by omega) n2
      have t5 : ((W.length : Int) != (W.length : Int)) = false := neq_no rfl
      rw [htl]
      go_enter Try.func7, Try.ntmps7
      go_wp2_with fail
      refine CA.out.mono ?_
      rintro e w1 ⟨rfl, hb1⟩
      have HB1 := Lib.hid hb1
      have HW1 := Lib.hid (HW.out.later hb1)
      have HT1 := Lib.hid (HT.out.later hb1)
      have C1 := Lib.hid (level_any A ca W ((W.length : Int) - 1) w1 HW1.out)
      rw [hc] at C1
      unfold lvtup fval at C1
      clear CA hb1 HW HT hc hD hL hl htl
      go_wp2_with fail
      refine C1.out.mono ?_
      rintro e w2 ⟨rfl, hb2⟩
      have hb3 := hb2.alloc hb2.size (.cells #[.int .i64 s, .int .i64 D] 24)
      have HB2 := Lib.hid (HB1.out.trans (hb3.mono HB1.out.size))
      have HW2 := Lib.hid (HW1.out.later hb3)
      have HT2 := Lib.hid (HT1.out.later hb3)
      have HF2 := Lib.hid (fb_new w2 s D)
      obtain ⟨w3, hw3⟩ : ∃ w3, w2.alloc (.cells #[.int .i64 s, .int .i64 D] 24) = w3 := ⟨_, rfl⟩
      rw [hw3] at HB2 HW2 HT2 HF2
      have c0 := HF2.out.c0
      have c1 := HF2.out.c1
      clear C1 hb2 hb3 HB1 HW1 HT1
      go_wp2_with fail
      clear t1 t2 t3 t4 t5
      go_loop [8, 47] (fun sv kv => ∃ k : Nat, k ≤ W.length ∧ kv = .int .i64 k ∧ sv = .int .i64 (sN (weF W T s D) k)) (fun _ kv => W.length - (intOf kv).toNat)
      case atStart => exact ⟨0, by omega, rfl, rfl⟩
      case round =>
        obtain ⟨k, hk, rfl, rfl⟩ := hrel
        have p1 := sN_bound (g := weF W T s D) (C := 419430400 * 600) (k := k) (fun j hj => by
          have hx := HX.out _ (memV (show j < W.length by omega))
          exact weF_bound (by omega) (by omega) (mulD (N := 0) hx.1 hx.2 (by omega) d4))
        by_cases hlt : k < W.length
        · obtain ⟨b, off, rfl, _, hcell⟩ := HW2.out.il.at (by omega)
          have hci := hcell k hlt
          obtain ⟨b2, off2, rfl, _, hcell2⟩ := HT2.out.tp.at (by rw [HTL.out]; omega)
          have hcj := hcell2 k (by rw [HTL.out]; exact hlt)
          have hx := HX.out _ (memV hlt)
          have hy := mulD (N := 0) hx.1 hx.2 (by omega : 0 ≤ D) d4
          have E1 : Hid (sN (weF W T s D) (k + 1) = sN (weF W T s D) k + weF W T s D k) := rfl
          obtain ⟨y, hyy⟩ : ∃ y, W.getD k 0 * D = y := ⟨_, rfl⟩
          rw [hyy] at hy
          obtain ⟨z, hzz⟩ : ∃ z, y * (s : Int) = z := ⟨_, rfl⟩
          have hz0 : 0 ≤ z := by rw [← hzz]; exact Int.mul_nonneg (by omega) (by omega)
          have hz1 : z ≤ 419430400 * 600 := by rw [← hzz]; exact Int.mul_le_mul hy.2 (by omega) (by omega) (by omega)
          have e1 : weF W T s D k = if T.getD k false then z else 0 := by unfold weF; rw [hyy, hzz]
          rw [e1] at E1
          have hkk : (k : Int) < (W.length : Int) := by omega
          clear hcell hcell2 e1
          cases hv : T.getD k false
          · rw [hv] at E1 hcj
            clear hv
            generalize W.getD k 0 = x at *
            generalize sN (weF W T s D) k = s1 at *
            go_wp2
            go_round
            case rel => exact ⟨k + 1, by omega, by go_num, by rw [E1.out]; simp⟩
            case measure => simp [intOf]; omega
          · rw [hv] at E1 hcj
            clear hv
            generalize W.getD k 0 = x at *
            generalize sN (weF W T s D) k = s1 at *
            go_wp2
            go_round
            case rel => exact ⟨k + 1, by omega, by go_num, by rw [E1.out]; simp⟩
            case measure => simp [intOf]; omega
        · obtain rfl : k = W.length := by omega
          obtain ⟨X, hX⟩ : ∃ X, sN (weF W T s D) W.length = X := ⟨_, rfl⟩
          rw [hX] at p1 ⊢
          have HXX : Hid (sN (tlF W T s D s) W.length = X) := by
            show _ = _
            rw [← hX]
            exact fair_all T HWF.out HSS.out (by omega) (fun x hx => (mulD (N := 0) (HX.out x hx).1 (HX.out x hx).2 (by omega) d4).1)
          have H0 := Lib.hid (fair_start T HWF.out)
          clear hX
          go_wp2_with fail
          clear c0 c1
          go_loopw [7, 68] (fun tv iv wr => ∃ n : Nat, n ≤ s ∧ iv = .int .i64 n ∧ tv = .int .i64 (sN (tlF W T s D n) W.length) ∧ FB wr w2.heap.size s D ∧ Below w3.heap.size w3 wr) (fun _ iv _ => s - (intOf iv).toNat)
          case atStart => exact ⟨0, by omega, rfl, by rw [show ((0 : Nat) : Int) = 0 from rfl, H0.out], HF2.out, Below.refl _ _⟩
          case round =>
            clear H0
            obtain ⟨n, hn, rfl, rfl, hF, hB⟩ := hrel
            have HF := Lib.hid hF
            have HB := Lib.hid hB
            have hcF := hF.c0
            clear hF hB
            have p2 := sN_bound (g := tlF W T s D n) (C := 600 * 419430400) (k := W.length) (fun j hj => tlF_bound HWF.out (by omega) (by omega) hj (HM.out j hj))
            by_cases hlt : n < s
            · have CP := Lib.hid (one_any A ca W (n : Int) wr (HW2.out.later HB.out) (by omega))
              rw [oneC_ok HDD.out HL.out.e] at CP
              obtain ⟨q, hp, hq, hq1, hq2, hq3⟩ := pk_some HWF.out (n := (n : Int)) (by omega) (by rw [HSS.out]; omega)
              rw [fnd_hit hp] at CP
              unfold ptup at CP
              rw [sgL_len] at hq
              have HST := Lib.hid (fair_step T HWF.out hq hq1 hq2)
              have hni : (n : Int) < (s : Int) := by omega
              clear hq1 hq2 hq3 hp
              generalize sN (tlF W T s D n) W.length = S0 at *
              go_wp2_with fail
              refine CP.out.mono ?_
              rintro e w5 ⟨rfl, hb5⟩
              have hF5 : FB w5 w2.heap.size s D := HF.out.below hb5 HF.out.lt
              have HB5 := Lib.hid (HB.out.trans (hb5.mono HB.out.size))
              have HF5 := Lib.hid hF5
              have c0 := hF5.c0
              have c1 := hF5.c1
              have HW5 := Lib.hid (HW2.out.later HB5.out)
              have HT5 := Lib.hid (HT2.out.later HB5.out)
              clear CP hb5 HF HB hF5 hcF
              go_wp2_with fail
              go_loop [7, 81] (fun tv kv => ∃ k : Nat, k ≤ W.length ∧ kv = .int .i64 k ∧ tv = .int .i64 (S0 + sN (ptF W T s D q) k)) (fun _ kv => W.length - (intOf kv).toNat)
              case atStart => exact ⟨0, by omega, rfl, by simp [sN]⟩
              case round =>
                obtain ⟨k, hk, rfl, rfl⟩ := hrel
                have p3 := sN_bound (g := ptF W T s D q) (C := 419430400) (k := k) (fun j hj => ptF_bound (HM.out j (by omega)))
                by_cases hlk : k < W.length
                · obtain ⟨b, off, rfl, _, hcell⟩ := HW5.out.il.at (by omega)
                  have hci := hcell k hlk
                  obtain ⟨b2, off2, rfl, _, hcell2⟩ := HT5.out.tp.at (by rw [HTL.out]; omega)
                  have hcj := hcell2 k (by rw [HTL.out]; exact hlk)
                  have hx := HX.out _ (memV hlk)
                  have hy := mulD (N := 0) hx.1 hx.2 (by omega : 0 ≤ D) d4
                  have E1 : Hid (sN (ptF W T s D q) (k + 1) = sN (ptF W T s D q) k + ptF W T s D q k) := rfl
                  obtain ⟨y, hyy⟩ : ∃ y, W.getD k 0 * D = y := ⟨_, rfl⟩
                  rw [hyy] at hy
                  obtain ⟨z, hzz⟩ : ∃ z, max y (s : Int) = z := ⟨_, rfl⟩
                  have hz : 0 ≤ z ∧ z ≤ 419430400 := by omega
                  have e1 : ptF W T s D q k = if T.getD k false && decide (k ≠ q) then z else 0 := by unfold ptF mxF; rw [hyy, hzz]
                  rw [e1] at E1
                  have hkk : (k : Int) < (W.length : Int) := by omega
                  clear hcell hcell2 e1
                  cases hv : T.getD k false
                  · rw [hv] at E1 hcj
                    clear hv
                    generalize W.getD k 0 = x at *
                    generalize sN (ptF W T s D q) k = s1 at *
                    go_wp2
                    go_round
                    case rel => exact ⟨k + 1, by omega, by go_num, by rw [E1.out]; simp⟩
                    case measure => simp [intOf]; omega
                  · rw [hv] at E1 hcj
                    clear hv
                    rcases Classical.em (k = q) with hkq | hkq
                    · have tq := neq_no hkq
                      rw [show decide (k ≠ q) = false by simp [hkq]] at E1
                      clear hkq
                      generalize W.getD k 0 = x at *
                      generalize sN (ptF W T s D q) k = s1 at *
                      go_wp2
                      go_round
                      case rel => exact ⟨k + 1, by omega, by go_num, by rw [E1.out]; simp⟩
                      case measure => simp [intOf]; omega
                    · have tq := neq_yes hkq
                      rw [show decide (k ≠ q) = true by simp [hkq]] at E1
                      clear hkq
                      generalize W.getD k 0 = x at *
                      generalize sN (ptF W T s D q) k = s1 at *
                      go_wp2
                      go_round
                      case rel => exact ⟨k + 1, by omega, by go_num, by rw [E1.out]; simp; omega⟩
                      case measure => simp [intOf]; omega
                · obtain rfl : k = W.length := by omega
                  go_wp2
                  go_roundw
                  case rel => exact ⟨n + 1, by omega, by go_num, by rw [HST.out]; push_cast; rfl, HF5.out, HB5.out⟩
                  case measure => simp [intOf]; omega
            · obtain rfl : n = s := by omega
              have tx : (X == X) = true := beq_self_eq_true _
              rw [HXX.out]
              have HBE := Lib.hid (HB2.out.trans (HB.out.mono HB2.out.size))
              go_wp2
              go_ret
              exact ⟨rfl, HBE.out⟩
    all_goals
      try have t5 := neq_yes hne
      try clear hne
      go_enter Try.func7, Try.ntmps7
      go_wp2_with fail
      refine CA.out.mono ?_
      rintro e w1 ⟨rfl, hb1⟩
      have HB1 := Lib.hid hb1
      have C1 := Lib.hid (level_any A ca W ((W.length : Int) - 1) w1 (HW.out.later hb1))
      rw [hc] at C1
      unfold lvtup fval at C1
      clear CA hb1 HW hc hD hL hl
      go_wp2_with fail
      refine C1.out.mono ?_
      rintro e w2 ⟨rfl, hb2⟩
      have HB4 := Lib.hid (HB1.out.trans ((hb2.alloc hb2.size (.cells #[.int .i64 s, .int .i64 D] 24)).mono HB1.out.size))
      clear hb2 C1 HB1
      go_wp2
      go_ret
      exact ⟨rfl, HB4.out⟩
end Go.Proofs.Ytkcgcojhgcfgmaa
