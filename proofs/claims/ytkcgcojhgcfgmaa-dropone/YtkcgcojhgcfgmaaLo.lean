/- lotdrawerkeep.DropOne: the walk. -/
import Derived.Test.YtkcgcojhgcfgmaaL8
import Derived.Test.YtkcgcojhgcfgmaaLk
import Derived.BigQuiet
namespace Go.Proofs.Ytkcgcojhgcfgmaa
open Go.RowKit Go.Deep

set_option maxRecDepth 100000 in
set_option maxHeartbeats 4000000 in
theorem dropOne_walk (A : Option Addr) (ca : Nat) (W : List Int) (w : World) (hW : IP w A ca W) :
    Calls Try.prog 6 #[.slice A W.length ca] w fun e w' => e = .returned (.bool true) ∧ Below w.heap.size w w' := by
  have CA := Lib.hid (alive11_any w)
  have hle := hW.le
  have hcap := hW.cap
  have HW := Lib.hid hW
  clear hW
  rcases levC_three W ((W.length : Int) - 1) with ⟨hc, hD⟩ | ⟨hc, hD, hL, hl⟩ | ⟨N, D, hc, hD, hL, hl⟩
  · go_enter Try.func6, Try.ntmps6
    go_wp2_with fail
    refine CA.out.mono ?_
    rintro e w1 ⟨rfl, hb1⟩
    have HB1 := Lib.hid hb1
    have C1 := Lib.hid (level_any A ca W ((W.length : Int) - 1) w1 (HW.out.later hb1))
    rw [hc] at C1
    unfold lvtup fval at C1
    clear CA hb1 HW hc hD
    go_wp2_with fail
    refine C1.out.mono ?_
    rintro e w2 ⟨rfl, hb2⟩
    have HB4 := Lib.hid (HB1.out.trans ((hb2.alloc hb2.size (.cells #[.int .i64 0, .int .i64 0] 24)).mono HB1.out.size))
    clear hb2 C1 HB1
    go_wp2
    go_ret
    exact ⟨rfl, HB4.out⟩
  · exact absurd hl (by omega)
  · have n1 := hL.n1
    have n2 := hL.n2
    have d1 := hL.d1
    have d4 := hL.bounds hD
    obtain ⟨s, rfl⟩ : ∃ s : Nat, N = (s : Int) := ⟨N.toNat, by omega⟩
    have hcs : (600 < s ∧ decide ((600 : Int) < (s : Int)) = true ∧ decide (600 < s) = true) ∨ (8 < W.length ∧ decide ((600 : Int) < (s : Int)) = false ∧ decide (600 < s) = false ∧ decide ((8 : Int) < (W.length : Int)) = true ∧ decide (8 < W.length) = true) ∨ ((s ≤ 600 ∧ W.length ≤ 8) ∧ decide ((600 : Int) < (s : Int)) = false ∧ decide (600 < s) = false ∧ decide ((8 : Int) < (W.length : Int)) = false ∧ decide (8 < W.length) = false) := by
      simp only [decide_eq_true_iff, decide_eq_false_iff_not]
      omega
    rcases hcs with ⟨_, t1, t2⟩ | ⟨_, t1, t2, t3, t4⟩ | ⟨⟨hs6, hw8⟩, t1, t2, t3, t4⟩
    case inr.inr =>
      have HX : Hid (∀ x ∈ W, 1 ≤ x ∧ x ≤ 1048576) := hD.2.2.2
      have HL := Lib.hid hL
      have HDD := Lib.hid hD
      have HWF := Lib.hid (sgL_wf hD (by omega : 0 ≤ (s : Int)) n2 (by omega : 0 ≤ D) d4)
      have HSS := Lib.hid (seg_sum hL)
      go_enter Try.func6, Try.ntmps6
      go_wp2_with fail
      refine CA.out.mono ?_
      rintro e w1 ⟨rfl, hb1⟩
      have HB1 := Lib.hid hb1
      have HW1 := Lib.hid (HW.out.later hb1)
      have C1 := Lib.hid (level_any A ca W ((W.length : Int) - 1) w1 HW1.out)
      rw [hc] at C1
      unfold lvtup fval at C1
      have hmk := run_make_row' (P := Try.prog) 22 3 (.int .i64 0) 8 Try.underlying22 info_int rfl .i64 .i64 W.length (by omega) (by omega)
      clear CA hb1 HW hc hD hL hl
      go_wp2_with fail
      refine C1.out.mono ?_
      rintro e w2 ⟨rfl, hb2⟩
      have HB2 := Lib.hid (HB1.out.trans (hb2.mono HB1.out.size))
      have HW2 := Lib.hid (HW1.out.later hb2)
      have HF0 := Lib.hid (fb_new w2 s D)
      obtain ⟨w3, hw3⟩ : ∃ w3, w2.alloc (.cells #[.int .i64 s, .int .i64 D] 24) = w3 := ⟨_, rfl⟩
      have hs3 : w3.heap.size = w2.heap.size + 1 := by rw [← hw3]; simp
      have hbz : Below w2.heap.size w2 w3 := by rw [← hw3]; exact (Below.refl _ _).alloc (Nat.le_refl _) _
      have hb3 : Below w3.heap.size w3 (w3.alloc (.cells (madeCells #[.int .i64 0] W.length) 3)) := (Below.refl _ _).alloc (Nat.le_refl _) _
      have HZ : Hid (Bs 3 (w3.alloc (.cells (madeCells #[.int .i64 0] W.length) 3)) (w2.heap.size + 1) (ivs (rowJ (sgL s D W) (0 : Nat)))) := by
        show Bs _ _ _ _
        rw [show rowJ (sgL s D W) ((0 : Nat) : Int) = List.replicate W.length 0 by rw [← sgL_len s D W]; exact rowJ_zero HWF.out, ← hs3]; exact bs_zeros w3 W.length
      have HF : Hid (FB (w3.alloc (.cells (madeCells #[.int .i64 0] W.length) 3)) w2.heap.size s D) := by
        have := HF0.out
        rw [hw3] at this
        exact this.below hb3 (by omega)
      have HB3 : Hid (Below w2.heap.size w2 (w3.alloc (.cells (madeCells #[.int .i64 0] W.length) 3))) := hbz.trans (hb3.mono (by omega))
      have hcF := HF.out.c0
      rw [← hw3] at HZ HF HB3 hcF
      have hcF0 : (w2.alloc (.cells #[.int .i64 s, .int .i64 D] 24)).cell? ⟨w2.heap.size, 0, none⟩ = some (.int .i64 s) := HF0.out.c0
      clear C1 hb2 HB1 HW1 hbz hb3 hs3 hw3 HF0
      go_wp2_with fail
      clear hmk hcF hcF0 t1 t2 t3 t4
      go_loopw [40] (fun iv wr => ∃ n : Nat, n ≤ s ∧ iv = .int .i64 n ∧ Bs 3 wr (w2.heap.size + 1) (ivs (rowJ (sgL s D W) n)) ∧ FB wr w2.heap.size s D ∧ Below w2.heap.size w2 wr) (fun iv _ => s - (intOf iv).toNat)
      case atStart => exact ⟨0, by omega, rfl, HZ.out, HF.out, HB3.out⟩
      case round =>
        clear HZ HF HB3
        obtain ⟨n, hn, rfl, hZ, hF, hB⟩ := hrel
        have HZ := Lib.hid hZ
        have HF := Lib.hid hF
        have HB := Lib.hid hB
        clear hZ hF hB
        have CP := Lib.hid (one_any A ca W (n : Int) wr (HW2.out.later HB.out) (by omega))
        rw [oneC_ok HDD.out HL.out.e] at CP
        by_cases hlt : n < s
        · obtain ⟨k, hp, hk, hk1, hk2, hk3⟩ := pk_some HWF.out (n := (n : Int)) (by omega) (by rw [HSS.out]; omega)
          rw [fnd_hit hp] at CP
          unfold ptup at CP
          have hkW : k < W.length := by rwa [sgL_len] at hk
          have HC := Lib.hid (rowJ_step HWF.out hk hk1 hk2)
          have hcb := cntJ_bound HWF.out n k
          have hcx := HWF.out.at k
          have hni : (n : Int) < (s : Int) := by omega
          clear hk1 hk2 hk3 hp
          go_wp2_with fail
          refine CP.out.mono ?_
          rintro e w5 ⟨rfl, hb5⟩
          have HZ5 : Hid (Bs 3 w5 (w2.heap.size + 1) (ivs (rowJ (sgL s D W) n))) := HZ.out.below hb5 HZ.out.lt
          have HF5 : Hid (FB w5 w2.heap.size s D) := HF.out.below hb5 HF.out.lt
          have HB5 := Lib.hid (HB.out.trans (hb5.mono HB.out.size))
          have hce := HZ5.out.atI (i := k) (by rw [rowJ_len]; exact hk)
          have hfe := HZ5.out.frozen k
          have HZ2 := Lib.hid (HZ5.out.setI k (cntJ (sgL s D W) n k + 1))
          rw [rowJ_at hk] at hce
          rw [HC.out] at HZ2
          have HF2 := Lib.hid (HF5.out.other (c := ⟨w2.heap.size + 1, k, none⟩) (by simp) (.int .i64 (cntJ (sgL s D W) n k + 1)))
          have HBn := Lib.hid (HB5.out.setCell (p := ⟨w2.heap.size + 1, k, none⟩) (by simp) (.int .i64 (cntJ (sgL s D W) n k + 1)))
          have hki : (k : Int) < (W.length : Int) := by omega
          have e1 : decide ((W.length : Int) ≤ (k : Int)) = false := by rw [decide_eq_false_iff_not]; omega
          have e2 : decide (W.length ≤ k) = false := by rw [decide_eq_false_iff_not]; omega
          clear CP hb5 HZ HF HB HZ5 HF5 HB5 HC
          generalize cntJ (sgL s D W) n k = x at *
          generalize (sgL s D W).getD k 0 = y at *
          go_wp2
          go_roundw
          case rel => exact ⟨n + 1, by omega, by go_num, by have := HZ2.out; simpa using this, HF2.out, HBn.out⟩
          case measure => simp [intOf]; omega
        · obtain rfl : n = s := by omega
          have HZ2 : Hid (Bs 3 wr (w2.heap.size + 1) (ivs (sgL n D W))) := by
            have e := rowJ_all HWF.out
            rw [HSS.out] at e
            have := HZ.out
            rwa [e] at this
          obtain ⟨wq, hwq⟩ : ∃ wq, wq = wr := ⟨_, rfl⟩
          subst hwq
          clear HZ CP
          go_wp2_with fail
          go_loopw [70] (fun iv wr => ∃ k : Nat, k ≤ W.length ∧ iv = .int .i64 k ∧ Bs 3 wr (w2.heap.size + 1) (ivs (sgL n D W)) ∧ FB wr w2.heap.size n D ∧ Below w2.heap.size w2 wr) (fun iv _ => W.length - (intOf iv).toNat)
          case atStart => exact ⟨0, by omega, rfl, HZ2.out, HF.out, HB.out⟩
          case round =>
            clear HZ2 HF HB
            obtain ⟨k, hk, rfl, hZ, hF, hB⟩ := hrel
            have HZ := Lib.hid hZ
            have HF := Lib.hid hF
            have HB := Lib.hid hB
            have c0 := hF.c0
            have c1 := hF.c1
            clear hZ hF hB
            by_cases hlk : k < W.length
            · obtain ⟨b, off, rfl, _, hcell⟩ := (HW2.out.later HB.out).il.at (by omega)
              have hci := hcell k hlk
              have hce := HZ.out.atI (i := k) (by rw [sgL_len]; exact hlk)
              rw [sgL_at hlk] at hce
              have hx := HX.out _ (memV hlk)
              have hyb := mulD (N := 0) hx.1 hx.2 (by omega : 0 ≤ D) d4
              have hsg : sgF (n : Int) D (W.getD k 0) = max 0 ((n : Int) - W.getD k 0 * D) := rfl
              obtain ⟨y, hy⟩ : ∃ y, W.getD k 0 * D = y := ⟨_, rfl⟩
              rw [hy] at hyb hsg
              obtain ⟨z, hz⟩ : ∃ z, (n : Int) - y = z := ⟨_, rfl⟩
              rw [hz] at hsg
              obtain ⟨v, hv⟩ : ∃ v, max z 0 = v := ⟨_, rfl⟩
              have hv2 : max 0 z = v := by omega
              rw [hv2] at hsg
              rw [hsg] at hce
              have hw1 : IntKind.i64.wrap (W.getD k 0 * D) = y := by rw [hy]; exact IntWalk.i64_in _ (by omega)
              have hw2 : IntKind.i64.wrap ((n : Int) - y) = z := by rw [hz]; exact IntWalk.i64_in _ (by omega)
              have tv : (v != v) = false := ineq_no rfl
              have hki : (k : Int) < (W.length : Int) := by omega
              clear hcell hsg hv2 hyb hy hz
              generalize W.getD k 0 = x at *
              go_wp2
              go_quiet (fail)
              go_wp2
              go_roundw
              case rel => exact ⟨k + 1, by omega, by go_num, HZ.out, HF.out, below_drewN HB.out _⟩
              case measure => simp [intOf]; omega
            · obtain rfl : k = W.length := by omega
              have CP := Lib.hid (one_any A ca W (n : Int) wr (HW2.out.later HB.out) (by omega))
              rw [oneC_ok HDD.out HL.out.e, fnd_miss (pk_none HWF.out (by rw [HSS.out]; omega))] at CP
              unfold ptup at CP
              have HBE := Lib.hid (HB2.out.trans (HB.out.mono HB2.out.size))
              clear HZ
              go_wp2_with fail
              refine CP.out.mono ?_
              rintro e w5 ⟨rfl, hb5⟩
              have HB6 := Lib.hid (HBE.out.trans (hb5.mono HBE.out.size))
              clear CP hb5 HBE
              go_wp2
              go_ret
              exact ⟨rfl, HB6.out⟩
    all_goals
      go_enter Try.func6, Try.ntmps6
      go_wp2_with fail
      refine CA.out.mono ?_
      rintro e w1 ⟨rfl, hb1⟩
      have HB1 := Lib.hid hb1
      have C1 := Lib.hid (level_any A ca W ((W.length : Int) - 1) w1 (HW.out.later hb1))
      rw [hc] at C1
      unfold lvtup fval at C1
      clear CA hb1 HW hc hD hL hl
      go_wp2_with fail
      refine C1.out.mono ?_
      rintro e w2 ⟨rfl, hb2⟩
      have HB4 := Lib.hid (HB1.out.trans ((hb2.alloc hb2.size (.cells #[.int .i64 s, .int .i64 D] 24)).mono HB1.out.size))
      clear hb2 C1 HB1
      go_wp2
      go_ret
      exact ⟨rfl, HB4.out⟩
end Go.Proofs.Ytkcgcojhgcfgmaa
