/- lotdrawerkeep.FenTwo: the walk. -/
import Derived.Test.YtomdjaidechjpaaV9
import Derived.Test.YtomdjaidechjpaaVb
import Derived.Test.YtomdjaidechjpaaVk
import Derived.RegionTactic
import Derived.BigRegion
namespace Go.Proofs.Ytomdjaidechjpaa
open Go.RowKit Go.Deep

set_option maxRecDepth 100000 in
set_option maxHeartbeats 4000000 in
theorem fenTwo_walk (A : Option Addr) (ca : Nat) (W : List Int) (w : World) (hW : IP w A ca W) :
    Calls Try.prog 6 #[.slice A W.length ca] w fun e w' => e = .returned (.bool true) ∧ Below w.heap.size w w' := by
  have CA := Lib.hid (alive9_any w)
  have hle := hW.le
  have hcap := hW.cap
  have HW := Lib.hid hW
  clear hW
  go_enter Try.func6, Try.ntmps6
  go_wp2_with fail
  refine CA.out.mono ?_
  rintro e w1 ⟨rfl, hb1⟩
  have HB1 := Lib.hid hb1
  have HW1 := Lib.hid (HW.out.later hb1)
  have CS := Lib.hid (sumsC_any A ca W w1 HW1.out)
  clear CA hb1 HW
  rcases Classical.em (WF W) with hF | hF
  · rw [sumsC_ok hF] at CS
    have h4 := hF.1
    have HF := Lib.hid hF
    have hsb := pre_bound hF (Nat.le_refl W.length)
    rw [pre_all] at hsb
    have hla := sumsL_len W
    have HLA := Lib.hid hla
    obtain ⟨s, hs⟩ : ∃ s : Nat, sumW W = s := ⟨(sumW W).toNat, by omega⟩
    have HSW := Lib.hid hs
    rw [hs] at hsb
    have i0 : (W.length : Int) < (W.length : Int) + 1 := by omega
    clear hF hs
    go_wp2_with fail
    refine CS.out.mono ?_
    rintro e w2 ⟨R, cr, rfl, hS, hb2⟩
    unfold ltup
    have HS : Hid (IP w2 R cr (sumsL W)) := hS
    have HB2 := Lib.hid (HB1.out.trans (hb2.mono HB1.out.size))
    have HW2 := Lib.hid (HW1.out.later hb2)
    have hrc : W.length + 1 ≤ cr := by have := HS.out.le; omega
    have hrm : cr ≤ 9223372036854775807 := HS.out.cap
    obtain ⟨b, off, rfl, hbl, hcell⟩ := HS.out.il.at (by omega)
    have hce := hcell W.length (by omega)
    rw [sumsL_at (Nat.le_refl _), pre_all, HSW.out] at hce
    clear hS hb2 CS HW1 HB1 hcell
    rw [hla]
    clear hla
    by_cases hbig : 60 < s
    · have d0 : decide ((60 : Int) < (s : Int)) = true := by rw [decide_eq_true_iff]; omega
      have d1 : decide (60 < s) = true := decide_eq_true hbig
      go_wp2
      go_ret
      exact ⟨rfl, HB2.out⟩
    · have d0 : decide ((60 : Int) < (s : Int)) = false := by rw [decide_eq_false_iff_not]; omega
      have d1 : decide (60 < s) = false := decide_eq_false hbig
      have HM : Hid (PairM (w2.alloc (.map #[] 0)) w2.heap.size 0 (fun _ _ => 0)) := PairM.made w2
      have HBM : Hid (Below w2.heap.size w2 (w2.alloc (.map #[] 0))) := (Below.refl _ _).alloc (Nat.le_refl _) _
      have hmm := @run_makeMap Try.prog
      go_wp2_with fail
      clear d0 d1 hmm hce
      go_loopw [59] (fun iv wr => ∃ (a n : Nat) (F : Nat → Nat → Int), a ≤ s ∧ iv = .int .i64 a ∧ n ≤ a * 60 ∧ PairM wr w2.heap.size n F ∧ (∀ i j, i < W.length → j < W.length → F i j = pairT W a 0 0 i j) ∧ Below w2.heap.size w2 wr) (fun iv _ => s - (intOf iv).toNat)
      case atStart => exact ⟨0, 0, _, by omega, rfl, by omega, HM.out, fun i j hi hj => (pairT_zero HF.out hi hj (by omega)).symm, HBM.out⟩
      case round =>
        clear HM HBM
        obtain ⟨a, n, F, ha, rfl, hnn, hM, hFF, hB⟩ := hrel
        have HM := Lib.hid hM
        have HFF := Lib.hid hFF
        have HB := Lib.hid hB
        clear hM hFF hB
        by_cases hlt : a < s
        · obtain ⟨wI, hwI⟩ : ∃ wI, wI = wr := ⟨_, rfl⟩
          subst hwI
          obtain ⟨q, hp, hk, hk1, hk2, hk3⟩ := pk_some HF.out (n := (a : Int)) (by omega) (by rw [HSW.out]; omega)
          have CP := Lib.hid (pickC_any A ca W (a : Int) wI (HW2.out.later HB.out) (by omega))
          rw [pickC_ok HF.out, fnd_hit hp] at CP
          unfold ptup at CP
          have HP := Lib.hid hp
          have HK1 := Lib.hid hk1
          have HK2 := Lib.hid hk2
          have hqs := sum_ge HF.out hk
          rw [HSW.out] at hqs
          have hso := sumW_out hk
          rw [HSW.out] at hso
          obtain ⟨m, hm⟩ : ∃ m : Nat, (s : Int) - W.getD q 0 = (m : Int) := ⟨((s : Int) - W.getD q 0).toNat, by omega⟩
          rw [hm] at hso
          have HSO := Lib.hid hso
          obtain ⟨b1, o1, rfl, hbl1, hc1⟩ := (HW2.out.later HB.out).il.at (by omega)
          have hcq := hc1 q hk
          have hki : (q : Int) < (W.length : Int) := by omega
          have hmb : m ≤ 60 := by omega
          have e1 : decide ((W.length : Int) ≤ (q : Int)) = false := by rw [decide_eq_false_iff_not]; omega
          have e2 : decide (W.length ≤ q) = false := by rw [decide_eq_false_iff_not]; omega
          have hai : (a : Int) < (s : Int) := by omega
          have HMN := Lib.hid hm
          clear hp hk1 hk2 hc1 hso
          generalize W.getD q 0 = x at *
          go_wp2_with fail
          refine CP.out.mono ?_
          rintro e w5 ⟨rfl, rfl⟩
          clear CP
          go_wp2_with fail
          clear hm
          go_loopw [86] (fun iv wr => ∃ (c n : Nat) (F : Nat → Nat → Int), c ≤ m ∧ iv = .int .i64 c ∧ n ≤ a * 60 + c ∧ PairM wr w2.heap.size n F ∧ (∀ i j, i < W.length → j < W.length → F i j = pairT W a c q i j) ∧ Below w2.heap.size w2 wr) (fun iv _ => m - (intOf iv).toNat)
          case atStart => exact ⟨0, n, F, by omega, rfl, by omega, HM.out, fun i j hi hj => by rw [HFF.out i j hi hj]; exact pairT_any HF.out hj, HB.out⟩
          case round =>
            clear HM HFF HB
            obtain ⟨c, n, F, hc, rfl, hnn, hM, hFF, hB⟩ := hrel
            have HM := Lib.hid hM
            have HFF := Lib.hid hFF
            have HB := Lib.hid hB
            clear hM hFF hB
            by_cases hlc : c < m
            · obtain ⟨d, hp2, hd, hd1, hd2, hd3⟩ := pk_some (HF.out.set q) (n := (c : Int)) (by omega) (by rw [HSO.out]; omega)
              rw [List.length_set] at hd
              have hci : (c : Int) < (m : Int) := by omega
              have ha1 : Below wr.heap.size wr (wr.alloc (.cells #[.int .i64 (a : Int), .int .i64 (c : Int)] 3)) := (Below.refl _ _).alloc (Nat.le_refl _) _
              have CD := Lib.hid (drawC_any (some ⟨b1, o1, none⟩) (some ⟨wr.heap.size, 0, none⟩) ca 2 W [(a : Int), (c : Int)] _ ((HW2.out.later HB.out).later ha1) (ip_lit wr [(a : Int), (c : Int)] (by simp)) (by simp) (fun j hj => by
                match j, hj with
                | 0, _ => show (a : Int) ≤ _; omega
                | 1, _ => show (c : Int) ≤ _; omega
                | j + 2, hj => simp at hj; omega))
              rw [drawC_ok HF.out, draw_two HP.out hp2] at CD
              have HB3 := Lib.hid (HB.out.trans (ha1.mono HB.out.size))
              have HM3 := Lib.hid (HM.out.later ha1)
              clear ha1 hp2
              go_wp2_with fail
              refine CD.out.mono ?_
              rintro e w5 ⟨R3, c3, rfl, hD, hb5⟩
              unfold ltup
              have HB5 := Lib.hid (HB3.out.trans (hb5.mono HB3.out.size))
              have HM5 := Lib.hid (HM3.out.later hb5)
              have hdc : 2 ≤ c3 := hD.le
              have hdm : c3 ≤ 9223372036854775807 := hD.cap
              obtain ⟨b3, o3, rfl, _, hcell⟩ := hD.il.at (by simp)
              have x0 : w5.cell? ⟨b3, o3, none⟩ = some (.int .i64 (q : Int)) := hcell 0 (by simp)
              have x1 : w5.cell? ⟨b3, o3 + 1, none⟩ = some (.int .i64 (d : Int)) := hcell 1 (by simp)
              have n1 : ((q : Int) != (q : Int)) = false := ineq_no rfl
              clear hD hb5 CD HB3 HM3 HM HB hcell
              have hFq := HFF.out q d hk hd
              have hbq := pairT_bound HF.out (by rw [HSW.out]; omega) (a := a) (b := c) hk hd hk
              rw [← hFq] at hbq
              obtain ⟨st, w6, w7, hE, hL0, hL1, hSt, hM7, hg7⟩ := PairM.inc (w := w5.drew) (F := F) HM5.out (i := q) (j := d) (by omega) (by omega) (show n < 1000000 by omega) (by
                have : F q d + 1 ≤ 10001 := by omega
                have h0 : 0 ≤ F q d + 1 := by omega
                simp only [Lit.wf, Bool.and_eq_true, decide_eq_true_eq]
                exact ⟨Int.le_trans (show IntKind.i64.min ≤ 0 by decide) h0, Int.le_trans this (by decide)⟩)
              have HM7 := Lib.hid hM7
              have HB7 : Hid (Below w2.heap.size w2 w7) := (below_drewN HB5.out 1).grown hg7 HB5.out.size (fun k hk => by injection hk with hk; omega)
              have HFN : Hid (∀ i j, i < W.length → j < W.length → upd F q d (F q d + 1) i j = pairT W a ((c : Int) + 1) q i j) := fun i j hi hj => by
                rw [pairT_step HF.out hk hd hd1 hd2 hi hj, ← hFq]
                unfold upd
                rw [← HFF.out i j hi hj]
              unfold keyP at hE hL0 hL1
              clear hM7 hg7 hFq HFF hd1 hd2 hd3
              generalize F q d = z at *
              go_wp2
              go_region
              clear hE hL0 hL1 hSt x0 x1
              go_wp2
              go_roundw
              case rel => exact ⟨c + 1, n + 1, _, by omega, by go_num, by omega, HM7.out, fun i j hi hj => by have := HFN.out i j hi hj; push_cast; exact this, HB7.out⟩
              case measure => simp [intOf]; omega
            · obtain rfl : c = m := by omega
              have HFN : Hid (∀ i j, i < W.length → j < W.length → F i j = pairT W ((a + 1 : Nat) : Int) 0 0 i j) := fun i j hi hj => by
                rw [HFF.out i j hi hj, ← HSO.out]
                push_cast
                exact pairT_next HF.out hk HK1.out HK2.out hi hj
              go_wp2
              go_roundw
              case rel => exact ⟨a + 1, n, F, by omega, by go_num, by omega, HM.out, HFN.out, HB.out⟩
              case measure => simp [intOf]; omega
        · obtain rfl : a = s := by omega
          have HBE := Lib.hid (HB2.out.trans (HB.out.mono HB2.out.size))
          have HWE := Lib.hid (HW2.out.later HB.out)
          have HX : Hid (∀ i, i < W.length → 0 ≤ W.getD i 0 ∧ W.getD i 0 ≤ 60) := fun i hi => by
            have h1 := sum_ge HF.out hi
            rw [HSW.out] at h1
            have h2 := HF.out.at i
            omega
          go_wp2_with fail
          go_loop [127] (fun iv => ∃ i : Nat, i ≤ W.length ∧ iv = .int .i64 i) (fun iv => W.length - (intOf iv).toNat)
          case atStart => exact ⟨0, by omega, rfl⟩
          case round =>
            obtain ⟨i, hi, rfl⟩ := hrel
            by_cases hli : i < W.length
            · obtain ⟨b1, o1, rfl, _, hc1⟩ := HWE.out.il.at (by omega)
              have hci := hc1 i hli
              have hxi := HX.out i hli
              obtain ⟨x, hx⟩ : ∃ x, W.getD i 0 = x := ⟨_, rfl⟩
              rw [hx] at hci hxi
              have HXI := Lib.hid hx
              clear hc1 hx
              go_wp2_with fail
              go_loop [134] (fun iv => ∃ j : Nat, j ≤ W.length ∧ iv = .int .i64 j) (fun iv => W.length - (intOf iv).toNat)
              case atStart => exact ⟨0, by omega, rfl⟩
              case round =>
                obtain ⟨j, hj, rfl⟩ := hrel
                by_cases hlj : j < W.length
                · obtain ⟨b2, o2, hbb, _, hc2⟩ := HWE.out.il.at (by omega)
                  injection hbb with hbb
                  injection hbb with hbb1 hbb2
                  subst hbb1 hbb2
                  have hcj := hc2 j hlj
                  have hxj := HX.out j hlj
                  clear hc2
                  by_cases hne : i = j
                  · have t1 : ((i : Int) != (j : Int)) = false := ineq_no (by omega)
                    have HNE := Lib.hid hne
                    clear hne
                    generalize W.getD j 0 = y at *
                    go_wp2
                    go_round
                    case rel => exact ⟨j + 1, by omega, by go_num⟩
                    case measure => simp [intOf]; omega
                  · have t1 : ((i : Int) != (j : Int)) = true := ineq_yes (by omega)
                    obtain ⟨hL, _⟩ := HM.out.look (i := i) (j := j) (by omega) (by omega)
                    unfold keyP at hL
                    rw [HFF.out i j hli hlj, ← HSW.out, pairT_all HF.out hli hlj hne, HXI.out] at hL
                    have hm0 : 0 ≤ x * W.getD j 0 := Int.mul_nonneg hxi.1 hxj.1
                    have hm1 : x * W.getD j 0 ≤ 60 * 60 := Int.mul_le_mul hxi.2 hxj.2 hxj.1 (by omega)
                    have t2 : (x * W.getD j 0 != x * W.getD j 0) = false := ineq_no rfl
                    clear hne
                    generalize W.getD j 0 = y at *
                    go_wp2
                    go_round
                    case rel => exact ⟨j + 1, by omega, by go_num⟩
                    case measure => simp [intOf]; omega
                · obtain rfl : j = W.length := by omega
                  go_wp2
                  go_round
                  case rel => exact ⟨i + 1, by omega, by go_num⟩
                  case measure => simp [intOf]; omega
            · obtain rfl : i = W.length := by omega
              go_wp2
              go_ret
              exact ⟨rfl, HBE.out⟩
  · rw [sumsC_no hF] at CS
    clear hF
    go_wp2_with fail
    refine CS.out.mono ?_
    rintro e w2 ⟨R, cr, rfl, hS, hb2⟩
    unfold ltup
    have HB2 := Lib.hid (HB1.out.trans (hb2.mono HB1.out.size))
    clear hS hb2 CS HW1 HB1
    go_wp2
    go_ret
    exact ⟨rfl, HB2.out⟩
end Go.Proofs.Ytomdjaidechjpaa
