/- lotdrawerkeep.FenJust: the walk. -/
import Derived.Test.YtomdjaidechjpaaV9
import Derived.Test.YtomdjaidechjpaaVb
namespace Go.Proofs.Ytomdjaidechjpaa
open Go.RowKit Go.Deep

set_option maxRecDepth 100000 in
set_option maxHeartbeats 4000000 in
theorem fenJust_walk (A : Option Addr) (ca : Nat) (W : List Int) (w : World) (hW : IP w A ca W) :
    Calls Try.prog 4 #[.slice A W.length ca] w fun e w' => e = .returned (.bool true) ∧ Below w.heap.size w w' := by
  have CA := Lib.hid (alive9_any w)
  have hle := hW.le
  have hcap := hW.cap
  have HW := Lib.hid hW
  clear hW
  go_enter Try.func4, Try.ntmps4
  go_wp2_with fail
  refine CA.out.mono ?_
  rintro e w1 ⟨rfl, hb1⟩
  have HB1 := Lib.hid hb1
  have HW1 := Lib.hid (HW.out.later hb1)
  have CS := Lib.hid (sumsC_any A ca W w1 HW1.out)
  clear CA hb1 HW
  rcases Classical.em (WF W) with hF | hF
  · rw [sumsC_ok hF] at CS
    have h4 := hF.1
    have HF := Lib.hid hF
    have hsb := pre_bound hF (Nat.le_refl W.length)
    rw [pre_all] at hsb
    have hla := sumsL_len W
    have HLA := Lib.hid hla
    obtain ⟨s, hs⟩ : ∃ s : Nat, sumW W = s := ⟨(sumW W).toNat, by omega⟩
    have HSW := Lib.hid hs
    rw [hs] at hsb
    have i0 : (W.length : Int) < (W.length : Int) + 1 := by omega
    clear hF hs
    go_wp2_with fail
    refine CS.out.mono ?_
    rintro e w2 ⟨R, cr, rfl, hS, hb2⟩
    unfold ltup
    have HS : Hid (IP w2 R cr (sumsL W)) := hS
    have HB2 := Lib.hid (HB1.out.trans (hb2.mono HB1.out.size))
    have HW2 := Lib.hid (HW1.out.later hb2)
    have hrc : W.length + 1 ≤ cr := by have := HS.out.le; omega
    have hrm : cr ≤ 9223372036854775807 := HS.out.cap
    obtain ⟨b, off, rfl, hbl, hcell⟩ := HS.out.il.at (by omega)
    have hce := hcell W.length (by omega)
    rw [sumsL_at (Nat.le_refl _), pre_all, HSW.out] at hce
    clear hS hb2 CS HW1 HB1 hcell
    rw [hla]
    clear hla
    by_cases hbig : 500 < s
    · have d0 : decide ((500 : Int) < (s : Int)) = true := by rw [decide_eq_true_iff]; omega
      have d1 : decide (500 < s) = true := decide_eq_true hbig
      go_wp2
      go_ret
      exact ⟨rfl, HB2.out⟩
    · have d0 : decide ((500 : Int) < (s : Int)) = false := by rw [decide_eq_false_iff_not]; omega
      have d1 : decide (500 < s) = false := decide_eq_false hbig
      have hmk := run_make_row' (P := Try.prog) 22 3 (.int .i64 0) 8 Try.underlying22 info_int rfl .i64 .i64 W.length (by omega) (by omega)
      have HZ : Hid (Bs 3 (w2.alloc (.cells (madeCells #[.int .i64 0] W.length) 3)) w2.heap.size (ivs (rowJ W (0 : Nat)))) := by
        show Bs _ _ _ _
        rw [show rowJ W ((0 : Nat) : Int) = List.replicate W.length 0 from rowJ_zero HF.out]; exact bs_zeros w2 W.length
      have HBZ : Hid (Below w2.heap.size w2 (w2.alloc (.cells (madeCells #[.int .i64 0] W.length) 3))) := (Below.refl _ _).alloc (Nat.le_refl _) _
      have hce2 : (w2.alloc (.cells (madeCells #[.int .i64 0] W.length) 3)).cell? ⟨b, off + W.length, none⟩ = some (.int .i64 (s : Int)) := by rw [← hce]; exact HBZ.out.cell (p := ⟨b, off + W.length, none⟩) hbl
      go_wp2_with fail
      clear d0 d1 hmk hce hce2
      go_loopw [54] (fun iv wr => ∃ n : Nat, n ≤ s ∧ iv = .int .i64 n ∧ Bs 3 wr w2.heap.size (ivs (rowJ W n)) ∧ Below w2.heap.size w2 wr) (fun iv _ => s - (intOf iv).toNat)
      case atStart => exact ⟨0, by omega, rfl, HZ.out, HBZ.out⟩
      case round =>
        clear HZ HBZ
        obtain ⟨n, hn, rfl, hZ, hB⟩ := hrel
        have HZ := Lib.hid hZ
        have HB := Lib.hid hB
        clear hZ hB
        have hla := HLA.out
        obtain ⟨b', off', hbb, _, hcell⟩ := (HS.out.later HB.out).il.at (by omega)
        injection hbb with hbb
        injection hbb with hb1 hb2
        subst hb1 hb2
        have CP := Lib.hid (pickC_any A ca W (n : Int) wr (HW2.out.later HB.out) (by omega))
        rw [pickC_ok HF.out] at CP
        by_cases hlt : n < s
        · obtain ⟨k, hp, hk, hk1, hk2, hk3⟩ := pk_some HF.out (n := (n : Int)) (by omega) (by rw [HSW.out]; omega)
          rw [fnd_hit hp] at CP
          unfold ptup at CP
          have c0 := hcell k (by omega)
          have c1 := hcell (k + 1) (by omega)
          rw [sumsL_at (by omega)] at c0 c1
          have hce := HZ.out.atI (i := k) (by rw [rowJ_len]; exact hk)
          have hfe := HZ.out.frozen k
          have HZ2 := Lib.hid (HZ.out.setI k (cntJ W n k + 1))
          rw [rowJ_at hk] at hce
          rw [rowJ_step HF.out hk hk1 hk2] at HZ2
          have hcb := cntJ_bound HF.out n k
          have hcx := HF.out.at k
          have HBn := Lib.hid (HB.out.setCell (p := ⟨w2.heap.size, k, none⟩) (Nat.le_refl _) (.int .i64 (cntJ W n k + 1)))
          have hki : (k : Int) < (W.length : Int) := by omega
          have hki1 : (k : Int) < (W.length : Int) + 1 := by omega
          have hki2 : (k : Int) + 1 < (W.length : Int) + 1 := by omega
          have e1 : decide ((W.length : Int) ≤ (k : Int)) = false := by rw [decide_eq_false_iff_not]; omega
          have e2 : decide (W.length ≤ k) = false := by rw [decide_eq_false_iff_not]; omega
          have e3 : decide ((n : Int) < pre W k) = false := by rw [decide_eq_false_iff_not]; omega
          have e4 : decide (pre W (k + 1) ≤ (n : Int)) = false := by rw [decide_eq_false_iff_not]; omega
          have hni : (n : Int) < (s : Int) := by omega
          clear hcell hp hk1 hk2 hk3
          generalize cntJ W n k = x at *
          generalize pre W k = p at *
          generalize pre W (k + 1) = q at *
          generalize W.getD k 0 = y at *
          go_wp2_with fail
          refine CP.out.mono ?_
          rintro e w5 ⟨rfl, rfl⟩
          clear CP
          go_wp2
          go_roundw
          case rel => exact ⟨n + 1, by omega, by go_num, by have := HZ2.out; simpa using this, HBn.out⟩
          case measure => simp [intOf]; omega
        · obtain rfl : n = s := by omega
          have hce := hcell W.length (by omega)
          rw [sumsL_at (Nat.le_refl _), pre_all, HSW.out] at hce
          rw [fnd_miss (pk_none HF.out (by rw [HSW.out]; omega))] at CP
          unfold ptup at CP
          have HR := HZ
          rw [← HSW.out, rowJ_all HF.out] at HR
          have CE := Lib.hid (iequal_any (some ⟨w2.heap.size, 0, none⟩) A W.length ca W W wr (HR.out.ip (by omega)).il (HW2.out.later HB.out).il (by omega) (by omega))
          simp only [decide_true] at CE
          have HBE := Lib.hid (HB2.out.trans (HB.out.mono HB2.out.size))
          clear hcell HZ HR
          go_wp2_with fail
          refine CP.out.mono ?_
          rintro e w5 ⟨rfl, rfl⟩
          clear CP
          go_wp2_with fail
          refine CE.out.mono ?_
          rintro e w6 ⟨rfl, hb6⟩
          have HB6 := Lib.hid (HBE.out.trans (hb6.mono HBE.out.size))
          clear hb6 CE HBE
          go_wp2
          go_ret
          exact ⟨rfl, HB6.out⟩
  · rw [sumsC_no hF] at CS
    clear hF
    go_wp2_with fail
    refine CS.out.mono ?_
    rintro e w2 ⟨R, cr, rfl, hS, hb2⟩
    unfold ltup
    have HB2 := Lib.hid (HB1.out.trans (hb2.mono HB1.out.size))
    clear hS hb2 CS HW1 HB1
    go_wp2
    go_ret
    exact ⟨rfl, HB2.out⟩
end Go.Proofs.Ytomdjaidechjpaa
