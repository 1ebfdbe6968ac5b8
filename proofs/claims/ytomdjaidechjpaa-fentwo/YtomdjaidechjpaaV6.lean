/- fen.Sums. -/
import Derived.Test.YtomdjaidechjpaaV1
namespace Go.Proofs.Ytomdjaidechjpaa
open Go.RowKit Go.Deep

set_option maxRecDepth 100000 in
set_option maxHeartbeats 1000000 in
theorem sumsC_any (A : Option Addr) (ca : Nat) (W : List Int) (w : World) (hW : IP w A ca W) :
    Calls Try.prog 8 #[.slice A W.length ca] w (LPost w (sumsC W)) := by
  have CR := Lib.hid (right_any A ca W w hW)
  have hle := hW.le
  have hcap := hW.cap
  by_cases hF : WF W
  · rw [wfB_ok hF] at CR
    rw [sumsC_ok hF]
    have h4 := hF.1
    have HW := Lib.hid hW
    have HF := Lib.hid hF
    have hmk := run_make_row' (P := Try.prog) 22 3 (.int .i64 0) 8 Try.underlying22 info_int rfl .i64 .i64 (W.length + 1) (by omega) (by omega)
    rw [show ((W.length + 1 : Nat) : Int) = (W.length : Int) + 1 by omega] at hmk
    have HZ : Hid (Bs 3 (w.alloc (.cells (madeCells #[.int .i64 0] (W.length + 1)) 3)) w.heap.size (ivs (sumsT W 0))) := by
      show Bs _ _ _ _
      rw [sumsT_zero]; exact bs_zeros w (W.length + 1)
    have HB0 : Hid (Below w.heap.size w (w.alloc (.cells (madeCells #[.int .i64 0] (W.length + 1)) 3))) := (Below.refl _ _).alloc (Nat.le_refl _) _
    clear hW hF
    go_enter Try.func8, Try.ntmps8
    go_wp2_with fail
    refine CR.out.mono ?_
    rintro e w1 ⟨rfl, rfl⟩
    clear CR
    go_wp2_with fail
    clear hmk
    go_loopw [16] (fun iv wr => ∃ k : Nat, k ≤ W.length ∧ iv = .int .i64 k ∧ Bs 3 wr w.heap.size (ivs (sumsT W k)) ∧ Below w.heap.size w wr) (fun iv _ => W.length - (intOf iv).toNat)
    case atStart => exact ⟨0, by omega, rfl, HZ.out, HB0.out⟩
    case round =>
      clear HZ HB0
      obtain ⟨k, hk, rfl, hZ, hB⟩ := hrel
      have HZ := Lib.hid hZ
      have HB := Lib.hid hB
      clear hZ hB
      by_cases hlt : k < W.length
      · obtain ⟨b, off, rfl, _, hcell⟩ := (HW.out.later HB.out).il.at (by omega)
        have hci := hcell k hlt
        have hx := HF.out.at k
        have hp := pre_bound HF.out hk
        have hck := HZ.out.atI (i := k) (by rw [sumsT_len]; omega)
        rw [sumsT_at hk, if_pos (Nat.le_refl _)] at hck
        have hfr := HZ.out.frozen (k + 1)
        have HZN := Lib.hid (HZ.out.setI (k + 1) (pre W (k + 1)))
        have HBN := Lib.hid (HB.out.setCell (p := ⟨w.heap.size, k + 1, none⟩) (Nat.le_refl _) (.int .i64 (pre W (k + 1))))
        rw [sumsT_step hlt, pre_succ hlt] at HZN
        rw [pre_succ hlt] at HBN
        have hc2 := HZ.out.atI (i := k + 1) (by rw [sumsT_len]; omega)
        clear hcell
        generalize (sumsT W k).getD (k + 1) 0 = y at *
        generalize W.getD k 0 = x at *
        generalize pre W k = p at *
        go_wp2
        go_roundw
        case rel => exact ⟨k + 1, by omega, by go_num, HZN.out, HBN.out⟩
        case measure => simp [intOf]; omega
      · obtain rfl : k = W.length := by omega
        have HZ2 := HZ
        rw [sumsT_all] at HZ2
        go_wp2
        go_ret2
        exact lpost_bs (by rw [sumsL_len]; omega) HZ2.out HB.out (by rw [sumsL_len]) (by rw [sumsL_len])
  · rw [wfB_no hF] at CR
    rw [sumsC_no hF]
    clear hW hF
    go_enter Try.func8, Try.ntmps8
    go_wp2_with fail
    refine CR.out.mono ?_
    rintro e w1 ⟨rfl, rfl⟩
    go_wp2
    go_ret2
    exact lpost_none (Below.refl _ _)
end Go.Proofs.Ytomdjaidechjpaa
