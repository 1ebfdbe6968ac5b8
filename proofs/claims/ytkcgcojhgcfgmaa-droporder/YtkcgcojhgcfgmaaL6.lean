/- drop.One. -/
import Derived.Test.YtkcgcojhgcfgmaaL4
import Derived.Test.YtkcgcojhgcfgmaaLh
import Derived.Test.YtkcgcojhgcfgmaaV3
namespace Go.Proofs.Ytkcgcojhgcfgmaa
open Go.RowKit Go.Deep

set_option maxRecDepth 100000 in
set_option maxHeartbeats 2000000 in
theorem one_any (A : Option Addr) (ca : Nat) (W : List Int) (n : Int) (w : World) (hW : IP w A ca W) (hn : n ≤ 9223372036854775807) :
    Calls Try.prog 11 #[.slice A W.length ca, .int .i64 n] w fun e w' => e = .returned (ptup (oneC W n)) ∧ Below w.heap.size w w' := by
  have CL := Lib.hid (level_any A ca W ((W.length : Int) - 1) w hW)
  have hle := hW.le
  have hcap := hW.cap
  have HW := Lib.hid hW
  clear hW
  rcases levC_cases W ((W.length : Int) - 1) with ⟨h, hD⟩ | ⟨N, D, h, hD, hL, hN0, hN1, hD0, hD1⟩
  · rw [h] at CL
    rw [oneC_no hD]
    clear h hD
    unfold lvtup fval at CL
    go_enter Try.func11, Try.ntmps11
    go_wp2_with fail
    refine CL.out.mono ?_
    rintro e w1 ⟨rfl, hb⟩
    have HB := Lib.hid (hb.alloc hb.size (.cells #[.int .i64 0, .int .i64 0] 24))
    clear CL hb
    go_wp2
    go_ret2
    exact ⟨rfl, HB.out⟩
  · rw [h] at CL
    rw [oneC_ok hD hL]
    have h4 := hD.1
    have HD := Lib.hid hD
    have HWF := Lib.hid (sgL_wf hD hN0 hN1 hD0 hD1)
    clear h hL hD
    unfold lvtup fval at CL
    have hmk := run_make_row' (P := Try.prog) 22 3 (.int .i64 0) 8 Try.underlying22 info_int rfl .i64 .i64 W.length (by omega) (by omega)
    go_enter Try.func11, Try.ntmps11
    go_wp2_with fail
    refine CL.out.mono ?_
    rintro e w1 ⟨rfl, hb⟩
    have HB := Lib.hid hb
    have HW1 := Lib.hid (HW.out.later hb)
    have HF0 := Lib.hid (fb_new w1 N D)
    obtain ⟨w2, hw2⟩ : ∃ w2, w1.alloc (.cells #[.int .i64 N, .int .i64 D] 24) = w2 := ⟨_, rfl⟩
    have hs2 : w2.heap.size = w1.heap.size + 1 := by rw [← hw2]; simp
    have hbz : Below w1.heap.size w1 w2 := by rw [← hw2]; exact (Below.refl _ _).alloc (Nat.le_refl _) _
    have hb3 : Below w2.heap.size w2 (w2.alloc (.cells (madeCells #[.int .i64 0] W.length) 3)) := (Below.refl _ _).alloc (Nat.le_refl _) _
    have HZ : Hid (Bs 3 (w2.alloc (.cells (madeCells #[.int .i64 0] W.length) 3)) (w1.heap.size + 1) (ivs (sgT N D W 0))) := by
      show Bs _ _ _ _
      rw [sgT_zero, ← hs2]; exact bs_zeros w2 W.length
    have HF : Hid (FB (w2.alloc (.cells (madeCells #[.int .i64 0] W.length) 3)) w1.heap.size N D) := by
      have := HF0.out
      rw [hw2] at this
      exact this.below hb3 (by omega)
    have HB3 : Hid (Below w1.heap.size w1 (w2.alloc (.cells (madeCells #[.int .i64 0] W.length) 3))) := hbz.trans (hb3.mono (by omega))
    rw [← hw2] at HZ HF HB3
    clear CL hb HW hbz hb3 hs2 hw2 HF0
    go_wp2_with fail
    clear hmk
    go_loopw [27] (fun iv wr => ∃ k : Nat, k ≤ W.length ∧ iv = .int .i64 k ∧ Bs 3 wr (w1.heap.size + 1) (ivs (sgT N D W k)) ∧ FB wr w1.heap.size N D ∧ Below w1.heap.size w1 wr) (fun iv _ => W.length - (intOf iv).toNat)
    case atStart => exact ⟨0, by omega, rfl, HZ.out, HF.out, HB3.out⟩
    case round =>
      clear HZ HF HB3
      obtain ⟨k, hk, rfl, hZ, hF, hB⟩ := hrel
      have HZ := Lib.hid hZ
      have HF := Lib.hid hF
      have HB1 := Lib.hid hB
      have c0 := hF.c0
      have c1 := hF.c1
      clear hZ hF hB
      by_cases hlt : k < W.length
      · obtain ⟨b, off, rfl, _, hcell⟩ := (HW1.out.later HB1.out).il.at (by omega)
        have hci := hcell k hlt
        have hx := HD.out.at hlt
        have cz := HZ.out.atI (i := k) (by rw [sgT_len]; exact hlt)
        have fz := HZ.out.frozen k
        have HZ2 := Lib.hid (HZ.out.setI k (sgF N D (W.getD k 0)))
        rw [sgT_step hlt] at HZ2
        have HF2 := Lib.hid (HF.out.other (c := ⟨w1.heap.size + 1, k, none⟩) (by simp) (.int .i64 (sgF N D (W.getD k 0))))
        have HB2 := Lib.hid (HB1.out.setCell (p := ⟨w1.heap.size + 1, k, none⟩) (by simp) (.int .i64 (sgF N D (W.getD k 0))))
        obtain ⟨y, hy⟩ : ∃ y, W.getD k 0 * D = y := ⟨_, rfl⟩
        have hyb := mulD (N := N) hx.1 hx.2 hD0 hD1
        rw [hy] at hyb
        have hq2 : sgF N D (W.getD k 0) = max 0 (N - y) := by unfold sgF; rw [hy]
        rw [hq2] at HZ2 HF2 HB2
        have hki : (k : Int) < (W.length : Int) := by omega
        clear hcell HZ HF HB1 hq2
        generalize (sgT N D W k).getD k 0 = z at *
        generalize W.getD k 0 = x at *
        go_wp2
        go_roundw
        case rel => exact ⟨k + 1, by omega, by go_num, HZ2.out, HF2.out, HB2.out⟩
        case measure => simp [intOf]; omega
      · obtain rfl : k = W.length := by omega
        have hF := HZ.out
        rw [sgT_all] at hF
        have CP := Lib.hid (pickC_any (some ⟨w1.heap.size + 1, 0, none⟩) W.length (sgL N D W) n wr ⟨hF.vs, by rw [sgL_len]; exact Nat.le_refl _, by omega, fun h => by cases h⟩ hn)
        rw [pickC_ok HWF.out, sgL_len] at CP
        unfold ptup at CP
        have HBE := Lib.hid (HB.out.trans (HB1.out.mono HB.out.size))
        clear hF HZ
        go_wp2_with fail
        refine CP.out.mono ?_
        rintro e w3 ⟨rfl, rfl⟩
        clear CP
        go_wp2
        go_ret2
        exact ⟨rfl, HBE.out⟩
end Go.Proofs.Ytkcgcojhgcfgmaa
