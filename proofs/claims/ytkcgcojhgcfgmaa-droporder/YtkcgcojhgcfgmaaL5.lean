/- drop.Heavy. -/
import Derived.Test.YtkcgcojhgcfgmaaL4
import Derived.Test.YtkcgcojhgcfgmaaLh
namespace Go.Proofs.Ytkcgcojhgcfgmaa
open Go.RowKit Go.Deep

/-- A list of bits and an error. -/
def BPost (w : World) (r : List Bool × Int) (e : Ending) (w' : World) : Prop := ∃ R ca, e = .returned (.tuple #[.slice R r.1.length ca, .int .i64 r.2]) ∧ TP w' R ca r.1 ∧ Below w.heap.size w w'
theorem Bs.setB {T : Nat} {w : World} {g : Nat} {l : List Bool} (h : Bs T w g (bvs l)) (i : Nat) (x : Bool) : Bs T (w.setCell ⟨g, i, none⟩ (.bool x)) g (bvs (l.set i x)) := by
  rw [← bvs_set]; exact h.set i _
theorem bs_falses (w : World) (n : Nat) : Bs 4 (w.alloc (.cells (madeCells #[.bool false] n) 4)) w.heap.size (bvs (List.replicate n false)) := by
  have := Bs.made 4 w (.bool false) n
  simpa [bvs] using this

set_option maxRecDepth 100000 in
set_option maxHeartbeats 2000000 in
theorem heavy_any (A : Option Addr) (ca : Nat) (W : List Int) (m : Int) (w : World) (hW : IP w A ca W) :
    Calls Try.prog 10 #[.slice A W.length ca, .int .i64 m] w (BPost w (hvC W m)) := by
  have CL := Lib.hid (level_any A ca W m w hW)
  have hle := hW.le
  have hcap := hW.cap
  have HW := Lib.hid hW
  clear hW
  rcases levC_cases W m with ⟨h, hD⟩ | ⟨N, D, h, hD, hL, hN0, hN1, hD0, hD1⟩
  · rw [h] at CL
    rw [hvC_no hD]
    clear h hD
    unfold lvtup fval at CL
    go_enter Try.func10, Try.ntmps10
    go_wp2_with fail
    refine CL.out.mono ?_
    rintro e w1 ⟨rfl, hb⟩
    have HB := Lib.hid (hb.alloc hb.size (.cells #[.int .i64 0, .int .i64 0] 24))
    clear CL hb
    go_wp2
    go_ret2
    exact ⟨none, 0, rfl, ⟨Tp.nil, by simp, by omega, by simp, fun _ => rfl⟩, HB.out⟩
  · rw [h] at CL
    rw [hvC_ok hD hL]
    have h4 := hD.1
    have HD := Lib.hid hD
    clear h hL hD
    unfold lvtup fval at CL
    have hmk := run_make_row' (P := Try.prog) 28 4 (.bool false) 1 Try.underlying28 info_bool rfl .i64 .i64 W.length (by omega) (by omega)
    go_enter Try.func10, Try.ntmps10
    go_wp2_with fail
    refine CL.out.mono ?_
    rintro e w1 ⟨rfl, hb⟩
    have HB := Lib.hid hb
    have HW1 := Lib.hid (HW.out.later hb)
    have HF0 := Lib.hid (fb_new w1 N D)
    obtain ⟨w2, hw2⟩ : ∃ w2, w1.alloc (.cells #[.int .i64 N, .int .i64 D] 24) = w2 := ⟨_, rfl⟩
    have hs2 : w2.heap.size = w1.heap.size + 1 := by rw [← hw2]; simp
    have hbz : Below w1.heap.size w1 w2 := by rw [← hw2]; exact (Below.refl _ _).alloc (Nat.le_refl _) _
    have hb3 : Below w2.heap.size w2 (w2.alloc (.cells (madeCells #[.bool false] W.length) 4)) := (Below.refl _ _).alloc (Nat.le_refl _) _
    have HZ : Hid (Bs 4 (w2.alloc (.cells (madeCells #[.bool false] W.length) 4)) (w1.heap.size + 1) (bvs (hvT N D W 0))) := by
      show Bs _ _ _ _
      rw [hvT_zero, ← hs2]; exact bs_falses w2 W.length
    have HF : Hid (FB (w2.alloc (.cells (madeCells #[.bool false] W.length) 4)) w1.heap.size N D) := by
      have := HF0.out
      rw [hw2] at this
      exact this.below hb3 (by omega)
    have HB3 : Hid (Below w1.heap.size w1 (w2.alloc (.cells (madeCells #[.bool false] W.length) 4))) := hbz.trans (hb3.mono (by omega))
    rw [← hw2] at HZ HF HB3
    clear CL hb HW hbz hb3 hs2 hw2 HF0
    go_wp2_with fail
    clear hmk
    go_loopw [25] (fun iv wr => ∃ k : Nat, k ≤ W.length ∧ iv = .int .i64 k ∧ Bs 4 wr (w1.heap.size + 1) (bvs (hvT N D W k)) ∧ FB wr w1.heap.size N D ∧ Below w1.heap.size w1 wr) (fun iv _ => W.length - (intOf iv).toNat)
    case atStart => exact ⟨0, by omega, rfl, HZ.out, HF.out, HB3.out⟩
    case round =>
      clear HZ HF HB3
      obtain ⟨k, hk, rfl, hZ, hF, hB⟩ := hrel
      have HZ := Lib.hid hZ
      have HF := Lib.hid hF
      have HB1 := Lib.hid hB
      have c0 := hF.c0
      have c1 := hF.c1
      clear hZ hF hB
      by_cases hlt : k < W.length
      · obtain ⟨b, off, rfl, _, hcell⟩ := (HW1.out.later HB1.out).il.at (by omega)
        have hci := hcell k hlt
        have hx := HD.out.at hlt
        have cz := HZ.out.cell (j := k) (by rw [bvs_len, hvT_len]; exact hlt)
        rw [bvs_at (by rw [hvT_len]; exact hlt)] at cz
        have fz := HZ.out.frozen k
        have HZ2 := Lib.hid (HZ.out.setB k (hvF N D (W.getD k 0)))
        rw [hvT_step hlt] at HZ2
        have HF2 := Lib.hid (HF.out.other (c := ⟨w1.heap.size + 1, k, none⟩) (by simp) (.bool (hvF N D (W.getD k 0))))
        have HB2 := Lib.hid (HB1.out.setCell (p := ⟨w1.heap.size + 1, k, none⟩) (by simp) (.bool (hvF N D (W.getD k 0))))
        obtain ⟨y, hy⟩ : ∃ y, W.getD k 0 * D = y := ⟨_, rfl⟩
        have hyb := mulD (N := N) hx.1 hx.2 hD0 hD1
        rw [hy] at hyb
        obtain ⟨q, hq⟩ : ∃ q, decide (N ≤ y) = q := ⟨_, rfl⟩
        have hq2 : hvF N D (W.getD k 0) = q := by unfold hvF; rw [hy]; exact hq
        rw [hq2] at HZ2 HF2 HB2
        have hki : (k : Int) < (W.length : Int) := by omega
        clear hcell HZ HF HB1 hq2
        generalize (hvT N D W k).getD k false = z at *
        generalize W.getD k 0 = x at *
        go_wp2
        go_roundw
        case rel => exact ⟨k + 1, by omega, by go_num, HZ2.out, HF2.out, HB2.out⟩
        case measure => simp [intOf]; omega
      · obtain rfl : k = W.length := by omega
        have hF := HZ.out
        rw [hvT_all] at hF
        have HT : Hid (TP wr (some ⟨w1.heap.size + 1, 0, none⟩) W.length (hvL N D W)) := ⟨hF.vs, by rw [hvL_len]; exact Nat.le_refl _, by omega, by rw [hvL_len]; omega, fun h => by cases h⟩
        have HBE := Lib.hid (HB.out.trans (HB1.out.mono HB.out.size))
        clear hF HZ
        go_wp2
        go_ret2
        exact ⟨some ⟨w1.heap.size + 1, 0, none⟩, W.length, by rw [hvL_len]; rfl, HT.out, HBE.out⟩
end Go.Proofs.Ytkcgcojhgcfgmaa
