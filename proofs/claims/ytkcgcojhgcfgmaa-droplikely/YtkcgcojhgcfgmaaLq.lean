/- lotdrawerkeep.DropLikely: the walk. -/
import Derived.Test.YtkcgcojhgcfgmaaL8
import Derived.Test.YtkcgcojhgcfgmaaLk
namespace Go.Proofs.Ytkcgcojhgcfgmaa
open Go.RowKit Go.Deep

set_option maxRecDepth 100000 in
set_option maxHeartbeats 4000000 in
theorem dropLikely_walk (A : Option Addr) (ca : Nat) (W : List Int) (m : Int) (w : World) (hW : IP w A ca W) :
    Calls Try.prog 5 #[.slice A W.length ca, .int .i64 m] w fun e w' => e = .returned (.bool true) ∧ Below w.heap.size w w' := by
  have CA := Lib.hid (alive11_any w)
  have hle := hW.le
  have hcap := hW.cap
  have HW := Lib.hid hW
  clear hW
  rcases levC_three W m with ⟨hc, hD⟩ | ⟨hc, hD, hL, hl⟩ | ⟨N, D, hc, hD, hL, hl⟩
  · go_enter Try.func5, Try.ntmps5
    go_wp2_with fail
    refine CA.out.mono ?_
    rintro e w1 ⟨rfl, hb1⟩
    have HB1 := Lib.hid hb1
    have HW1 := Lib.hid (HW.out.later hb1)
    have C1 := Lib.hid (level_any A ca W m w1 HW1.out)
    rw [hc] at C1
    unfold lvtup fval at C1
    clear CA hb1 HW hc
    go_wp2_with fail
    refine C1.out.mono ?_
    rintro e w2 ⟨rfl, hb2⟩
    have hb3 : Below w2.heap.size w2 (w2.alloc (.cells #[.int .i64 0, .int .i64 0] 24)) := (Below.refl _ _).alloc (Nat.le_refl _) _
    have hb4 := hb2.trans (hb3.mono hb2.size)
    have HB4 := Lib.hid (HB1.out.trans (hb4.mono HB1.out.size))
    have C2 := Lib.hid (heavy_any A ca W m _ (HW1.out.later hb4))
    rw [hvC_no hD] at C2
    clear hb2 hb3 hb4 C1 HB1 HW1 hD
    go_wp2_with fail
    refine C2.out.mono ?_
    rintro e w3 ⟨R, cr, rfl, hT, hb⟩
    have HB5 := Lib.hid (HB4.out.trans (hb.mono HB4.out.size))
    clear hT hb C2 HB4
    go_wp2
    go_ret
    exact ⟨rfl, HB5.out⟩
  · have t1 : decide ((W.length : Int) ≤ m) = true := decide_eq_true hl
    go_enter Try.func5, Try.ntmps5
    go_wp2_with fail
    refine CA.out.mono ?_
    rintro e w1 ⟨rfl, hb1⟩
    have HB1 := Lib.hid hb1
    have HW1 := Lib.hid (HW.out.later hb1)
    have C1 := Lib.hid (level_any A ca W m w1 HW1.out)
    rw [hc] at C1
    unfold lvtup fval at C1
    clear CA hb1 HW hc
    go_wp2_with fail
    refine C1.out.mono ?_
    rintro e w2 ⟨rfl, hb2⟩
    have hb3 : Below w2.heap.size w2 (w2.alloc (.cells #[.int .i64 0, .int .i64 0] 24)) := (Below.refl _ _).alloc (Nat.le_refl _) _
    have hb4 := hb2.trans (hb3.mono hb2.size)
    have HB4 := Lib.hid (HB1.out.trans (hb4.mono HB1.out.size))
    have HF4 := Lib.hid (fb_new w2 0 0)
    have C2 := Lib.hid (heavy_any A ca W m _ (HW1.out.later hb4))
    rw [hvC_ok hD hL] at C2
    clear hb2 hb3 hb4 C1 HB1 HW1 hD hL hl
    go_wp2_with fail
    refine C2.out.mono ?_
    rintro e w3 ⟨R, cr, rfl, hT, hb⟩
    have HB5 := Lib.hid (HB4.out.trans (hb.mono HB4.out.size))
    have hF5 : FB w3 w2.heap.size 0 0 := HF4.out.below hb HF4.out.lt
    have c1 := hF5.c1
    have tt : ((W.length : Int) == (W.length : Int)) = true := beq_self_eq_true _
    dsimp only
    rw [hvL_len]
    clear hT hb C2 HB4 hF5 HF4
    go_wp2
    go_ret
    exact ⟨rfl, HB5.out⟩
  · have h4 := hD.1
    have hm1 := hD.2.1
    have hm4 := hD.2.2.1
    have n1 := hL.n1
    have n2 := hL.n2
    have d1 := hL.d1
    have d4 := hL.bounds hD
    have HX : Hid (∀ x ∈ W, 1 ≤ x ∧ x ≤ 1048576) := hD.2.2.2
    have HS := Lib.hid hL.g
    go_enter Try.func5, Try.ntmps5
    go_wp2_with fail
    refine CA.out.mono ?_
    rintro e w1 ⟨rfl, hb1⟩
    have HB1 := Lib.hid hb1
    have HW1 := Lib.hid (HW.out.later hb1)
    have C1 := Lib.hid (level_any A ca W m w1 HW1.out)
    rw [hc] at C1
    unfold lvtup fval at C1
    clear CA hb1 HW hc
    go_wp2_with fail
    refine C1.out.mono ?_
    rintro e w2 ⟨rfl, hb2⟩
    have hb3 : Below w2.heap.size w2 (w2.alloc (.cells #[.int .i64 N, .int .i64 D] 24)) := (Below.refl _ _).alloc (Nat.le_refl _) _
    have hb4 := hb2.trans (hb3.mono hb2.size)
    have HB4 := Lib.hid (HB1.out.trans (hb4.mono HB1.out.size))
    have HF4 := Lib.hid (fb_new w2 N D)
    have HW4 := Lib.hid (HW1.out.later hb4)
    have C2 := Lib.hid (heavy_any A ca W m _ HW4.out)
    rw [hvC_ok hD hL.e] at C2
    clear hb2 hb3 hb4 C1 HB1 HW1 hD hL hl
    go_wp2_with fail
    refine C2.out.mono ?_
    rintro e w3 ⟨R, cr, rfl, hT, hb⟩
    have HB5 := Lib.hid (HB4.out.trans (hb.mono HB4.out.size))
    have HT := Lib.hid hT
    have HW5 := Lib.hid (HW4.out.later hb)
    have hF5 : FB w3 w2.heap.size N D := HF4.out.below hb HF4.out.lt
    have c0 := hF5.c0
    have c1 := hF5.c1
    have tt : ((W.length : Int) != (W.length : Int)) = false := neq_no rfl
    have t0 : (D == 0) = false := by rw [beq_eq_false_iff_ne]; omega
    dsimp only
    rw [hvL_len]
    clear hT hb C2 HB4 HW4 hF5 HF4
    go_wp2_with fail
    clear tt t0
    go_loop [9, 59] (fun sv kv => ∃ k : Nat, k ≤ W.length ∧ kv = .int .i64 k ∧ sv = .int .i64 (pre (W.map (gF N D)) k)) (fun _ kv => W.length - (intOf kv).toNat)
    case atStart => exact ⟨0, by omega, rfl, by rw [pre_zero]⟩
    case round =>
      obtain ⟨k, hk, rfl, rfl⟩ := hrel
      have p1 := pre_map_bound (f := gF N D) (W := W) (C := 419430400) (fun x hx => gF_bound (HX.out x hx) (by omega) d4 (by omega)) hk
      by_cases hlt : k < W.length
      · obtain ⟨b, off, rfl, _, hcell⟩ := HW5.out.il.at (by omega)
        have hci := hcell k hlt
        obtain ⟨b2, off2, rfl, _, hcell2⟩ := HT.out.tp.at (by rw [hvL_len]; omega)
        have hcj := hcell2 k (by rw [hvL_len]; exact hlt)
        rw [hvL_at hlt] at hcj
        have hx := HX.out _ (memV hlt)
        have hy := wF_bound hx (by omega : 0 ≤ D) d4
        have E1 := Lib.hid (pre_map (f := gF N D) hlt)
        unfold wF at hy
        obtain ⟨y, hyy⟩ : ∃ y, W.getD k 0 * D = y := ⟨_, rfl⟩
        rw [hyy] at hy
        have hkk : (k : Int) < (W.length : Int) := by omega
        cases hv : hvF N D (W.getD k 0)
        · rw [gF_no hv, hyy] at E1
          rw [hv] at hcj
          clear hcell hcell2 hv
          generalize W.getD k 0 = x at *
          generalize pre (W.map (gF N D)) k = s1 at *
          go_wp2
          go_round
          case rel => exact ⟨k + 1, by omega, by go_num, by rw [E1.out]⟩
          case measure => simp [intOf]; omega
        · rw [gF_yes hv] at E1
          rw [hv] at hcj
          clear hcell hcell2 hv
          generalize W.getD k 0 = x at *
          generalize pre (W.map (gF N D)) k = s1 at *
          go_wp2
          go_round
          case rel => exact ⟨k + 1, by omega, by go_num, by rw [E1.out]⟩
          case measure => simp [intOf]; omega
      · obtain rfl : k = W.length := by omega
        rw [pre_map_all] at p1
        rw [pre_map_all]
        have q2 := HS.out
        generalize sumW (W.map (gF N D)) = s1 at *
        have hy1 : 0 ≤ m * N := Int.mul_nonneg (by omega) (by omega)
        have hy2 : m * N ≤ 400 * 419430400 := Int.mul_le_mul (by omega) n2 (by omega) (by omega)
        obtain ⟨y, hy⟩ : ∃ y, m * N = y := ⟨_, rfl⟩
        rw [hy] at q2 hy1 hy2
        have t2 : (s1 == y) = true := by rw [beq_iff_eq]; exact q2
        clear q2
        go_wp2
        go_ret
        exact ⟨rfl, HB5.out⟩
end Go.Proofs.Ytkcgcojhgcfgmaa
