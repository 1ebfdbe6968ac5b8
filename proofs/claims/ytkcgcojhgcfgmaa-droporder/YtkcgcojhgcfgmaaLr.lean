/- lotdrawerkeep.DropOrder: the walk. -/
import Derived.Test.YtkcgcojhgcfgmaaL8
import Derived.Test.YtkcgcojhgcfgmaaLt
import Derived.Test.YtkcgcojhgcfgmaaRv
import Derived.Test.YtkcgcojhgcfgmaaCk
namespace Go.Proofs.Ytkcgcojhgcfgmaa
open Go.RowKit Go.Deep

set_option maxRecDepth 100000 in
set_option maxHeartbeats 4000000 in
theorem dropOrder_walk (A : Option Addr) (ca : Nat) (W : List Int) (m : Int) (w : World) (hW : IP w A ca W) (hlen : W.length < 17592186044416) :
    Calls Try.prog 8 #[.slice A W.length ca, .int .i64 m] w fun e w' => e = .returned (.bool true) ∧ Below w.heap.size w w' := by
  have CA := Lib.hid (alive11_any w)
  have hle := hW.le
  have hcap := hW.cap
  have HW := Lib.hid hW
  have HLN := Lib.hid hlen
  clear hW hlen
  rcases Classical.em (WD W m) with hD | hD
  case inr =>
    have hc := levC_no hD
    have hc2 : levC W.reverse m = ((0, 0), 2) := by rw [levC_perm (List.reverse_perm W), hc]
    obtain ⟨q, hq⟩ : ∃ q, wrap64 (m + 1) = q := ⟨_, rfl⟩
    obtain ⟨N3, D3, g3, hc3⟩ : ∃ N3 D3 g3, levC W q = ((N3, D3), g3) := ⟨_, _, _, rfl⟩
    clear hD
    go_enter Try.func8, Try.ntmps8
    go_wp2_with fail
    refine CA.out.mono ?_
    rintro e w1 ⟨rfl, hb1⟩
    have HB1 := Lib.hid hb1
    have HW1 := Lib.hid (HW.out.later hb1)
    have CC := Lib.hid (clone_any A ca W w1 HW1.out (by have := HLN.out; omega))
    clear CA hb1 HW
    go_wp2_with fail
    refine CC.out.mono ?_
    rintro e w2 ⟨v, rfl, hO, hb2⟩
    obtain ⟨R, cr, rfl, _⟩ := hO.ip
    have CR := Lib.hid (reverseO_any w1.heap.size W.length R cr W (by have := HLN.out; omega) w2 rfl hO hb2.size)
    have HB2 := Lib.hid hb2
    clear CC hO hb2
    go_wp2_with fail
    refine CR.out.mono ?_
    rintro e w3 ⟨rfl, hO3, hb3⟩
    have hb23 := HB2.out.trans hb3
    have HB3 := Lib.hid (HB1.out.trans (hb23.mono HB1.out.size))
    have HW3 := Lib.hid (HW1.out.later hb23)
    have HR3 := Lib.hid (hO3.ipv List.length_reverse)
    have C1 := Lib.hid (level_any A ca W m w3 HW3.out)
    rw [hc] at C1
    unfold lvtup fval at C1
    clear CR hO3 hb3 hb23 HB2 HB1 HW1
    go_wp2_with fail
    refine C1.out.mono ?_
    rintro e w4 ⟨rfl, hb4⟩
    have hb5 := hb4.alloc hb4.size (.cells #[.int .i64 0, .int .i64 0] 24)
    have HB5 := Lib.hid (HB3.out.trans (hb5.mono HB3.out.size))
    have HW5 := Lib.hid (HW3.out.later hb5)
    have HR5 := Lib.hid (HR3.out.later hb5)
    have HF5 := Lib.hid (fb_new w4 0 0)
    have C2 := Lib.hid (level_any R cr W.reverse m _ HR5.out)
    rw [hc2, List.length_reverse] at C2
    unfold lvtup fval at C2
    clear C1 hb4 hb5 HB3 HW3 HR3
    go_wp2_with fail
    refine C2.out.mono ?_
    rintro e w6 ⟨rfl, hb6⟩
    have hb7 := hb6.alloc hb6.size (.cells #[.int .i64 0, .int .i64 0] 24)
    have HB7 := Lib.hid (HB5.out.trans (hb7.mono HB5.out.size))
    have HW7 := Lib.hid (HW5.out.later hb7)
    have HF7 : Hid (FB (w6.alloc (.cells #[.int .i64 0, .int .i64 0] 24)) w4.heap.size 0 0) := HF5.out.below hb7 HF5.out.lt
    have HG7 := Lib.hid (fb_new w6 0 0)
    have C3 := Lib.hid (level_any A ca W q _ HW7.out)
    rw [hc3] at C3
    unfold lvtup fval at C3
    clear C2 hb6 hb7 HB5 HW5 HR5 HF5
    go_wp2_with fail
    refine C3.out.mono ?_
    rintro e w8 ⟨rfl, hb8⟩
    have hb9 := hb8.alloc hb8.size (.cells #[.int .i64 N3, .int .i64 D3] 24)
    have HB9 := Lib.hid (HB7.out.trans (hb9.mono HB7.out.size))
    have hF9 : FB (w8.alloc (.cells #[.int .i64 N3, .int .i64 D3] 24)) w4.heap.size 0 0 := HF7.out.below hb9 HF7.out.lt
    have hG9 : FB (w8.alloc (.cells #[.int .i64 N3, .int .i64 D3] 24)) w6.heap.size 0 0 := HG7.out.below hb9 HG7.out.lt
    have hH9 := fb_new w8 N3 D3
    have f0 := hF9.c0
    have f1 := hF9.c1
    have g0 := hG9.c0
    have g1 := hG9.c1
    have h0 := hH9.c0
    have h1 := hH9.c1
    clear C3 hb8 hb9 HB7 HW7 HF7 HG7 hF9 hG9 hH9
    clear f0 f1 g0 g1 h0 h1
    go_wp2
    go_ret
    exact ⟨rfl, HB9.out⟩
  case inl =>
    have hm1 := hD.2.1
    have hm4 := hD.2.2.1
    rcases lev_next hD with hc3 | hc3 | ⟨N, D, N3, D3, hc, hc3, hle3, hN, hN3, hD1, hD3⟩
    case inr.inr =>
      have hc2 : levC W.reverse m = ((N, D), 0) := by rw [levC_perm (List.reverse_perm W), hc]
      have t1 : (N == N) = true := beq_self_eq_true _
      have t2 : (D == D) = true := beq_self_eq_true _
      obtain ⟨y, hy⟩ : ∃ y, N3 * D = y := ⟨_, rfl⟩
      obtain ⟨z, hz⟩ : ∃ z, N * D3 = z := ⟨_, rfl⟩
      have hy1 : 0 ≤ y := by rw [← hy]; exact Int.mul_nonneg hN3.1 (by omega)
      have hy2 : y ≤ 419430400 * 400 := by rw [← hy]; exact Int.mul_le_mul hN3.2 hD1.2 (by omega) (by omega)
      have hz1 : 0 ≤ z := by rw [← hz]; exact Int.mul_nonneg hN.1 (by omega)
      have hz2 : z ≤ 419430400 * 400 := by rw [← hz]; exact Int.mul_le_mul hN.2 hD3.2 (by omega) (by omega)
      rw [hy, hz] at hle3
      have t3 : decide (y ≤ z) = true := decide_eq_true hle3
      have t4 : (D3 == 0) = false := by rw [beq_eq_false_iff_ne]; omega
      clear hD hle3
      go_enter Try.func8, Try.ntmps8
      go_wp2_with fail
      refine CA.out.mono ?_
      rintro e w1 ⟨rfl, hb1⟩
      have HB1 := Lib.hid hb1
      have HW1 := Lib.hid (HW.out.later hb1)
      have CC := Lib.hid (clone_any A ca W w1 HW1.out (by have := HLN.out; omega))
      clear CA hb1 HW
      go_wp2_with fail
      refine CC.out.mono ?_
      rintro e w2 ⟨v, rfl, hO, hb2⟩
      obtain ⟨R, cr, rfl, _⟩ := hO.ip
      have CR := Lib.hid (reverseO_any w1.heap.size W.length R cr W (by have := HLN.out; omega) w2 rfl hO hb2.size)
      have HB2 := Lib.hid hb2
      clear CC hO hb2
      go_wp2_with fail
      refine CR.out.mono ?_
      rintro e w3 ⟨rfl, hO3, hb3⟩
      have hb23 := HB2.out.trans hb3
      have HB3 := Lib.hid (HB1.out.trans (hb23.mono HB1.out.size))
      have HW3 := Lib.hid (HW1.out.later hb23)
      have HR3 := Lib.hid (hO3.ipv List.length_reverse)
      have C1 := Lib.hid (level_any A ca W m w3 HW3.out)
      rw [hc] at C1
      unfold lvtup fval at C1
      clear CR hO3 hb3 hb23 HB2 HB1 HW1
      go_wp2_with fail
      refine C1.out.mono ?_
      rintro e w4 ⟨rfl, hb4⟩
      have hb5 := hb4.alloc hb4.size (.cells #[.int .i64 N, .int .i64 D] 24)
      have HB5 := Lib.hid (HB3.out.trans (hb5.mono HB3.out.size))
      have HW5 := Lib.hid (HW3.out.later hb5)
      have HR5 := Lib.hid (HR3.out.later hb5)
      have HF5 := Lib.hid (fb_new w4 N D)
      obtain ⟨w5, hw5⟩ : ∃ w5, w4.alloc (.cells #[.int .i64 N, .int .i64 D] 24) = w5 := ⟨_, rfl⟩
      rw [hw5] at HB5 HW5 HR5 HF5
      have C2 := Lib.hid (level_any R cr W.reverse m w5 HR5.out)
      rw [hc2, List.length_reverse] at C2
      unfold lvtup fval at C2
      clear C1 hb4 hb5 HB3 HW3 HR3
      go_wp2_with fail
      refine C2.out.mono ?_
      rintro e w6 ⟨rfl, hb6⟩
      have hb7 := hb6.alloc hb6.size (.cells #[.int .i64 N, .int .i64 D] 24)
      have HB7 := Lib.hid (HB5.out.trans (hb7.mono HB5.out.size))
      have HW7 := Lib.hid (HW5.out.later hb7)
      have HF7 : Hid (FB (w6.alloc (.cells #[.int .i64 N, .int .i64 D] 24)) w4.heap.size N D) := HF5.out.below hb7 HF5.out.lt
      have HG7 := Lib.hid (fb_new w6 N D)
      obtain ⟨w7, hw7⟩ : ∃ w7, w6.alloc (.cells #[.int .i64 N, .int .i64 D] 24) = w7 := ⟨_, rfl⟩
      rw [hw7] at HB7 HW7 HF7 HG7
      have C3 := Lib.hid (level_any A ca W (m + 1) w7 HW7.out)
      rw [hc3] at C3
      unfold lvtup fval at C3
      clear C2 hb6 hb7 HB5 HW5 HR5 HF5 hw5
      go_wp2_with fail
      refine C3.out.mono ?_
      rintro e w8 ⟨rfl, hb8⟩
      have hb9 := hb8.alloc hb8.size (.cells #[.int .i64 N3, .int .i64 D3] 24)
      have HB9 := Lib.hid (HB7.out.trans (hb9.mono HB7.out.size))
      have hF9 : FB (w8.alloc (.cells #[.int .i64 N3, .int .i64 D3] 24)) w4.heap.size N D := HF7.out.below hb9 HF7.out.lt
      have hG9 : FB (w8.alloc (.cells #[.int .i64 N3, .int .i64 D3] 24)) w6.heap.size N D := HG7.out.below hb9 HG7.out.lt
      have hH9 := fb_new w8 N3 D3
      obtain ⟨w9, hw9⟩ : ∃ w9, w8.alloc (.cells #[.int .i64 N3, .int .i64 D3] 24) = w9 := ⟨_, rfl⟩
      rw [hw9] at HB9 hF9 hG9 hH9
      have f0 := hF9.c0
      have f1 := hF9.c1
      have g0 := hG9.c0
      have g1 := hG9.c1
      have h0 := hH9.c0
      have h1 := hH9.c1
      clear C3 hb8 hb9 HB7 HW7 HF7 HG7 hw7 hF9 hG9 hH9
      go_wp2
      go_ret
      exact ⟨rfl, HB9.out⟩
    all_goals
      obtain ⟨N, D, hc⟩ : ∃ N D, levC W m = ((N, D), 0) := by
        rcases levC_cases W m with ⟨_, h⟩ | ⟨N, D, h, _⟩
        · exact absurd hD h
        · exact ⟨N, D, h⟩
      have hc2 : levC W.reverse m = ((N, D), 0) := by rw [levC_perm (List.reverse_perm W), hc]
      have t1 : (N == N) = true := beq_self_eq_true _
      have t2 : (D == D) = true := beq_self_eq_true _
      clear hD
      go_enter Try.func8, Try.ntmps8
      go_wp2_with fail
      refine CA.out.mono ?_
      rintro e w1 ⟨rfl, hb1⟩
      have HB1 := Lib.hid hb1
      have HW1 := Lib.hid (HW.out.later hb1)
      have CC := Lib.hid (clone_any A ca W w1 HW1.out (by have := HLN.out; omega))
      clear CA hb1 HW
      go_wp2_with fail
      refine CC.out.mono ?_
      rintro e w2 ⟨v, rfl, hO, hb2⟩
      obtain ⟨R, cr, rfl, _⟩ := hO.ip
      have CR := Lib.hid (reverseO_any w1.heap.size W.length R cr W (by have := HLN.out; omega) w2 rfl hO hb2.size)
      have HB2 := Lib.hid hb2
      clear CC hO hb2
      go_wp2_with fail
      refine CR.out.mono ?_
      rintro e w3 ⟨rfl, hO3, hb3⟩
      have hb23 := HB2.out.trans hb3
      have HB3 := Lib.hid (HB1.out.trans (hb23.mono HB1.out.size))
      have HW3 := Lib.hid (HW1.out.later hb23)
      have HR3 := Lib.hid (hO3.ipv List.length_reverse)
      have C1 := Lib.hid (level_any A ca W m w3 HW3.out)
      rw [hc] at C1
      unfold lvtup fval at C1
      clear CR hO3 hb3 hb23 HB2 HB1 HW1
      go_wp2_with fail
      refine C1.out.mono ?_
      rintro e w4 ⟨rfl, hb4⟩
      have hb5 := hb4.alloc hb4.size (.cells #[.int .i64 N, .int .i64 D] 24)
      have HB5 := Lib.hid (HB3.out.trans (hb5.mono HB3.out.size))
      have HW5 := Lib.hid (HW3.out.later hb5)
      have HR5 := Lib.hid (HR3.out.later hb5)
      have HF5 := Lib.hid (fb_new w4 N D)
      obtain ⟨w5, hw5⟩ : ∃ w5, w4.alloc (.cells #[.int .i64 N, .int .i64 D] 24) = w5 := ⟨_, rfl⟩
      rw [hw5] at HB5 HW5 HR5 HF5
      have C2 := Lib.hid (level_any R cr W.reverse m w5 HR5.out)
      rw [hc2, List.length_reverse] at C2
      unfold lvtup fval at C2
      clear C1 hb4 hb5 HB3 HW3 HR3
      go_wp2_with fail
      refine C2.out.mono ?_
      rintro e w6 ⟨rfl, hb6⟩
      have hb7 := hb6.alloc hb6.size (.cells #[.int .i64 N, .int .i64 D] 24)
      have HB7 := Lib.hid (HB5.out.trans (hb7.mono HB5.out.size))
      have HW7 := Lib.hid (HW5.out.later hb7)
      have HF7 : Hid (FB (w6.alloc (.cells #[.int .i64 N, .int .i64 D] 24)) w4.heap.size N D) := HF5.out.below hb7 HF5.out.lt
      have HG7 := Lib.hid (fb_new w6 N D)
      obtain ⟨w7, hw7⟩ : ∃ w7, w6.alloc (.cells #[.int .i64 N, .int .i64 D] 24) = w7 := ⟨_, rfl⟩
      rw [hw7] at HB7 HW7 HF7 HG7
      have C3 := Lib.hid (level_any A ca W (m + 1) w7 HW7.out)
      rw [hc3] at C3
      unfold lvtup fval at C3
      clear C2 hb6 hb7 HB5 HW5 HR5 HF5 hw5
      go_wp2_with fail
      refine C3.out.mono ?_
      rintro e w8 ⟨rfl, hb8⟩
      have hb9 := hb8.alloc hb8.size (.cells #[.int .i64 0, .int .i64 0] 24)
      have HB9 := Lib.hid (HB7.out.trans (hb9.mono HB7.out.size))
      have hF9 : FB (w8.alloc (.cells #[.int .i64 0, .int .i64 0] 24)) w4.heap.size N D := HF7.out.below hb9 HF7.out.lt
      have hG9 : FB (w8.alloc (.cells #[.int .i64 0, .int .i64 0] 24)) w6.heap.size N D := HG7.out.below hb9 HG7.out.lt
      have hH9 := fb_new w8 0 0
      have f0 := hF9.c0
      have f1 := hF9.c1
      have g0 := hG9.c0
      have g1 := hG9.c1
      have h0 := hH9.c0
      have h1 := hH9.c1
      clear C3 hb8 hb9 HB7 HW7 HF7 HG7 hw7 hF9 hG9 hH9
      go_wp2
      go_ret
      exact ⟨rfl, HB9.out⟩
end Go.Proofs.Ytkcgcojhgcfgmaa
