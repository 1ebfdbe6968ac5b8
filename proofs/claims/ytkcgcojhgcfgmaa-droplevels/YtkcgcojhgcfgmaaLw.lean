/- lotdrawerlaw.DropLevels: the walk. -/
import Derived.Test.YtkcgcojhgcfgmaaL2
import Derived.Test.YtkcgcojhgcfgmaaL5
import Derived.Test.YtkcgcojhgcfgmaaL6
import Derived.Test.YtkcgcojhgcfgmaaL7
import Derived.Test.YtkcgcojhgcfgmaaL8
import Derived.Test.YtkcgcojhgcfgmaaLu
import Derived.Test.YtkcgcojhgcfgmaaOb
namespace Go.Proofs.Ytkcgcojhgcfgmaa
open Go.RowKit Go.Deep

set_option maxRecDepth 100000 in
set_option maxHeartbeats 4000000 in
theorem dropLevels_bad (A : Option Addr) (ca : Nat) (W : List Int) (m n : Int) (w : World) (hW : IP w A ca W) (hn : n ≤ 9223372036854775807) (hD : ¬ WD W m) :
    Calls Try.prog 3 #[.slice A W.length ca, .int .i64 m, .int .i64 n] w fun e w' => e = .returned (.bool true) ∧ Below w.heap.size w w' := by
  have CL := Lib.hid (level_any A ca W m w hW)
  have hle := hW.le
  have hcap := hW.cap
  have HW := Lib.hid hW
  rw [levC_no hD] at CL
  unfold lvtup fval at CL
  have hhv := hvC_no hD
  have hwd := wdE_no hD
  obtain ⟨ki, g, ho⟩ : ∃ ki g, oneC W n = (ki, g) := ⟨_, _, rfl⟩
  clear hW hD
  go_enter Try.func3, Try.ntmps3
  go_wp2_with fail
  refine CL.out.mono ?_
  rintro e w1 ⟨rfl, hb1⟩
  have hb2 := hb1.alloc hb1.size (.cells #[.int .i64 0, .int .i64 0] 24)
  have HB2 := Lib.hid hb2
  have HW2 := Lib.hid (HW.out.later hb2)
  have HF2 := Lib.hid (fb_new w1 0 0)
  have CH := Lib.hid (heavy_any A ca W m _ HW2.out)
  rw [hhv] at CH
  clear CL hb1 hb2 HW
  go_wp2_with fail
  refine CH.out.mono ?_
  rintro e w3 ⟨R, cr, rfl, hT, hb3⟩
  have HB3 := Lib.hid (HB2.out.trans (hb3.mono HB2.out.size))
  have HW3 := Lib.hid (HW2.out.later hb3)
  have HF3 : Hid (FB w3 w1.heap.size 0 0) := HF2.out.below hb3 HF2.out.lt
  have HT3 := Lib.hid hT
  have CO := Lib.hid (one_any A ca W n w3 HW3.out hn)
  rw [ho] at CO
  unfold ptup at CO
  clear CH hb3 HB2 HW2 HF2 hT
  go_wp2_with fail
  refine CO.out.mono ?_
  rintro e w4 ⟨rfl, hb4⟩
  have HB4 := Lib.hid (HB3.out.trans (hb4.mono HB3.out.size))
  have HW4 := Lib.hid (HW3.out.later hb4)
  have HF4 : Hid (FB w4 w1.heap.size 0 0) := HF3.out.below hb4 HF3.out.lt
  have HT4 := Lib.hid (HT3.out.laterB hb4)
  have CK := Lib.hid (kwrong_any A ca W m w4 HW4.out)
  have CW := Lib.hid (dwrong_any A ca W m w4 HW4.out)
  rw [hwd] at CK CW
  clear CO hb4 HB3 HW3 HF3 HT3
  go_wp2_with fail
  refine CK.out.mono ?_
  rintro e w5 ⟨rfl, rfl⟩
  clear CK
  have f0 := HF4.out.c0
  have f1 := HF4.out.c1
  go_wp2_with fail
  refine CW.out.mono ?_
  rintro e w5 ⟨rfl, rfl⟩
  clear CW
  have HE := Lib.hid ho
  clear ho
  rcases levC_three W ((W.length : Int) - 1) with ⟨h1, hD2⟩ | ⟨_, _, _, hl2⟩ | ⟨N2, D2, h1, hD2, hL2, hl2⟩
  · have CZ := Lib.hid (kwrong_any A ca W ((W.length : Int) - 1) w4 HW4.out)
    rw [wdE_no hD2] at CZ
    have he := HE.out
    rw [oneC_no hD2] at he
    injection he with he1 he2
    have u1 : (g == 2) = true := by rw [beq_iff_eq]; omega
    have u2 : (ki == 0) = true := by rw [beq_iff_eq]; omega
    clear hD2 h1 he1 he2
    go_wp2_with fail
    refine CZ.out.mono ?_
    rintro e w9 ⟨rfl, rfl⟩
    clear CZ
    go_wp2
    go_ret
    exact ⟨rfl, HB4.out⟩
  · exact absurd hl2 (by omega)
  · have CZ := Lib.hid (kwrong_any A ca W ((W.length : Int) - 1) w4 HW4.out)
    rw [wdE_ok hD2] at CZ
    have CV := Lib.hid (klevel_any A ca W ((W.length : Int) - 1) w4 HW4.out hD2)
    rw [hL2.e] at CV
    unfold fval at CV
    have HSO := Lib.hid (oneC_ok (n := n) hD2 hL2.e)
    have p1 := hL2.n1
    have p2 := hL2.n2
    have p3 := hL2.d1
    have p4 := hL2.bounds hD2
    have HSF := Lib.hid (sgL_wf hD2 (by omega : 0 ≤ N2) p2 (by omega : 0 ≤ D2) p4)
    have HX2 : Hid (∀ x ∈ W, 1 ≤ x ∧ x ≤ 1048576) := hD2.2.2.2
    have h42 := hD2.1
    clear hD2 h1 hL2 hl2
    go_wp2_with fail
    refine CZ.out.mono ?_
    rintro e w9 ⟨rfl, rfl⟩
    clear CZ
    go_wp2_with fail
    refine CV.out.mono ?_
    rintro e w10 ⟨rfl, hb10⟩
    have hb11 := hb10.alloc hb10.size (.cells #[.int .i64 N2, .int .i64 D2] 24)
    have HB11 := Lib.hid (HB4.out.trans (hb11.mono HB4.out.size))
    have HW11 := Lib.hid (HW4.out.later hb11)
    have hF11 := fb_new w10 N2 D2
    obtain ⟨w11, hw11⟩ : ∃ w11, w10.alloc (.cells #[.int .i64 N2, .int .i64 D2] 24) = w11 := ⟨_, rfl⟩
    rw [hw11] at HB11 HW11 hF11
    have j0 := hF11.c0
    have j1 := hF11.c1
    clear CV hb10 hb11 hF11
    go_wp2_with fail
    go_loop [21, 120] (fun ev kv => ∃ k : Nat, k ≤ W.length ∧ kv = .int .i64 k ∧ ev = .int .i64 (pre (sgL N2 D2 W) k) ∧ NoOwn (sgL N2 D2 W) n k) (fun _ kv => W.length - (intOf kv).toNat)
    case atStart => exact ⟨0, by omega, rfl, by rw [pre_zero], fun j hj => absurd hj (by omega)⟩
    case round =>
      obtain ⟨k, hk, rfl, rfl, hNO⟩ := hrel
      have HNO := Lib.hid hNO
      clear hNO
      have hpb := pre_bound HSF.out (k := k) (by rw [sgL_len]; exact hk)
      by_cases hlt : k < W.length
      · obtain ⟨b, off, rfl, _, hcell⟩ := HW11.out.il.at (by omega)
        have hci := hcell k hlt
        have hx := HX2.out _ (memV hlt)
        have hyb := mulD (N := 0) hx.1 hx.2 (by omega : 0 ≤ D2) p4
        have HS1 := Lib.hid (sg_pre (N := N2) (D := D2) hlt)
        have HHIT : Hid (∀ P : Int, pre (sgL N2 D2 W) (k + 1) = P → pre (sgL N2 D2 W) k ≤ n → n < P → g = 0 ∧ ki = (k : Int)) := fun P hP a1 a2 => by
          have := own_hit HSF.out (by rw [sgL_len]; exact hlt) ⟨a1, by rw [hP]; exact a2⟩
          have e := HE.out
          rw [HSO.out, this] at e
          injection e with e1 e2
          exact ⟨e2.symm, e1.symm⟩
        have HGO : Hid (∀ P : Int, pre (sgL N2 D2 W) (k + 1) = P → ¬ (pre (sgL N2 D2 W) k ≤ n ∧ n < P) → NoOwn (sgL N2 D2 W) n (k + 1)) := fun P hP a => HNO.out.step (by rw [hP]; exact a)
        have hki2 : (k : Int) < (W.length : Int) := by omega
        obtain ⟨y, hy⟩ : ∃ y, W.getD k 0 * D2 = y := ⟨_, rfl⟩
        have hsg : sgF N2 D2 (W.getD k 0) = max 0 (N2 - y) := by unfold sgF; rw [hy]
        rw [hsg] at HS1
        rw [hy] at hyb
        clear hcell hsg HNO
        generalize hE0 : pre (sgL N2 D2 W) k = E at *
        clear hE0
        generalize W.getD k 0 = x at *
        obtain ⟨p, hp⟩ : ∃ p, N2 - y = p := ⟨_, rfl⟩
        rw [hp] at HS1
        rcases Classical.em (0 < p) with hp0 | hp0
        · have d1 : decide (0 < p) = true := decide_eq_true hp0
          rw [show max 0 p = p by omega] at HS1
          rcases Classical.em (E ≤ n) with he1 | he1
          · have d2 : decide (E ≤ n) = true := decide_eq_true he1
            rcases Classical.em (n < E + p) with he2 | he2
            · have d3 : decide (n < E + p) = true := decide_eq_true he2
              obtain ⟨r1, r2⟩ := HHIT.out (E + p) HS1.out he1 he2
              have u1 : (g == 0) = true := by rw [beq_iff_eq]; exact r1
              have u2 : (ki == (k : Int)) = true := by rw [beq_iff_eq]; exact r2
              clear r1 r2 HHIT HGO
              go_wp2
              go_ret
              exact ⟨rfl, HB11.out⟩
            · have d3 : decide (n < E + p) = false := decide_eq_false he2
              have HN2 := Lib.hid (HGO.out (E + p) HS1.out (fun h => he2 h.2))
              clear HHIT HGO he1 he2
              go_wp2
              go_round
              case rel => exact ⟨k + 1, by omega, by go_num, by rw [HS1.out], HN2.out⟩
              case measure => simp [intOf]; omega
          · have d2 : decide (E ≤ n) = false := decide_eq_false he1
            have HN2 := Lib.hid (HGO.out (E + p) HS1.out (fun h => he1 h.1))
            clear HHIT HGO he1
            go_wp2
            go_round
            case rel => exact ⟨k + 1, by omega, by go_num, by rw [HS1.out], HN2.out⟩
            case measure => simp [intOf]; omega
        · have d1 : decide (0 < p) = false := decide_eq_false hp0
          rw [show max 0 p = 0 by omega, Int.add_zero] at HS1
          have HN2 := Lib.hid (HGO.out E HS1.out (fun h => by omega))
          clear HHIT HGO
          go_wp2
          go_round
          case rel => exact ⟨k + 1, by omega, by go_num, by rw [HS1.out], HN2.out⟩
          case measure => simp [intOf]; omega
      · obtain rfl : k = W.length := by omega
        have he := HE.out
        rw [HSO.out, own_none HSF.out (by rw [sgL_len]; exact HNO.out)] at he
        injection he with he1 he2
        have u1 : (g == 3) = true := by rw [beq_iff_eq]; omega
        have u2 : (ki == 0) = true := by rw [beq_iff_eq]; omega
        clear he1 he2 HNO
        generalize pre (sgL N2 D2 W) W.length = E at *
        go_wp2
        go_ret
        exact ⟨rfl, HB11.out⟩

set_option maxRecDepth 100000 in
set_option maxHeartbeats 4000000 in
theorem dropLevels_good (A : Option Addr) (ca : Nat) (W : List Int) (m n : Int) (w : World) (hW : IP w A ca W) (hn : n ≤ 9223372036854775807) (hD : WD W m) :
    Calls Try.prog 3 #[.slice A W.length ca, .int .i64 m, .int .i64 n] w fun e w' => e = .returned (.bool true) ∧ Below w.heap.size w w' := by
  have CL := Lib.hid (level_any A ca W m w hW)
  have hle := hW.le
  have hcap := hW.cap
  have HW := Lib.hid hW
  rcases levC_cases W m with ⟨_, h⟩ | ⟨N, D, hc, _, hL, hN0, hN1, hD0, hD1⟩
  · exact absurd hD h
  rw [hc] at CL
  unfold lvtup fval at CL
  have hhv := hvC_ok hD hL
  have hwd := wdE_ok hD
  have h4 := hD.1
  have HD := Lib.hid hD
  have HL := Lib.hid hL
  obtain ⟨ki, g, ho⟩ : ∃ ki g, oneC W n = (ki, g) := ⟨_, _, rfl⟩
  clear hW hD hL hc
  go_enter Try.func3, Try.ntmps3
  go_wp2_with fail
  refine CL.out.mono ?_
  rintro e w1 ⟨rfl, hb1⟩
  have hb2 := hb1.alloc hb1.size (.cells #[.int .i64 N, .int .i64 D] 24)
  have HB2 := Lib.hid hb2
  have HW2 := Lib.hid (HW.out.later hb2)
  have HF2 := Lib.hid (fb_new w1 N D)
  obtain ⟨w2, hw2⟩ : ∃ w2, w1.alloc (.cells #[.int .i64 N, .int .i64 D] 24) = w2 := ⟨_, rfl⟩
  rw [hw2] at HB2 HW2 HF2
  have CH := Lib.hid (heavy_any A ca W m w2 HW2.out)
  rw [hhv] at CH
  clear CL hb1 hb2 HW
  go_wp2_with fail
  refine CH.out.mono ?_
  rintro e w3 ⟨R, cr, rfl, hT, hb3⟩
  have HB3 := Lib.hid (HB2.out.trans (hb3.mono HB2.out.size))
  have HW3 := Lib.hid (HW2.out.later hb3)
  have HF3 : Hid (FB w3 w1.heap.size N D) := HF2.out.below hb3 HF2.out.lt
  have HT3 := Lib.hid hT
  have CO := Lib.hid (one_any A ca W n w3 HW3.out hn)
  rw [ho] at CO
  unfold ptup at CO
  dsimp only
  rw [hvL_len]
  clear CH hb3 HB2 HW2 HF2 hT hw2
  go_wp2_with fail
  refine CO.out.mono ?_
  rintro e w4 ⟨rfl, hb4⟩
  have HB4 := Lib.hid (HB3.out.trans (hb4.mono HB3.out.size))
  have HW4 := Lib.hid (HW3.out.later hb4)
  have HF4 : Hid (FB w4 w1.heap.size N D) := HF3.out.below hb4 HF3.out.lt
  have HT4 := Lib.hid (HT3.out.laterB hb4)
  have CK := Lib.hid (kwrong_any A ca W m w4 HW4.out)
  have CW := Lib.hid (dwrong_any A ca W m w4 HW4.out)
  rw [hwd] at CK CW
  clear CO hb4 HB3 HW3 HF3 HT3
  go_wp2_with fail
  refine CK.out.mono ?_
  rintro e w5 ⟨rfl, rfl⟩
  clear CK
  have f0 := HF4.out.c0
  have f1 := HF4.out.c1
  go_wp2_with fail
  refine CW.out.mono ?_
  rintro e w5 ⟨rfl, rfl⟩
  clear CW
  have CV0 := Lib.hid (klevel_any A ca W m w4 HW4.out HD.out)
  rw [HL.out] at CV0
  unfold fval at CV0
  clear f0 f1
  go_wp2_with fail
  refine CV0.out.mono ?_
  rintro e w6 ⟨rfl, hb6⟩
  have hb7 := hb6.alloc hb6.size (.cells #[.int .i64 N, .int .i64 D] 24)
  have HB7 := Lib.hid (HB4.out.trans (hb7.mono HB4.out.size))
  have HW7 := Lib.hid (HW4.out.later hb7)
  have HT7 := Lib.hid (HT4.out.laterB hb7)
  have HF7 : Hid (FB (w6.alloc (.cells #[.int .i64 N, .int .i64 D] 24)) w1.heap.size N D) := HF4.out.below hb7 HF4.out.lt
  have HG7 := Lib.hid (fb_new w6 N D)
  obtain ⟨w7, hw7⟩ : ∃ w7, w6.alloc (.cells #[.int .i64 N, .int .i64 D] 24) = w7 := ⟨_, rfl⟩
  have HS7 : Hid (w7.heap.size = w6.heap.size + 1) := by show _ = _; rw [← hw7]; simp
  rw [hw7] at HB7 HW7 HT7 HF7 HG7
  clear CV0 hb6 hb7 HB4 HW4 HT4 HF4
  go_wp2_with fail
  go_loopw [15, 76] (fun vv kv wr => ∃ (k : Nat) (v : Value), v = vv ∧ k ≤ W.length ∧ kv = .int .i64 k ∧ OB wr w7.heap.size v ((hvL N D W).take k) ∧ Below w7.heap.size w7 wr) (fun _ kv _ => W.length - (intOf kv).toNat)
  case atStart => exact ⟨0, _, rfl, by omega, rfl, OB.nil _ _, Below.refl _ _⟩
  case round =>
    obtain ⟨k, v, rfl, hk, rfl, hO, hB⟩ := hrel
    have HO := Lib.hid hO
    have HB := Lib.hid hB
    have hG : FB wr w6.heap.size N D := HG7.out.below hB HG7.out.lt
    have k0 := hG.c0
    have k1 := hG.c1
    clear hO hB hG
    by_cases hlt : k < W.length
    · obtain ⟨b, off, rfl, _, hcell⟩ := (HW7.out.later HB.out).il.at (by omega)
      have hci := hcell k hlt
      have hx := HD.out.at hlt
      have hyb := mulD (N := 0) hx.1 hx.2 hD0 hD1
      obtain ⟨y, hy⟩ : ∃ y, W.getD k 0 * D = y := ⟨_, rfl⟩
      rw [hy] at hyb
      obtain ⟨q, hq⟩ : ∃ q, decide (N ≤ y) = q := ⟨_, rfl⟩
      have HLT : Hid ((hvL N D W).take (k + 1) = (hvL N D W).take k ++ [q]) := by
        show _ = _
        have e : (hvL N D W)[k]? = some q := by
          have := hvL_at (N := N) (D := D) hlt
          rw [List.getD_eq_getElem?_getD] at this
          rw [List.getElem?_eq_getElem (by rw [hvL_len]; exact hlt)] at this ⊢
          rw [Option.getD_some] at this
          rw [this]; unfold hvF; rw [hy, hq]
        rw [List.take_add_one, e]; rfl
      have hki : (k : Int) < (W.length : Int) := by omega
      have HLL : Hid (((hvL N D W).take k).length = k) := by show _ = _; rw [List.length_take, hvL_len]; omega
      clear hcell
      generalize W.getD k 0 = x at *
      generalize (hvL N D W).take k = xs at *
      go_wp2_with (at_builtin; refine wpList_pushB rfl _ _ rfl w7.heap.size v xs q rfl HO.out rfl (by rw [HLL.out]; omega) HB.out.size HB.out ?_)
      intro gg cap w8 hO8 hB8
      have HO8 := Lib.hid hO8
      have HB8 := Lib.hid hB8
      rw [← HLT.out] at HO8
      clear hO8 hB8
      go_wp2
      go_roundw
      case rel => exact ⟨k + 1, _, rfl, by omega, by go_num, HO8.out, HB8.out⟩
      case measure => simp [intOf]; omega
    · obtain rfl : k = W.length := by omega
      have hO := HO.out
      rw [List.take_of_length_le (by rw [hvL_len]; exact Nat.le_refl _)] at hO
      obtain ⟨R2, c2, rfl, hT2⟩ := hO.tp (by rw [hvL_len]; omega)
      have HW8 := Lib.hid (HW7.out.later HB.out)
      have CE := Lib.hid (bequal_any R R2 cr c2 (hvL N D W) (hvL N D W) wr (HT7.out.laterB HB.out).tp hT2.tp (by rw [hvL_len]; omega) (by rw [hvL_len]; omega))
      simp only [decide_true, hvL_len] at CE
      have hF8 : FB wr w1.heap.size N D := HF7.out.below HB.out (Nat.lt_of_lt_of_le HF7.out.lt (Nat.le_refl _))
      have f0 := hF8.c0
      have f1 := hF8.c1
      have HB8 := Lib.hid (HB7.out.trans (HB.out.mono HB7.out.size))
      have t1 : (N != N) = false := ineq_no rfl
      have t2 : (D != D) = false := ineq_no rfl
      rw [hvL_len]
      obtain ⟨wI, hwI⟩ : ∃ wI, wI = wr := ⟨_, rfl⟩
      subst hwI
      clear hO hT2 hF8 HO HB HW7 HT7 HF7
      go_wp2_with fail
      refine CE.out.mono ?_
      rintro e w9 ⟨rfl, hb9⟩
      have HB9 := Lib.hid (HB8.out.trans (hb9.mono HB8.out.size))
      have HW9 := Lib.hid (HW8.out.later hb9)
      clear CE hb9 HB8 HW8 f0 f1 t1 t2
      have HE := Lib.hid ho
      clear ho
      rcases levC_three W ((W.length : Int) - 1) with ⟨h1, hD2⟩ | ⟨_, _, _, hl2⟩ | ⟨N2, D2, h1, hD2, hL2, hl2⟩
      · have CZ := Lib.hid (kwrong_any A ca W ((W.length : Int) - 1) w9 HW9.out)
        rw [wdE_no hD2] at CZ
        have he := HE.out
        rw [oneC_no hD2] at he
        injection he with he1 he2
        have u1 : (g == 2) = true := by rw [beq_iff_eq]; omega
        have u2 : (ki == 0) = true := by rw [beq_iff_eq]; omega
        clear hD2 h1 he1 he2
        go_wp2_with fail
        refine CZ.out.mono ?_
        rintro e w12 ⟨rfl, rfl⟩
        clear CZ
        go_wp2
        go_ret
        exact ⟨rfl, HB9.out⟩
      · exact absurd hl2 (by omega)
      · have CZ := Lib.hid (kwrong_any A ca W ((W.length : Int) - 1) w9 HW9.out)
        rw [wdE_ok hD2] at CZ
        have CV := Lib.hid (klevel_any A ca W ((W.length : Int) - 1) w9 HW9.out hD2)
        rw [hL2.e] at CV
        unfold fval at CV
        have HSO := Lib.hid (oneC_ok (n := n) hD2 hL2.e)
        have p1 := hL2.n1
        have p2 := hL2.n2
        have p3 := hL2.d1
        have p4 := hL2.bounds hD2
        have HSF := Lib.hid (sgL_wf hD2 (by omega : 0 ≤ N2) p2 (by omega : 0 ≤ D2) p4)
        have HX2 : Hid (∀ x ∈ W, 1 ≤ x ∧ x ≤ 1048576) := hD2.2.2.2
        have h42 := hD2.1
        clear hD2 h1 hL2 hl2
        go_wp2_with fail
        refine CZ.out.mono ?_
        rintro e w12 ⟨rfl, rfl⟩
        clear CZ
        go_wp2_with fail
        refine CV.out.mono ?_
        rintro e w10 ⟨rfl, hb10⟩
        have hb11 := hb10.alloc hb10.size (.cells #[.int .i64 N2, .int .i64 D2] 24)
        have HB11 := Lib.hid (HB9.out.trans (hb11.mono HB9.out.size))
        have HW11 := Lib.hid (HW9.out.later hb11)
        have hF11 := fb_new w10 N2 D2
        obtain ⟨w11, hw11⟩ : ∃ w11, w10.alloc (.cells #[.int .i64 N2, .int .i64 D2] 24) = w11 := ⟨_, rfl⟩
        rw [hw11] at HB11 HW11 hF11
        have j0 := hF11.c0
        have j1 := hF11.c1
        clear CV hb10 hb11 hF11
        go_wp2_with fail
        go_loop [21, 120] (fun ev kv => ∃ k : Nat, k ≤ W.length ∧ kv = .int .i64 k ∧ ev = .int .i64 (pre (sgL N2 D2 W) k) ∧ NoOwn (sgL N2 D2 W) n k) (fun _ kv => W.length - (intOf kv).toNat)
        case atStart => exact ⟨0, by omega, rfl, by rw [pre_zero], fun j hj => absurd hj (by omega)⟩
        case round =>
          obtain ⟨k, hk, rfl, rfl, hNO⟩ := hrel
          have HNO := Lib.hid hNO
          clear hNO
          have hpb := pre_bound HSF.out (k := k) (by rw [sgL_len]; exact hk)
          by_cases hlt : k < W.length
          · obtain ⟨b, off, rfl, _, hcell⟩ := HW11.out.il.at (by omega)
            have hci := hcell k hlt
            have hx := HX2.out _ (memV hlt)
            have hyb := mulD (N := 0) hx.1 hx.2 (by omega : 0 ≤ D2) p4
            have HS1 := Lib.hid (sg_pre (N := N2) (D := D2) hlt)
            have HHIT : Hid (∀ P : Int, pre (sgL N2 D2 W) (k + 1) = P → pre (sgL N2 D2 W) k ≤ n → n < P → g = 0 ∧ ki = (k : Int)) := fun P hP a1 a2 => by
              have := own_hit HSF.out (by rw [sgL_len]; exact hlt) ⟨a1, by rw [hP]; exact a2⟩
              have e := HE.out
              rw [HSO.out, this] at e
              injection e with e1 e2
              exact ⟨e2.symm, e1.symm⟩
            have HGO : Hid (∀ P : Int, pre (sgL N2 D2 W) (k + 1) = P → ¬ (pre (sgL N2 D2 W) k ≤ n ∧ n < P) → NoOwn (sgL N2 D2 W) n (k + 1)) := fun P hP a => HNO.out.step (by rw [hP]; exact a)
            have hki2 : (k : Int) < (W.length : Int) := by omega
            obtain ⟨y, hy⟩ : ∃ y, W.getD k 0 * D2 = y := ⟨_, rfl⟩
            have hsg : sgF N2 D2 (W.getD k 0) = max 0 (N2 - y) := by unfold sgF; rw [hy]
            rw [hsg] at HS1
            rw [hy] at hyb
            clear hcell hsg HNO
            generalize hE0 : pre (sgL N2 D2 W) k = E at *
            clear hE0
            generalize W.getD k 0 = x at *
            obtain ⟨p, hp⟩ : ∃ p, N2 - y = p := ⟨_, rfl⟩
            rw [hp] at HS1
            rcases Classical.em (0 < p) with hp0 | hp0
            · have d1 : decide (0 < p) = true := decide_eq_true hp0
              rw [show max 0 p = p by omega] at HS1
              rcases Classical.em (E ≤ n) with he1 | he1
              · have d2 : decide (E ≤ n) = true := decide_eq_true he1
                rcases Classical.em (n < E + p) with he2 | he2
                · have d3 : decide (n < E + p) = true := decide_eq_true he2
                  obtain ⟨r1, r2⟩ := HHIT.out (E + p) HS1.out he1 he2
                  have u1 : (g == 0) = true := by rw [beq_iff_eq]; exact r1
                  have u2 : (ki == (k : Int)) = true := by rw [beq_iff_eq]; exact r2
                  clear r1 r2 HHIT HGO
                  go_wp2
                  go_ret
                  exact ⟨rfl, HB11.out⟩
                · have d3 : decide (n < E + p) = false := decide_eq_false he2
                  have HN2 := Lib.hid (HGO.out (E + p) HS1.out (fun h => he2 h.2))
                  clear HHIT HGO he1 he2
                  go_wp2
                  go_round
                  case rel => exact ⟨k + 1, by omega, by go_num, by rw [HS1.out], HN2.out⟩
                  case measure => simp [intOf]; omega
              · have d2 : decide (E ≤ n) = false := decide_eq_false he1
                have HN2 := Lib.hid (HGO.out (E + p) HS1.out (fun h => he1 h.1))
                clear HHIT HGO he1
                go_wp2
                go_round
                case rel => exact ⟨k + 1, by omega, by go_num, by rw [HS1.out], HN2.out⟩
                case measure => simp [intOf]; omega
            · have d1 : decide (0 < p) = false := decide_eq_false hp0
              rw [show max 0 p = 0 by omega, Int.add_zero] at HS1
              have HN2 := Lib.hid (HGO.out E HS1.out (fun h => by omega))
              clear HHIT HGO
              go_wp2
              go_round
              case rel => exact ⟨k + 1, by omega, by go_num, by rw [HS1.out], HN2.out⟩
              case measure => simp [intOf]; omega
          · obtain rfl : k = W.length := by omega
            have he := HE.out
            rw [HSO.out, own_none HSF.out (by rw [sgL_len]; exact HNO.out)] at he
            injection he with he1 he2
            have u1 : (g == 3) = true := by rw [beq_iff_eq]; omega
            have u2 : (ki == 0) = true := by rw [beq_iff_eq]; omega
            clear he1 he2 HNO
            generalize pre (sgL N2 D2 W) W.length = E at *
            go_wp2
            go_ret
            exact ⟨rfl, HB11.out⟩

theorem dropLevels_walk (A : Option Addr) (ca : Nat) (W : List Int) (m n : Int) (w : World) (hW : IP w A ca W) (hn : n ≤ 9223372036854775807) :
    Calls Try.prog 3 #[.slice A W.length ca, .int .i64 m, .int .i64 n] w fun e w' => e = .returned (.bool true) ∧ Below w.heap.size w w' := by
  rcases Classical.em (WD W m) with h | h
  · exact dropLevels_good A ca W m n w hW hn h
  · exact dropLevels_bad A ca W m n w hW hn h
end Go.Proofs.Ytkcgcojhgcfgmaa
