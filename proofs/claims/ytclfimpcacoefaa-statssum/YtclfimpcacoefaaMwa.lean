/- StatsSum's walk. -/
import Derived.Test.YtclfimpcacoefaaMos
import Derived.Test.YtclfimpcacoefaaMo3
import Derived.Test.YtclfimpcacoefaaMo5
import Derived.Test.YtclfimpcacoefaaMo6
import Derived.Test.YtclfimpcacoefaaMo10
import Derived.Deep.RegionHeld3
namespace Go.Proofs.Ytclfimpcacoefaa
open Go.RowKit Go.Deep

theorem shape4 {a b c d a' b' c' d' : Int} (h : Value.tuple #[.agg #[.int .i64 a, .int .i64 b, .int .i64 c], .int .i64 d] = .tuple #[.agg #[.int .i64 a', .int .i64 b', .int .i64 c'], .int .i64 d']) : a = a' ∧ b = b' ∧ c = c' ∧ d = d' := by
  injection h with h
  simpa [and_assoc] using h
theorem rtM_box {n s q : Int} (h : RtM n s q) : (0 ≤ n ∧ n ≤ 1024) ∧ (-1073741824 ≤ s ∧ s ≤ 1073741824) ∧ (0 ≤ q ∧ q ≤ 1125899906842624) := by
  obtain ⟨h1, h2, h3, h4, h5, h6, _⟩ := h
  omega
theorem joinT_ex (n s q n' s' q' : Int) : ∃ jn js jq f : Int, joinT n s q n' s' q' = .tuple #[.agg #[.int .i64 jn, .int .i64 js, .int .i64 jq], .int .i64 f] := by
  by_cases h : RtM n s q ∧ RtM n' s' q'
  · by_cases h1 : n + n' ≤ 1024
    · exact ⟨_, _, _, _, joinT_ok h.1 h.2 h1⟩
    · exact ⟨_, _, _, _, joinT_full h.1 h.2 (by omega)⟩
  · exact ⟨_, _, _, _, joinT_no h⟩
theorem sprT_ex (n s q : Int) : ∃ v g : Int, sprT n s q = .tuple #[.int .i64 v, .int .i64 g] := by
  by_cases h : RtM n s q
  · exact ⟨_, _, sprT_ok h⟩
  · exact ⟨_, _, sprT_no h⟩

set_option maxRecDepth 100000 in
set_option maxHeartbeats 3000000 in
theorem statsSum_any (A : Option Addr) (ca : Nat) (l : List Int) (n s q n' s' q' : Int) (w : World) (hl : IP w A ca l)
    (ws : -9223372036854775808 ≤ s ∧ s ≤ 9223372036854775807) (wq : -9223372036854775808 ≤ q ∧ q ≤ 9223372036854775807)
    (ws' : -9223372036854775808 ≤ s' ∧ s' ≤ 9223372036854775807) (wq' : -9223372036854775808 ≤ q' ∧ q' ≤ 9223372036854775807) :
    Calls Try.prog 3 #[.slice A l.length ca, .agg #[.int .i64 n, .int .i64 s, .int .i64 q], .agg #[.int .i64 n', .int .i64 s', .int .i64 q']] w fun e w' => e = .returned (.bool true) ∧ Below w.heap.size w w' := by
  have hle := hl.le
  have hcap := hl.cap
  have HL := Lib.hid hl
  obtain ⟨wa, hwa⟩ : ∃ wa, wa = w.alloc (.cells #[.int .i64 n, .int .i64 s, .int .i64 q] 24) := ⟨_, rfl⟩
  obtain ⟨wb, hwb⟩ : ∃ wb, wb = wa.alloc (.cells #[.int .i64 n', .int .i64 s', .int .i64 q'] 24) := ⟨_, rfl⟩
  have sa : wa.heap.size = w.heap.size + 1 := by rw [hwa]; simp
  have sb : wb.heap.size = w.heap.size + 1 + 1 := by rw [hwb]; simp [sa]
  have ba : Below w.heap.size w wa := by rw [hwa]; exact (Below.refl _ _).alloc (Nat.le_refl _) _
  have bb : Below wa.heap.size wa wb := by rw [hwb]; exact (Below.refl _ _).alloc (Nat.le_refl _) _
  have ma : MB wa w.heap.size n s q := by rw [hwa]; exact mb_new w n s q
  have mb : MB wb (w.heap.size + 1) n' s' q' := by rw [hwb, ← sa]; exact mb_new wa n' s' q'
  have hBb := ba.trans (bb.mono (by omega))
  have HMa := Lib.hid (ma.later bb)
  have HMb := Lib.hid mb
  have HBb := Lib.hid hBb
  obtain ⟨e1, e2, e3, e4, hO, iO, vO⟩ := ofT_ex2 l
  obtain ⟨jn, js, jq, f, hJ⟩ := joinT_ex n s q n' s' q'
  obtain ⟨sv, g, hS⟩ := sprT_ex n s q
  have CO := Lib.hid (of_any A ca l wb (hl.later hBb))
  have CJ := Lib.hid (fun wx => join_any n s q n' s' q' wx)
  have CS := Lib.hid (fun wx => spread_any n s q wx)
  have HJE := Lib.hid hJ
  have HSE := Lib.hid hS
  have HOE := Lib.hid hO
  rw [hO] at CO
  rw [hJ] at CJ
  rw [hS] at CS
  subst hwa hwb
  clear hl ba bb ma mb hBb hO hJ hS sa sb
  go_enter Try.func3, Try.ntmps3
  go_wp2_with fail
  refine CO.out.mono ?_
  rintro e w1 ⟨rfl, hb⟩
  have hB1 := HBb.out.trans (hb.mono HBb.out.size)
  have hMa1 := HMa.out.later hb
  have hMb1 := HMb.out.later hb
  obtain ⟨w2, hw2⟩ : ∃ w2, w2 = w1.alloc (.cells #[.int .i64 e1, .int .i64 e2, .int .i64 e3] 24) := ⟨_, rfl⟩
  have hal : Below w1.heap.size w1 w2 := by rw [hw2]; exact (Below.refl _ _).alloc (Nat.le_refl _) _
  have HMm2 : Hid (MB w2 w1.heap.size e1 e2 e3) := by rw [hw2]; exact mb_new _ _ _ _
  have HMa2 := Lib.hid (hMa1.later hal)
  have HMb2 := Lib.hid (hMb1.later hal)
  have HB2 := Lib.hid (hB1.trans (hal.mono hB1.size))
  have a0 := HMa2.out.c0
  have a1 := HMa2.out.c1
  have a2 := HMa2.out.c2
  have b0 := HMb2.out.c0
  have b1 := HMb2.out.c1
  have b2 := HMb2.out.c2
  subst hw2
  clear hb hB1 hMa1 hMb1 hal CO HBb HMa HMb
  go_wp2_with fail
  refine (CJ.out _).mono ?_
  rintro e w3 ⟨rfl, hb⟩
  have hB3 := HB2.out.trans (hb.mono HB2.out.size)
  have hMa3 := HMa2.out.later hb
  have hMb3 := HMb2.out.later hb
  have hMm3 := HMm2.out.later hb
  obtain ⟨w4, hw4⟩ : ∃ w4, w4 = w3.alloc (.cells #[.int .i64 jn, .int .i64 js, .int .i64 jq] 24) := ⟨_, rfl⟩
  have hal : Below w3.heap.size w3 w4 := by rw [hw4]; exact (Below.refl _ _).alloc (Nat.le_refl _) _
  have HMj4 : Hid (MB w4 w3.heap.size jn js jq) := by rw [hw4]; exact mb_new _ _ _ _
  have HMa4 := Lib.hid (hMa3.later hal)
  have HMb4 := Lib.hid (hMb3.later hal)
  have HMm4 := Lib.hid (hMm3.later hal)
  have HB4 := Lib.hid (hB3.trans (hal.mono hB3.size))
  clear a0 a1 a2 b0 b1 b2
  have a0 := HMa4.out.c0
  have a1 := HMa4.out.c1
  have a2 := HMa4.out.c2
  subst hw4
  clear hb hB3 hMa3 hMb3 hMm3 hal CJ HB2 HMa2 HMb2 HMm2
  go_wp2_with fail
  refine (CS.out _).mono ?_
  rintro e w5 ⟨rfl, hb⟩
  have hB5 := HB4.out.trans (hb.mono HB4.out.size)
  have HMa5 := Lib.hid (HMa4.out.later hb)
  have HMb5 := Lib.hid (HMb4.out.later hb)
  have HMm5 := Lib.hid (HMm4.out.later hb)
  have HMj5 := Lib.hid (HMj4.out.later hb)
  have CW := Lib.hid (pwrong_any A ca l w5 (HL.out.later hB5))
  have HB5 := Lib.hid hB5
  clear hb hB5 CS HB4 HMa4 HMb4 HMm4 HMj4 a0 a1 a2
  obtain ⟨gj, hgj⟩ : ∃ gj, gj = w3.heap.size := ⟨_, rfl⟩
  obtain ⟨gm, hgm⟩ : ∃ gm, gm = w1.heap.size := ⟨_, rfl⟩
  go_wp2_with fail
  refine CW.out.mono ?_
  rintro e w6 ⟨rfl, hb⟩
  have hB6 := HB5.out.trans (hb.mono HB5.out.size)
  have hMa6 := HMa5.out.later hb
  have hMb6 := HMb5.out.later hb
  have hMm6 := HMm5.out.later hb
  have hMj6 := HMj5.out.later hb
  rw [← hgm] at hMm6
  rw [← hgj] at hMj6
  have HZ : Hid (∀ wx, Below w6.heap.size w6 wx → (wx.cell? ⟨w.heap.size, 0, none⟩ = some (.int .i64 n) ∧ wx.cell? ⟨w.heap.size, 1, none⟩ = some (.int .i64 s) ∧ wx.cell? ⟨w.heap.size, 2, none⟩ = some (.int .i64 q)) ∧ (wx.cell? ⟨w.heap.size + 1, 0, none⟩ = some (.int .i64 n') ∧ wx.cell? ⟨w.heap.size + 1, 1, none⟩ = some (.int .i64 s') ∧ wx.cell? ⟨w.heap.size + 1, 2, none⟩ = some (.int .i64 q')) ∧ (wx.cell? ⟨gj, 0, none⟩ = some (.int .i64 jn) ∧ wx.cell? ⟨gj, 1, none⟩ = some (.int .i64 js) ∧ wx.cell? ⟨gj, 2, none⟩ = some (.int .i64 jq)) ∧ Below w.heap.size w wx) := fun wx h => by
    have x1 := hMa6.later h
    have x2 := hMb6.later h
    have x3 := hMj6.later h
    exact ⟨⟨x1.c0, x1.c1, x1.c2⟩, ⟨x2.c0, x2.c1, x2.c2⟩, ⟨x3.c0, x3.c1, x3.c2⟩, hB6.trans (h.mono hB6.size)⟩
  have HMM : Hid (∀ wx, Below w6.heap.size w6 wx → wx.cell? ⟨gm, 0, none⟩ = some (.int .i64 e1) ∧ wx.cell? ⟨gm, 1, none⟩ = some (.int .i64 e2) ∧ wx.cell? ⟨gm, 2, none⟩ = some (.int .i64 e3)) := fun wx h => by
    have x1 := hMm6.later h
    exact ⟨x1.c0, x1.c1, x1.c2⟩
  have HL6 := Lib.hid (HL.out.later hB6)
  rw [← hgm, ← hgj]
  clear hb hB6 hMa6 hMb6 hMm6 hMj6 CW HB5 HMa5 HMb5 HMm5 HMj5 HL
  by_cases ok : okl l
  · rw [decide_eq_true ok, Bool.not_true]
    obtain ⟨rfl, rfl, rfl⟩ := vO ok
    obtain rfl : e4 = 0 := iO.2 ok
    have HK := Lib.hid ok
    have h400 := ok.1
    have HWn : Hid (MB (w6.alloc (.cells #[.int .i64 0, .int .i64 0, .int .i64 0] 24)) w6.heap.size 0 0 0) := mb_new _ _ _ _
    have HBn : Hid (Below w6.heap.size w6 (w6.alloc (.cells #[.int .i64 0, .int .i64 0, .int .i64 0] 24))) := (Below.refl _ _).alloc (Nat.le_refl _) _
    clear vO iO ok hgm hgj
    go_wp2
    go_loopw [43] (fun i wr => ∃ k : Nat, k ≤ l.length ∧ i = .int .i64 k ∧ MB wr w6.heap.size (k : Int) (ssum (l.take k)) (ssq (l.take k)) ∧ Below w6.heap.size w6 wr) (fun i _ => l.length - (intOf i).toNat)
    case atStart => exact ⟨0, by omega, rfl, HWn.out, HBn.out⟩
    case round =>
      clear HWn HBn
      obtain ⟨k, hk, rfl, hM, hB⟩ := hrel
      have HM := Lib.hid hM
      have HB := Lib.hid hB
      have c0 := hM.c0
      have c1 := hM.c1
      have c2 := hM.c2
      have f0 := hM.frozen 0
      have f1 := hM.frozen 1
      have f2 := hM.frozen 2
      clear hM hB
      by_cases hlt : k < l.length
      · obtain ⟨b, off, rfl, _, hcell⟩ := (HL6.out.later HB.out).il.at (by omega)
        have hci := hcell k hlt
        have hx := sin_at HK.out.2 hlt
        have HE1 := Lib.hid (ssum_succ hlt)
        have HE2 := Lib.hid (ssq_succ hlt)
        have hbd := take_bd h400 (sin_take HK.out.2 k)
        have hsq := sq_bd hx
        have HM2 := Lib.hid (HM.out.store ((k : Int) + 1) (ssum (l.take k) + l.getD k 0) (ssq (l.take k) + l.getD k 0 * l.getD k 0))
        have HB2 := Lib.hid (((HB.out.setCell (p := ⟨w6.heap.size, 0, none⟩) (Nat.le_refl _) (.int .i64 ((k : Int) + 1))).setCell (p := ⟨w6.heap.size, 1, none⟩) (Nat.le_refl _) (.int .i64 (ssum (l.take k) + l.getD k 0))).setCell (p := ⟨w6.heap.size, 2, none⟩) (Nat.le_refl _) (.int .i64 (ssq (l.take k) + l.getD k 0 * l.getD k 0)))
        clear hcell
        generalize ssum (l.take k) = S at *
        generalize ssq (l.take k) = Q at *
        generalize l.getD k 0 = x at *
        have k1 : IntKind.i64.wrap (x * x) = x * x := IntWalk.i64_in _ (by omega)
        have k2 : IntKind.i64.wrap (Q + x * x) = Q + x * x := IntWalk.i64_in _ (by omega)
        go_wp2
        go_roundw
        case rel => exact ⟨k + 1, by omega, by go_num, by rw [HE1.out, HE2.out, Int.natCast_add]; exact HM2.out, HB2.out⟩
        case measure => simp [intOf]; omega
      · obtain rfl : k = l.length := by omega
        rw [List.take_length] at HM c1 c2
        obtain ⟨m0, m1, m2⟩ := HMM.out wr HB.out
        obtain ⟨wz, hwz⟩ : ∃ wz, wz = wr := ⟨_, rfl⟩
        subst hwz
        have HDz := HB
        clear HB hk hlt
        have CR := Lib.hid (fun wx => mright_any n s q wx)
        have CP := Lib.hid (fun wx => pright_any n s q wx ws.1 ws.2 wq.1 wq.2)
        have CQ := Lib.hid (fun wx => pright_any n' s' q' wx ws'.1 ws'.2 wq'.1 wq'.2)
        have HW := Lib.hid (fun wx (h : Below wz.heap.size wz wx) => HZ.out wx (HDz.out.trans (h.mono HDz.out.size)))
        have HR0 := Lib.hid (Below.refl wz.heap.size wz).drew
        obtain ⟨⟨a0, a1, a2⟩, _, ⟨j0, j1, j2⟩, _⟩ := HW.out wz (Below.refl _ _)
        have HA0 := Lib.hid (And.intro a0 (And.intro a1 a2))
        by_cases ra : RtM n s q
        · rw [rtM_yes ra] at CR CP
          have HS := HSE.out
          rw [sprT_ok ra] at HS
          obtain ⟨hs1, hs2⟩ := shape2 HS
          subst hs1 hs2
          have hbd := rtM_bd ra.1 ra.2.1 ra.2.2.1 ra.2.2.2.1 ra.2.2.2.2.1 ra.2.2.2.2.2.1
          have k1 : IntKind.i64.wrap (s * s) = s * s := IntWalk.i64_in _ (by omega)
          have k2 : IntKind.i64.wrap (n * q) = n * q := IntWalk.i64_in _ (by omega)
          have k3 : IntKind.i64.wrap (n * q - s * s) = n * q - s * s := IntWalk.i64_in _ (by omega)
          go_wp2_with fail
          go_region_held3 (fun w' => w'.cell? ⟨w.heap.size, 0, none⟩ = some (.int .i64 n) ∧ w'.cell? ⟨w.heap.size, 1, none⟩ = some (.int .i64 s) ∧ w'.cell? ⟨w.heap.size, 2, none⟩ = some (.int .i64 q)) (go_keep)
            (first
              | (go_at_call 14; refine (CR.out _).mono ?_; rintro e ww ⟨rfl, hb⟩; have HDw := Lib.hid (HR0.out.trans (hb.mono HR0.out.size)); have f := (HW.out _ HDw.out).1; have f0 := f.1; have f1 := f.2.1; have f2 := f.2.2; clear f hb)
              | (go_at_call 15; refine (CP.out _).mono ?_; rintro e wx ⟨rfl, hb⟩; have HDx := Lib.hid (HDw.out.trans (hb.mono HDw.out.size)); have f := (HW.out _ HDx.out).1; have g0 := f.1; have g1 := f.2.1; have g2 := f.2.2; clear f hb))
          have HBx := Lib.hid HDx.out
          clear HDw HA0
          go_wp2_with fail
          refine (CP.out _).mono ?_
          rintro e wy ⟨rfl, hb⟩
          have HDy := Lib.hid (HDx.out.trans (hb.mono HDx.out.size))
          obtain ⟨⟨a0, a1, a2⟩, ⟨b0, b1, b2⟩, ⟨j0, j1, j2⟩, _⟩ := HW.out wy HDy.out
          clear hb CP CR HBx
          by_cases rb : RtM n' s' q'
          · rw [rtM_yes rb] at CQ
            have hna : (0 ≤ n ∧ n ≤ 1024) ∧ (-1073741824 ≤ s ∧ s ≤ 1073741824) ∧ (0 ≤ q ∧ q ≤ 1125899906842624) := rtM_box ra
            have hnb : (0 ≤ n' ∧ n' ≤ 1024) ∧ (-1073741824 ≤ s' ∧ s' ≤ 1073741824) ∧ (0 ≤ q' ∧ q' ≤ 1125899906842624) := rtM_box rb
            by_cases hf : n + n' ≤ 1024
            · have HJ := HJE.out
              rw [joinT_ok ra rb hf] at HJ
              obtain ⟨e1, e2, e3, e4⟩ := shape4 HJ
              subst e1 e2 e3 e4
              clear ra rb HJ
              go_wp2_with fail
              refine (CQ.out _).mono ?_
              rintro e wv ⟨rfl, hb⟩
              obtain ⟨⟨a0, a1, a2⟩, ⟨b0, b1, b2⟩, ⟨j0, j1, j2⟩, hbv⟩ := HW.out wv (HDy.out.trans (hb.mono HDy.out.size))
              have HBv := Lib.hid hbv
              clear hb hbv CQ
              go_wp2
              go_ret
              exact ⟨rfl, HBv.out⟩
            · have HJ := HJE.out
              rw [joinT_full ra rb (by omega)] at HJ
              obtain ⟨e1, e2, e3, e4⟩ := shape4 HJ
              subst e1 e2 e3 e4
              clear ra rb HJ
              go_wp2_with fail
              refine (CQ.out _).mono ?_
              rintro e wv ⟨rfl, hb⟩
              obtain ⟨⟨a0, a1, a2⟩, ⟨b0, b1, b2⟩, ⟨j0, j1, j2⟩, hbv⟩ := HW.out wv (HDy.out.trans (hb.mono HDy.out.size))
              have HBv := Lib.hid hbv
              clear hb hbv CQ
              go_wp2
              go_ret
              exact ⟨rfl, HBv.out⟩
          · rw [rtM_no rb] at CQ
            have HJ := HJE.out
            rw [joinT_no (fun z => rb z.2)] at HJ
            obtain ⟨e1, e2, e3, e4⟩ := shape4 HJ
            subst e1 e2 e3 e4
            clear ra rb HJ
            go_wp2_with fail
            refine (CQ.out _).mono ?_
            rintro e wv ⟨rfl, hb⟩
            obtain ⟨⟨a0, a1, a2⟩, ⟨b0, b1, b2⟩, ⟨j0, j1, j2⟩, hbv⟩ := HW.out wv (HDy.out.trans (hb.mono HDy.out.size))
            have HBv := Lib.hid hbv
            clear hb hbv CQ
            go_wp2
            go_ret
            exact ⟨rfl, HBv.out⟩
        · rw [rtM_no ra] at CR CP
          have HS := HSE.out
          rw [sprT_no ra] at HS
          obtain ⟨hs1, hs2⟩ := shape2 HS
          subst hs1 hs2
          have HJ := HJE.out
          rw [joinT_no (fun z => ra z.1)] at HJ
          obtain ⟨e1, e2, e3, e4⟩ := shape4 HJ
          subst e1 e2 e3 e4
          clear ra HS HJ
          go_wp2_with fail
          go_region_held3 (fun w' => w'.cell? ⟨w.heap.size, 0, none⟩ = some (.int .i64 n) ∧ w'.cell? ⟨w.heap.size, 1, none⟩ = some (.int .i64 s) ∧ w'.cell? ⟨w.heap.size, 2, none⟩ = some (.int .i64 q)) (go_keep)
            (first
              | (go_at_call 14; refine (CR.out _).mono ?_; rintro e ww ⟨rfl, hb⟩; have HDw := Lib.hid (HR0.out.trans (hb.mono HR0.out.size)); have f := (HW.out _ HDw.out).1; have f0 := f.1; have f1 := f.2.1; have f2 := f.2.2; clear f hb)
              | (go_at_call 15; refine (CP.out _).mono ?_; rintro e wx ⟨rfl, hb⟩; have HDx := Lib.hid (HDw.out.trans (hb.mono HDw.out.size)); have f := (HW.out _ HDx.out).1; have g0 := f.1; have g1 := f.2.1; have g2 := f.2.2; clear f hb))
          have HBx := Lib.hid HDx.out
          clear HDw HA0
          go_wp2_with fail
          refine (CP.out _).mono ?_
          rintro e wy ⟨rfl, hb⟩
          obtain ⟨⟨a0, a1, a2⟩, ⟨b0, b1, b2⟩, ⟨j0, j1, j2⟩, hby⟩ := HW.out wy (HDx.out.trans (hb.mono HDx.out.size))
          have HBy := Lib.hid hby
          clear hb hby CP CR HBx
          go_wp2
          go_ret
          exact ⟨rfl, HBy.out⟩
  · rw [decide_eq_false ok, Bool.not_false]
    have hO := HOE.out
    rw [ofT_no ok] at hO
    obtain ⟨rfl, rfl, rfl, rfl⟩ := shape4 hO
    obtain ⟨m0, m1, m2⟩ := HMM.out w6 (Below.refl _ _)
    have HDz := Lib.hid (Below.refl w6.heap.size w6)
    obtain ⟨wz, hwz⟩ : ∃ wz, wz = w6 := ⟨_, rfl⟩
    rw [← hwz] at HDz HZ m0 m1 m2 ⊢
    clear hO vO iO ok hgm hgj hwz
    have CR := Lib.hid (fun wx => mright_any n s q wx)
    have CP := Lib.hid (fun wx => pright_any n s q wx ws.1 ws.2 wq.1 wq.2)
    have CQ := Lib.hid (fun wx => pright_any n' s' q' wx ws'.1 ws'.2 wq'.1 wq'.2)
    have HW := Lib.hid (fun wx (h : Below wz.heap.size wz wx) => HZ.out wx (HDz.out.trans (h.mono HDz.out.size)))
    have HR0 := Lib.hid (Below.refl wz.heap.size wz).drew
    obtain ⟨⟨a0, a1, a2⟩, _, ⟨j0, j1, j2⟩, _⟩ := HW.out wz (Below.refl _ _)
    have HA0 := Lib.hid (And.intro a0 (And.intro a1 a2))
    by_cases ra : RtM n s q
    · rw [rtM_yes ra] at CR CP
      have HS := HSE.out
      rw [sprT_ok ra] at HS
      obtain ⟨hs1, hs2⟩ := shape2 HS
      subst hs1 hs2
      have hbd := rtM_bd ra.1 ra.2.1 ra.2.2.1 ra.2.2.2.1 ra.2.2.2.2.1 ra.2.2.2.2.2.1
      have k1 : IntKind.i64.wrap (s * s) = s * s := IntWalk.i64_in _ (by omega)
      have k2 : IntKind.i64.wrap (n * q) = n * q := IntWalk.i64_in _ (by omega)
      have k3 : IntKind.i64.wrap (n * q - s * s) = n * q - s * s := IntWalk.i64_in _ (by omega)
      go_wp2_with fail
      go_region_held3 (fun w' => w'.cell? ⟨w.heap.size, 0, none⟩ = some (.int .i64 n) ∧ w'.cell? ⟨w.heap.size, 1, none⟩ = some (.int .i64 s) ∧ w'.cell? ⟨w.heap.size, 2, none⟩ = some (.int .i64 q)) (go_keep)
        (first
          | (go_at_call 14; refine (CR.out _).mono ?_; rintro e ww ⟨rfl, hb⟩; have HDw := Lib.hid (HR0.out.trans (hb.mono HR0.out.size)); have f := (HW.out _ HDw.out).1; have f0 := f.1; have f1 := f.2.1; have f2 := f.2.2; clear f hb)
          | (go_at_call 15; refine (CP.out _).mono ?_; rintro e wx ⟨rfl, hb⟩; have HDx := Lib.hid (HDw.out.trans (hb.mono HDw.out.size)); have f := (HW.out _ HDx.out).1; have g0 := f.1; have g1 := f.2.1; have g2 := f.2.2; clear f hb))
      have HBx := Lib.hid HDx.out
      clear HDw HA0
      go_wp2_with fail
      refine (CP.out _).mono ?_
      rintro e wy ⟨rfl, hb⟩
      have HDy := Lib.hid (HDx.out.trans (hb.mono HDx.out.size))
      obtain ⟨⟨a0, a1, a2⟩, ⟨b0, b1, b2⟩, ⟨j0, j1, j2⟩, _⟩ := HW.out wy HDy.out
      clear hb CP CR HBx
      by_cases rb : RtM n' s' q'
      · rw [rtM_yes rb] at CQ
        have hna : (0 ≤ n ∧ n ≤ 1024) ∧ (-1073741824 ≤ s ∧ s ≤ 1073741824) ∧ (0 ≤ q ∧ q ≤ 1125899906842624) := rtM_box ra
        have hnb : (0 ≤ n' ∧ n' ≤ 1024) ∧ (-1073741824 ≤ s' ∧ s' ≤ 1073741824) ∧ (0 ≤ q' ∧ q' ≤ 1125899906842624) := rtM_box rb
        by_cases hf : n + n' ≤ 1024
        · have HJ := HJE.out
          rw [joinT_ok ra rb hf] at HJ
          obtain ⟨e1, e2, e3, e4⟩ := shape4 HJ
          subst e1 e2 e3 e4
          clear ra rb HJ
          go_wp2_with fail
          refine (CQ.out _).mono ?_
          rintro e wv ⟨rfl, hb⟩
          obtain ⟨⟨a0, a1, a2⟩, ⟨b0, b1, b2⟩, ⟨j0, j1, j2⟩, hbv⟩ := HW.out wv (HDy.out.trans (hb.mono HDy.out.size))
          have HBv := Lib.hid hbv
          clear hb hbv CQ
          go_wp2
          go_ret
          exact ⟨rfl, HBv.out⟩
        · have HJ := HJE.out
          rw [joinT_full ra rb (by omega)] at HJ
          obtain ⟨e1, e2, e3, e4⟩ := shape4 HJ
          subst e1 e2 e3 e4
          clear ra rb HJ
          go_wp2_with fail
          refine (CQ.out _).mono ?_
          rintro e wv ⟨rfl, hb⟩
          obtain ⟨⟨a0, a1, a2⟩, ⟨b0, b1, b2⟩, ⟨j0, j1, j2⟩, hbv⟩ := HW.out wv (HDy.out.trans (hb.mono HDy.out.size))
          have HBv := Lib.hid hbv
          clear hb hbv CQ
          go_wp2
          go_ret
          exact ⟨rfl, HBv.out⟩
      · rw [rtM_no rb] at CQ
        have HJ := HJE.out
        rw [joinT_no (fun z => rb z.2)] at HJ
        obtain ⟨e1, e2, e3, e4⟩ := shape4 HJ
        subst e1 e2 e3 e4
        clear ra rb HJ
        go_wp2_with fail
        refine (CQ.out _).mono ?_
        rintro e wv ⟨rfl, hb⟩
        obtain ⟨⟨a0, a1, a2⟩, ⟨b0, b1, b2⟩, ⟨j0, j1, j2⟩, hbv⟩ := HW.out wv (HDy.out.trans (hb.mono HDy.out.size))
        have HBv := Lib.hid hbv
        clear hb hbv CQ
        go_wp2
        go_ret
        exact ⟨rfl, HBv.out⟩
    · rw [rtM_no ra] at CR CP
      have HS := HSE.out
      rw [sprT_no ra] at HS
      obtain ⟨hs1, hs2⟩ := shape2 HS
      subst hs1 hs2
      have HJ := HJE.out
      rw [joinT_no (fun z => ra z.1)] at HJ
      obtain ⟨e1, e2, e3, e4⟩ := shape4 HJ
      subst e1 e2 e3 e4
      clear ra HS HJ
      go_wp2_with fail
      go_region_held3 (fun w' => w'.cell? ⟨w.heap.size, 0, none⟩ = some (.int .i64 n) ∧ w'.cell? ⟨w.heap.size, 1, none⟩ = some (.int .i64 s) ∧ w'.cell? ⟨w.heap.size, 2, none⟩ = some (.int .i64 q)) (go_keep)
        (first
          | (go_at_call 14; refine (CR.out _).mono ?_; rintro e ww ⟨rfl, hb⟩; have HDw := Lib.hid (HR0.out.trans (hb.mono HR0.out.size)); have f := (HW.out _ HDw.out).1; have f0 := f.1; have f1 := f.2.1; have f2 := f.2.2; clear f hb)
          | (go_at_call 15; refine (CP.out _).mono ?_; rintro e wx ⟨rfl, hb⟩; have HDx := Lib.hid (HDw.out.trans (hb.mono HDw.out.size)); have f := (HW.out _ HDx.out).1; have g0 := f.1; have g1 := f.2.1; have g2 := f.2.2; clear f hb))
      have HBx := Lib.hid HDx.out
      clear HDw HA0
      go_wp2_with fail
      refine (CP.out _).mono ?_
      rintro e wy ⟨rfl, hb⟩
      obtain ⟨⟨a0, a1, a2⟩, ⟨b0, b1, b2⟩, ⟨j0, j1, j2⟩, hby⟩ := HW.out wy (HDx.out.trans (hb.mono HDx.out.size))
      have HBy := Lib.hid hby
      clear hb hby CP CR HBx
      go_wp2
      go_ret
      exact ⟨rfl, HBy.out⟩
end Go.Proofs.Ytclfimpcacoefaa
