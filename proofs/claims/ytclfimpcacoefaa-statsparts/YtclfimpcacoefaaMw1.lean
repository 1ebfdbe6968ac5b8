/- StatsPairs' walk. -/
import Derived.Test.YtclfimpcacoefaaMo9
import Derived.Test.YtclfimpcacoefaaMo11
import Derived.Test.YtclfimpcacoefaaCpi
import Derived.Test.YtclfimpcacoefaaPz2
namespace Go.Proofs.Ytclfimpcacoefaa
open Go.RowKit Go.Deep Go.Lib

theorem okl_rtM {l : List Int} (h : okl l) : RtM (l.length : Int) (ssum l) (ssq l) := by
  have h1 := ssum_bd h.2
  have h2 := ssq_bd h.2
  have h3 := h.1
  have h4 := spr_nonneg l
  have h5 := ssum_par l
  unfold spr at h4
  exact ⟨by omega, by omega, h1.1, h1.2, h2.1, h2.2, by omega, h5⟩
theorem okl_spr {l : List Int} (h : okl l) : sprT (l.length : Int) (ssum l) (ssq l) = .tuple #[.int .i64 (spr l), .int .i64 0] := by
  rw [sprT_ok (okl_rtM h)]; rfl

set_option maxRecDepth 100000 in
set_option maxHeartbeats 4000000 in
theorem statsPairs_any (A : Option Addr) (ca : Nat) (l : List Int) (w : World) (hl : IP w A ca l) :
    Calls Try.prog 5 #[.slice A l.length ca] w fun e w' => e = .returned (.bool true) ∧ Below w.heap.size w w' := by
  have CA := Lib.hid (alive16_any w)
  have HL := Lib.hid hl
  have hle := hl.le
  have hcap := hl.cap
  clear hl
  go_enter Try.func5, Try.ntmps5
  go_wp2_with fail
  refine CA.out.mono ?_
  rintro e w1 ⟨rfl, hb1⟩
  have HB1 := Lib.hid hb1
  have CO := Lib.hid (of_any A ca l w1 (HL.out.later hb1))
  clear hb1 CA
  by_cases h : okl l
  · rw [ofT_ok h] at CO
    have h4 := h.1
    have H := Lib.hid h
    have CS := Lib.hid (fun wx => spread_any (l.length : Int) (ssum l) (ssq l) wx)
    rw [okl_spr h] at CS
    have CR := Lib.hid (fun wx => mright_any (l.length : Int) (ssum l) (ssq l) wx)
    rw [rtM_yes (okl_rtM h)] at CR
    clear h
    go_wp2_with fail
    refine CO.out.mono ?_
    rintro e w2 ⟨rfl, hb2⟩
    have hB2 := HB1.out.trans (hb2.mono HB1.out.size)
    obtain ⟨w3, hw3⟩ : ∃ w3, w3 = w2.alloc (.cells #[.int .i64 (l.length : Int), .int .i64 (ssum l), .int .i64 (ssq l)] 24) := ⟨_, rfl⟩
    have HM3 : Hid (MB w3 w2.heap.size l.length (ssum l) (ssq l)) := by rw [hw3]; exact mb_new _ _ _ _
    have HB3 : Hid (Below w.heap.size w w3) := by rw [hw3]; exact hB2.alloc hB2.size _
    obtain ⟨gm, hgm⟩ : ∃ gm, gm = w2.heap.size := ⟨_, rfl⟩
    subst hw3
    clear CO hb2 hB2 HB1
    go_wp2_with fail
    refine (CS.out _).mono ?_
    rintro e w4 ⟨rfl, hb⟩
    have HM4 := Lib.hid (HM3.out.later hb)
    have HB4 := Lib.hid (HB3.out.trans (hb.mono HB3.out.size))
    rw [← hgm] at HM4 ⊢
    clear hb CS HM3 HB3 hgm
    have CP := Lib.hid (pspread_any A ca l w4 (HL.out.later HB4.out) H.out)
    go_wp2_with fail
    refine CP.out.mono ?_
    rintro e w5 ⟨rfl, hb⟩
    have HM5 := Lib.hid (HM4.out.later hb)
    have HB5 := Lib.hid (HB4.out.trans (hb.mono HB4.out.size))
    have c0 := HM5.out.c0
    have c1 := HM5.out.c1
    have c2 := HM5.out.c2
    clear hb CP HM4 HB4
    go_wp2_with fail
    refine (CR.out _).mono ?_
    rintro e w6 ⟨rfl, hb⟩
    have HB6 := Lib.hid (HB5.out.trans (hb.mono HB5.out.size))
    clear hb CR HB5 c0 c1 c2 HM5
    have CC := Lib.hid (clone_any A ca l w6 (HL.out.later HB6.out) (by omega))
    go_wp2_with fail
    refine CC.out.mono ?_
    rintro e w7 ⟨v, rfl, hO, hb⟩
    obtain ⟨R, cr, rfl, _⟩ := hO.ip
    have CK := Lib.hid (compactI_any _ l.length R cr l w7 rfl hO hb.size)
    have HB7 := Lib.hid (HB6.out.trans (hb.mono HB6.out.size))
    have HZ := Lib.hid HB6.out.size
    clear hO hb CC HB6
    go_wp2_with fail
    refine CK.out.mono ?_
    rintro e w8 ⟨rfl, _, hb⟩
    have HB8 := Lib.hid (HB7.out.trans (hb.mono HZ.out))
    have E := spr_compact l
    have e1 : (spr l == 0) = decide (spr l = 0) := rfl
    have e2 : decide (((compact l).length : Int) ≤ 1) = decide ((compact l).length ≤ 1) := by apply decide_eq_decide.2; omega
    rw [E] at e1
    clear hb CK HB7 HZ E
    generalize decide ((compact l).length ≤ 1) = bq at *
    generalize (compact l).length = n at *
    generalize spr l = z at *
    go_wp2
    cases bq <;> (go_ret; exact ⟨rfl, HB8.out⟩)
  · rw [ofT_no h] at CO
    clear h
    go_wp2_with fail
    refine CO.out.mono ?_
    rintro e w2 ⟨rfl, hb2⟩
    have hB2 := HB1.out.trans (hb2.mono HB1.out.size)
    have HB3 : Hid (Below w.heap.size w (w2.alloc (.cells #[.int .i64 0, .int .i64 0, .int .i64 0] 24))) := hB2.alloc hB2.size _
    clear CO hb2 hB2 HB1
    go_wp2
    go_ret
    exact ⟨rfl, HB3.out⟩
end Go.Proofs.Ytclfimpcacoefaa
