/- StatsCauchy's walk. -/
import Derived.Test.YtclfimpcacoefaaMw1
namespace Go.Proofs.Ytclfimpcacoefaa
open Go.RowKit Go.Deep

theorem cov_comm {x y : List Int} (h : x.length = y.length) : cov y x = cov x y := by
  unfold cov
  rw [sxy_comm y x, Int.mul_comm (ssum y), h]
theorem bothT_ex (x y : List Int) : ∃ b e : Int, bothT x y = .tuple #[.int .i64 b, .int .i64 e] := by
  by_cases h : okl x ∧ okl y
  · by_cases h0 : x.length = y.length
    · exact ⟨_, _, bothT_ok h.1 h.2 h0⟩
    · exact ⟨_, _, bothT_form h.1 h.2 h0⟩
  · exact ⟨_, _, bothT_no h⟩
theorem bothT_bad {x y : List Int} (h : ¬ (okl x ∧ okl y ∧ x.length = y.length)) : ∃ e : Int, e ≠ 0 ∧ bothT x y = .tuple #[.int .i64 0, .int .i64 e] := by
  by_cases h1 : okl x ∧ okl y
  · exact ⟨1, by decide, bothT_form h1.1 h1.2 (fun e => h ⟨h1.1, h1.2, e⟩)⟩
  · exact ⟨2, by decide, bothT_no h1⟩

set_option maxRecDepth 100000 in
set_option maxHeartbeats 4000000 in
theorem statsCauchy_any (A B : Option Addr) (ca cb : Nat) (x y : List Int) (w : World) (hx : IP w A ca x) (hy : IP w B cb y) :
    Calls Try.prog 8 #[.slice A x.length ca, .slice B y.length cb] w fun e w' => e = .returned (.bool true) ∧ Below w.heap.size w w' := by
  have CA := Lib.hid (alive16_any w)
  have HX := Lib.hid hx
  have HY := Lib.hid hy
  have hle := hx.le
  have hcap := hx.cap
  have hle2 := hy.le
  have hcap2 := hy.cap
  clear hx hy
  go_enter Try.func8, Try.ntmps8
  go_wp2_with fail
  refine CA.out.mono ?_
  rintro e w1 ⟨rfl, hb1⟩
  have HB1 := Lib.hid hb1
  have CB := Lib.hid (both_any A B ca cb x y w1 (HX.out.later hb1) (HY.out.later hb1))
  have CC : Hid (∀ wx, Below w.heap.size w wx → _) := fun wx hb => both_any B A cb ca y x wx (HY.out.later hb) (HX.out.later hb)
  have CD : Hid (∀ wx, Below w.heap.size w wx → _) := fun wx hb => both_any A A ca ca x x wx (HX.out.later hb) (HX.out.later hb)
  clear hb1 CA
  by_cases h : okl x ∧ okl y ∧ x.length = y.length
  · obtain ⟨h1, h2, h3⟩ := h
    rw [bothT_ok h1 h2 h3] at CB
    rw [bothT_ok h2 h1 h3.symm, cov_comm h3] at CC
    rw [bothT_ok h1 h1 rfl, cov_self] at CD
    have CO : Hid (∀ wx, Below w.heap.size w wx → _) := fun wx hb => of_any A ca x wx (HX.out.later hb)
    have CQ : Hid (∀ wx, Below w.heap.size w wx → _) := fun wx hb => of_any B cb y wx (HY.out.later hb)
    rw [ofT_ok h1] at CO
    rw [ofT_ok h2] at CQ
    have CS := Lib.hid (fun wx => spread_any (x.length : Int) (ssum x) (ssq x) wx)
    rw [okl_spr h1] at CS
    have CT := Lib.hid (fun wx => spread_any (y.length : Int) (ssum y) (ssq y) wx)
    rw [okl_spr h2] at CT
    have HC := Lib.hid (cauchy h3)
    have n1 := spr_nonneg x
    have n2 := spr_nonneg y
    clear h1 h2 h3
    generalize cov x y = c at *
    generalize spr x = s at *
    generalize spr y = u at *
    go_wp2_with fail
    refine CB.out.mono ?_
    rintro e w2 ⟨rfl, hb⟩
    have HB2 := Lib.hid (HB1.out.trans (hb.mono HB1.out.size))
    clear hb CB HB1
    go_wp2_with fail
    refine (CC.out _ HB2.out).mono ?_
    rintro e w3 ⟨rfl, hb⟩
    have HB3 := Lib.hid (HB2.out.trans (hb.mono HB2.out.size))
    clear hb CC HB2
    go_wp2_with fail
    refine (CD.out _ HB3.out).mono ?_
    rintro e w4 ⟨rfl, hb⟩
    have HB4 := Lib.hid (HB3.out.trans (hb.mono HB3.out.size))
    clear hb CD HB3
    go_wp2_with fail
    refine (CO.out _ HB4.out).mono ?_
    rintro e w5 ⟨rfl, hb⟩
    have hB5 := HB4.out.trans (hb.mono HB4.out.size)
    obtain ⟨w6, hw6⟩ : ∃ w6, w6 = w5.alloc (.cells #[.int .i64 (x.length : Int), .int .i64 (ssum x), .int .i64 (ssq x)] 24) := ⟨_, rfl⟩
    have HM6 : Hid (MB w6 w5.heap.size x.length (ssum x) (ssq x)) := by rw [hw6]; exact mb_new _ _ _ _
    have HB6 : Hid (Below w.heap.size w w6) := by rw [hw6]; exact hB5.alloc hB5.size _
    subst hw6
    clear hb hB5 CO HB4
    go_wp2_with fail
    refine (CQ.out _ HB6.out).mono ?_
    rintro e w7 ⟨rfl, hb⟩
    have hB7 := HB6.out.trans (hb.mono HB6.out.size)
    have hM7 := HM6.out.later hb
    obtain ⟨w8, hw8⟩ : ∃ w8, w8 = w7.alloc (.cells #[.int .i64 (y.length : Int), .int .i64 (ssum y), .int .i64 (ssq y)] 24) := ⟨_, rfl⟩
    have HN8 : Hid (MB w8 w7.heap.size y.length (ssum y) (ssq y)) := by rw [hw8]; exact mb_new _ _ _ _
    have hal : Below w7.heap.size w7 w8 := by rw [hw8]; exact (Below.refl _ _).alloc (Nat.le_refl _) _
    have HM8 := Lib.hid (hM7.later hal)
    have HB8 := Lib.hid (hB7.trans (hal.mono hB7.size))
    have c0 := HM8.out.c0
    have c1 := HM8.out.c1
    have c2 := HM8.out.c2
    subst hw8
    clear hb hB7 hal hM7 CQ HB6 HM6
    go_wp2_with fail
    refine (CS.out _).mono ?_
    rintro e w9 ⟨rfl, hb⟩
    have HB9 := Lib.hid (HB8.out.trans (hb.mono HB8.out.size))
    have HN9 := Lib.hid (HN8.out.later hb)
    have d0 := HN9.out.c0
    have d1 := HN9.out.c1
    have d2 := HN9.out.c2
    clear hb CS HB8 HN8 HM8 c0 c1 c2
    go_wp2_with fail
    refine (CT.out _).mono ?_
    rintro e wa ⟨rfl, hb⟩
    have HBa := Lib.hid (HB9.out.trans (hb.mono HB9.out.size))
    clear hb CT HB9 HN9 d0 d1 d2
    by_cases hm : 1073741824 < max s u
    · go_wp2
      go_ret
      exact ⟨rfl, HBa.out⟩
    · have hs : s ≤ 1073741824 ∧ u ≤ 1073741824 := by omega
      have hsu := abs_mul_bd (a := s) (b := u) (A := 1073741824) (B := 1073741824) (by omega) (by omega) (by omega) (by omega)
      have hcc := HC.out
      have hc0 := sqn c
      have e1 : IntKind.i64.wrap (c * c) = c * c := IntWalk.i64_in _ (by omega)
      have e2 : IntKind.i64.wrap (s * u) = s * u := IntWalk.i64_in _ (by omega)
      go_wp2
      go_ret
      exact ⟨rfl, HBa.out⟩
  · obtain ⟨e0, he0, hE⟩ := bothT_bad h
    obtain ⟨b1, e1, hE1⟩ := bothT_ex y x
    obtain ⟨b2, e2, hE2⟩ := bothT_ex x x
    rw [hE] at CB
    rw [hE1] at CC
    rw [hE2] at CD
    have t0 : (e0 != 0) = true := by rw [bne_iff_ne]; exact he0
    clear h hE hE1 hE2 he0
    go_wp2_with fail
    refine CB.out.mono ?_
    rintro e w2 ⟨rfl, hb⟩
    have HB2 := Lib.hid (HB1.out.trans (hb.mono HB1.out.size))
    clear hb CB HB1
    go_wp2_with fail
    refine (CC.out _ HB2.out).mono ?_
    rintro e w3 ⟨rfl, hb⟩
    have HB3 := Lib.hid (HB2.out.trans (hb.mono HB2.out.size))
    clear hb CC HB2
    go_wp2_with fail
    refine (CD.out _ HB3.out).mono ?_
    rintro e w4 ⟨rfl, hb⟩
    have HB4 := Lib.hid (HB3.out.trans (hb.mono HB3.out.size))
    clear hb CD HB3
    go_wp2
    go_ret
    exact ⟨rfl, HB4.out⟩
end Go.Proofs.Ytclfimpcacoefaa
