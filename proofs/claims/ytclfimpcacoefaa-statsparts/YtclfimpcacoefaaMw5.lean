/- StatsParts' walk. -/
import Derived.Test.YtclfimpcacoefaaMw4
import Derived.Test.YtclfimpcacoefaaMos
namespace Go.Proofs.Ytclfimpcacoefaa
open Go.RowKit Go.Deep

set_option maxRecDepth 100000 in
set_option maxHeartbeats 2000000 in
theorem statsParts_any (A B : Option Addr) (ca cb : Nat) (x y : List Int) (w : World) (hx : IP w A ca x) (hy : IP w B cb y) (hlen : (x.length + y.length) * 8 ≤ 281474976710656) :
    Calls Try.prog 6 #[.slice A x.length ca, .slice B y.length cb] w fun e w' => e = .returned (.bool true) ∧ Below w.heap.size w w' := by
  have CA := Lib.hid (alive16_any w)
  have HX := Lib.hid hx
  have HY := Lib.hid hy
  have hle := hx.le
  have hcap := hx.cap
  have hle2 := hy.le
  have hcap2 := hy.cap
  have CO : Hid (∀ wx, Below w.heap.size w wx → _) := fun wx hb => of_any A ca x wx (HX.out.later hb)
  have CP : Hid (∀ wx, Below w.heap.size w wx → _) := fun wx hb => of_any B cb y wx (HY.out.later hb)
  have CQ := Lib.hid (fun (R : Option Addr) (cr : Nat) (wx : World) (h : IP wx R cr (y ++ x)) => of_any R cr (y ++ x) wx h)
  obtain ⟨n1, s1, q1, e1, E1, O1, P1⟩ := ofT_ex2 x
  obtain ⟨n2, s2, q2, e2, E2, O2, P2⟩ := ofT_ex2 y
  obtain ⟨n3, s3, q3, e3, E3, O3, P3⟩ := ofT_ex2 (y ++ x)
  rw [E1] at CO
  rw [E2] at CP
  rw [E3] at CQ
  have HO := Lib.hid (And.intro O1 (And.intro O2 O3))
  have HP := Lib.hid (And.intro P1 (And.intro P2 P3))
  have LEN := Lib.hid hlen
  clear hx hy E1 E2 E3 O1 O2 O3 P1 P2 P3 hlen
  go_enter Try.func6, Try.ntmps6
  go_wp2_with fail
  refine CA.out.mono ?_
  rintro e w1 ⟨rfl, hb1⟩
  have HB1 := Lib.hid hb1
  clear hb1 CA
  go_wp2_with fail
  refine (CO.out _ HB1.out).mono ?_
  rintro e w2 ⟨rfl, hb⟩
  have hB2 := HB1.out.trans (hb.mono HB1.out.size)
  obtain ⟨w3, hw3⟩ : ∃ w3, w3 = w2.alloc (.cells #[.int .i64 n1, .int .i64 s1, .int .i64 q1] 24) := ⟨_, rfl⟩
  have HM3 : Hid (MB w3 w2.heap.size n1 s1 q1) := by rw [hw3]; exact mb_new _ _ _ _
  have HB3 : Hid (Below w.heap.size w w3) := by rw [hw3]; exact hB2.alloc hB2.size _
  subst hw3
  clear hb hB2 CO HB1
  go_wp2_with fail
  refine (CP.out _ HB3.out).mono ?_
  rintro e w4 ⟨rfl, hb⟩
  have hB4 := HB3.out.trans (hb.mono HB3.out.size)
  have hM4 := HM3.out.later hb
  obtain ⟨w5, hw5⟩ : ∃ w5, w5 = w4.alloc (.cells #[.int .i64 n2, .int .i64 s2, .int .i64 q2] 24) := ⟨_, rfl⟩
  have HN5 : Hid (MB w5 w4.heap.size n2 s2 q2) := by rw [hw5]; exact mb_new _ _ _ _
  have hal : Below w4.heap.size w4 w5 := by rw [hw5]; exact (Below.refl _ _).alloc (Nat.le_refl _) _
  have HM5 := Lib.hid (hM4.later hal)
  have HB5 := Lib.hid (hB4.trans (hal.mono hB4.size))
  obtain ⟨w6, hw6⟩ : ∃ w6, w6 = w5.alloc (.cells #[.slice B y.length cb, .slice A x.length ca] 22) := ⟨_, rfl⟩
  have hG : Bs 22 w6 w5.heap.size [.slice B y.length cb, .slice A x.length ca] := by rw [hw6]; exact heap_alloc_new w5 _
  have hal2 : Below w5.heap.size w5 w6 := by rw [hw6]; exact (Below.refl _ _).alloc (Nat.le_refl _) _
  have hB6 := HB5.out.trans (hal2.mono HB5.out.size)
  have HB6 := Lib.hid hB6
  have HM6 := Lib.hid (HM5.out.later hal2)
  have HN6 := Lib.hid (HN5.out.later hal2)
  have CC := Lib.hid (concat_oi w5.heap.size B A cb ca y x w6 (Bs.lt hG) (Bs.cell hG (j := 0) (by simp)) (Bs.cell hG (j := 1) (by simp)) (HY.out.later hB6) (HX.out.later hB6) (by have := LEN.out; omega))
  have es5 : w5.heap.size = w4.heap.size + 1 := by rw [hw5]; simp
  subst hw6
  rw [es5] at CC
  subst hw5
  clear hb hB4 hM4 hal hG hal2 hB6 CP HB5 HM5 HN5 HB3 HM3 es5
  go_wp2_with fail
  refine CC.out.mono ?_
  rintro e w7 ⟨v, rfl, hO, hb⟩
  obtain ⟨R, cr, rfl, hI⟩ := hO.ip
  have HB7 := Lib.hid (HB6.out.trans (hb.mono HB6.out.size))
  have HM7 := Lib.hid (HM6.out.later hb)
  have HN7 := Lib.hid (HN6.out.later hb)
  have CQ := Lib.hid (CQ.out R cr w7 hI)
  rw [List.length_append] at CQ
  clear hO hb hI CC HB6 HM6 HN6
  go_wp2_with fail
  refine CQ.out.mono ?_
  rintro e w8 ⟨rfl, hb⟩
  have hB8 := HB7.out.trans (hb.mono HB7.out.size)
  have hM8 := HM7.out.later hb
  have hN8 := HN7.out.later hb
  obtain ⟨w9, hw9⟩ : ∃ w9, w9 = w8.alloc (.cells #[.int .i64 n3, .int .i64 s3, .int .i64 q3] 24) := ⟨_, rfl⟩
  have HK9 : Hid (MB w9 w8.heap.size n3 s3 q3) := by rw [hw9]; exact mb_new _ _ _ _
  have hal : Below w8.heap.size w8 w9 := by rw [hw9]; exact (Below.refl _ _).alloc (Nat.le_refl _) _
  have HM9 := Lib.hid (hM8.later hal)
  have HN9 := Lib.hid (hN8.later hal)
  have HB9 := Lib.hid (hB8.trans (hal.mono hB8.size))
  subst hw9
  clear hb hB8 hM8 hN8 hal CQ HB7 HM7 HN7
  by_cases he1 : e1 = 0
  · by_cases he2 : e2 = 0
    · by_cases he3 : e3 = 0
      · have ox := HO.out.1.1 he1
        have oy := HO.out.2.1.1 he2
        have oa := HO.out.2.2.1 he3
        obtain ⟨rfl, rfl, rfl⟩ := HP.out.1 ox
        obtain ⟨rfl, rfl, rfl⟩ := HP.out.2.1 oy
        obtain ⟨h31, h32, h33⟩ := HP.out.2.2 oa
        rw [List.length_append] at h31
        replace h31 : n3 = (x.length : Int) + (y.length : Int) := by omega
        rw [ssum_app'] at h32
        rw [ssq_app'] at h33
        subst h31 h32 h33 he1 he2 he3
        have hlen := (okl_app.1 oa).2.2
        have JT := joinT_ok (okl_rtM ox) (okl_rtM oy) (by omega)
        have CJ := Lib.hid (fun wx => join_any (x.length : Int) (ssum x) (ssq x) (y.length : Int) (ssum y) (ssq y) wx)
        rw [JT] at CJ
        have CSx := Lib.hid (fun wx => spread_any (x.length : Int) (ssum x) (ssq x) wx)
        have CSy := Lib.hid (fun wx => spread_any (y.length : Int) (ssum y) (ssq y) wx)
        have CSa := Lib.hid (fun wx => spread_any ((x.length : Int) + (y.length : Int)) (ssum x + ssum y) (ssq x + ssq y) wx)
        have EA : sprT ((x.length : Int) + (y.length : Int)) (ssum x + ssum y) (ssq x + ssq y) = .tuple #[.int .i64 (spr (y ++ x)), .int .i64 0] := by
          have := okl_spr oa
          rwa [List.length_append, ssum_app', ssq_app', Int.natCast_add, Int.add_comm (y.length : Int)] at this
        rw [okl_spr ox] at CSx
        rw [okl_spr oy] at CSy
        rw [EA] at CSa
        have OA := Lib.hid (And.intro ox (And.intro oy oa))
        have HJ := Lib.hid (spr_join' x y)
        have bx := okl_bd ox
        have by' := okl_bd oy
        clear JT EA ox oy oa HO HP
        have c0 := HM9.out.c0
        have c1 := HM9.out.c1
        have c2 := HM9.out.c2
        have d0 := HN9.out.c0
        have d1 := HN9.out.c1
        have d2 := HN9.out.c2
        go_wp2_with fail
        refine (CJ.out _).mono ?_
        rintro e wa ⟨rfl, hb⟩
        have hBa := HB9.out.trans (hb.mono HB9.out.size)
        have hMa := HM9.out.later hb
        have hNa := HN9.out.later hb
        have hKa := HK9.out.later hb
        obtain ⟨wb, hwb⟩ : ∃ wb, wb = wa.alloc (.cells #[.int .i64 ((x.length : Int) + (y.length : Int)), .int .i64 (ssum x + ssum y), .int .i64 (ssq x + ssq y)] 24) := ⟨_, rfl⟩
        have HDb : Hid (MB wb wa.heap.size ((x.length : Int) + (y.length : Int)) (ssum x + ssum y) (ssq x + ssq y)) := by rw [hwb]; exact mb_new _ _ _ _
        have hal : Below wa.heap.size wa wb := by rw [hwb]; exact (Below.refl _ _).alloc (Nat.le_refl _) _
        have HMb := Lib.hid (hMa.later hal)
        have HNb := Lib.hid (hNa.later hal)
        have HKb := Lib.hid (hKa.later hal)
        have HBb := Lib.hid (hBa.trans (hal.mono hBa.size))
        clear c0 c1 c2 d0 d1 d2 hb hBa hMa hNa hKa hal HM9 HN9 HK9 HB9 CJ
        have c0 := HMb.out.c0
        have c1 := HMb.out.c1
        have c2 := HMb.out.c2
        subst hwb
        go_wp2_with fail
        refine (CSx.out _).mono ?_
        rintro e wc ⟨rfl, hb⟩
        have HMc := Lib.hid (HMb.out.later hb)
        have HNc := Lib.hid (HNb.out.later hb)
        have HKc := Lib.hid (HKb.out.later hb)
        have HDc := Lib.hid (HDb.out.later hb)
        have HBc := Lib.hid (HBb.out.trans (hb.mono HBb.out.size))
        clear c0 c1 c2 hb HMb HNb HKb HDb HBb CSx
        have c0 := HNc.out.c0
        have c1 := HNc.out.c1
        have c2 := HNc.out.c2
        go_wp2_with fail
        refine (CSy.out _).mono ?_
        rintro e wd ⟨rfl, hb⟩
        have HMd := Lib.hid (HMc.out.later hb)
        have HNd := Lib.hid (HNc.out.later hb)
        have HKd := Lib.hid (HKc.out.later hb)
        have HDd := Lib.hid (HDc.out.later hb)
        have HBd := Lib.hid (HBc.out.trans (hb.mono HBc.out.size))
        clear c0 c1 c2 hb HMc HNc HKc HDc HBc CSy
        have c0 := HDd.out.c0
        have c1 := HDd.out.c1
        have c2 := HDd.out.c2
        go_wp2_with fail
        refine (CSa.out _).mono ?_
        rintro e we ⟨rfl, hb⟩
        have HMe := Lib.hid (HMd.out.later hb)
        have HNe := Lib.hid (HNd.out.later hb)
        have HKe := Lib.hid (HKd.out.later hb)
        have HDe := Lib.hid (HDd.out.later hb)
        have HBe := Lib.hid (HBd.out.trans (hb.mono HBd.out.size))
        clear c0 c1 c2 hb HMd HNd HKd HDd HBd CSa
        have c0 := HDe.out.c0
        have c1 := HDe.out.c1
        have c2 := HDe.out.c2
        have d0 := HKe.out.c0
        have d1 := HKe.out.c1
        have d2 := HKe.out.c2
        have f1 := HMe.out.c1
        have g1 := HNe.out.c1
        clear HMe HNe HKe HDe
        by_cases h30 : 30 < max (x.length : Int) (y.length : Int)
        · go_wp2
          go_ret
          exact ⟨rfl, HBe.out⟩
        have hx30 : (x.length : Int) ≤ 30 := by omega
        have hy30 : (y.length : Int) ≤ 30 := by omega
        have m1 := abs_mul_bd (a := ssum x) (b := (y.length : Int)) (A := 419430400) (B := 30) (by omega) (by omega) (by omega) (by omega)
        have m2 := abs_mul_bd (a := ssum y) (b := (x.length : Int)) (A := 419430400) (B := 30) (by omega) (by omega) (by omega) (by omega)
        have BX := Lib.hid (spr_le2 OA.out.1 (n := 30) hx30 (by decide))
        have BY := Lib.hid (spr_le2 OA.out.2.1 (n := 30) hy30 (by decide))
        have BA := Lib.hid (spr_le2 OA.out.2.2 (n := 60) (by rw [List.length_append]; omega) (by decide))
        by_cases hp0 : x.length = 0
        · have E : Hid (spr (y ++ x) = spr x + spr y) := by
            show _ = _
            obtain rfl : x = [] := List.eq_nil_of_length_eq_zero hp0
            rw [List.append_nil]; simp [spr, ssq, ssum]
          have t0 : ((x.length : Int) == 0) = true := by rw [hp0]; rfl
          rw [E.out] at BA ⊢
          have b1 := BX.out
          have b2 := BY.out
          clear HJ OA hp0 E BX BY BA
          generalize spr x = s at *
          generalize spr y = u at *
          generalize ssum x = S at *
          generalize ssum y = T at *
          have k1 : IntKind.i64.wrap (S * (y.length : Int)) = S * (y.length : Int) := IntWalk.i64_in _ (by omega)
          have k2 : IntKind.i64.wrap (T * (x.length : Int)) = T * (x.length : Int) := IntWalk.i64_in _ (by omega)
          have k3 : IntKind.i64.wrap (S * (y.length : Int) - T * (x.length : Int)) = S * (y.length : Int) - T * (x.length : Int) := IntWalk.i64_in _ (by omega)
          go_wp2
          go_ret
          exact ⟨rfl, HBe.out⟩
        have t0 : ((x.length : Int) == 0) = false := eqz_no hp0
        by_cases hq0 : y.length = 0
        · have E : Hid (spr (y ++ x) = spr x + spr y) := by
            show _ = _
            obtain rfl : y = [] := List.eq_nil_of_length_eq_zero hq0
            rw [List.nil_append]; simp [spr, ssq, ssum]
          have t1 : ((y.length : Int) == 0) = true := by rw [hq0]; rfl
          rw [E.out] at BA ⊢
          have b1 := BX.out
          have b2 := BY.out
          clear HJ OA hp0 hq0 E BX BY BA
          generalize spr x = s at *
          generalize spr y = u at *
          generalize ssum x = S at *
          generalize ssum y = T at *
          have k1 : IntKind.i64.wrap (S * (y.length : Int)) = S * (y.length : Int) := IntWalk.i64_in _ (by omega)
          have k2 : IntKind.i64.wrap (T * (x.length : Int)) = T * (x.length : Int) := IntWalk.i64_in _ (by omega)
          have k3 : IntKind.i64.wrap (S * (y.length : Int) - T * (x.length : Int)) = S * (y.length : Int) - T * (x.length : Int) := IntWalk.i64_in _ (by omega)
          go_wp2
          go_ret
          exact ⟨rfl, HBe.out⟩
        have t1 : ((y.length : Int) == 0) = false := eqz_no hq0
        have bX := BX.out
        have bY := BY.out
        have bA := BA.out
        have hj := HJ.out
        clear HJ OA hp0 hq0 BX BY BA
        generalize spr (y ++ x) = v at *
        generalize spr x = s at *
        generalize spr y = u at *
        generalize ssum x = S at *
        generalize ssum y = T at *
        have k1 : IntKind.i64.wrap (S * (y.length : Int)) = S * (y.length : Int) := IntWalk.i64_in _ (by omega)
        have k2 : IntKind.i64.wrap (T * (x.length : Int)) = T * (x.length : Int) := IntWalk.i64_in _ (by omega)
        have k3 : IntKind.i64.wrap (S * (y.length : Int) - T * (x.length : Int)) = S * (y.length : Int) - T * (x.length : Int) := IntWalk.i64_in _ (by omega)
        have hpn : 0 ≤ (x.length : Int) := by omega
        have hrn : 0 ≤ (y.length : Int) := by omega
        have hmx := fun (w : World) (ts : Array TypeId) (t : TypeId) => run_max4 w ts t S (-S) T (-T)
        by_cases hbig : 1048576 < max4 S (-S) T (-T)
        · clear bX bY bA hj
          go_wp2
          go_ret
          exact ⟨rfl, HBe.out⟩
        have bS : -1048576 ≤ S ∧ S ≤ 1048576 := by unfold max4 at hbig; omega
        have bT : -1048576 ≤ T ∧ T ≤ 1048576 := by unfold max4 at hbig; omega
        have n1 := abs_mul_bd (a := S) (b := (y.length : Int)) (A := 1048576) (B := 30) (by omega) (by omega) (by omega) (by omega)
        have n2 := abs_mul_bd (a := T) (b := (x.length : Int)) (A := 1048576) (B := 30) (by omega) (by omega) (by omega) (by omega)
        have n3 := abs_mul_bd (a := (x.length : Int)) (b := (y.length : Int)) (A := 30) (B := 30) (by omega) (by omega) (by omega) (by omega)
        have n4 := abs_mul_bd (a := (x.length : Int) * (y.length : Int)) (b := v) (A := 900) (B := 3958241859993600) (by omega) (by omega) (by omega) (by omega)
        have n5 := abs_mul_bd (a := (y.length : Int)) (b := s) (A := 30) (B := 989560464998400) (by omega) (by omega) (by omega) (by omega)
        have n6 := abs_mul_bd (a := (x.length : Int)) (b := u) (A := 30) (B := 989560464998400) (by omega) (by omega) (by omega) (by omega)
        have n7 := abs_mul_bd (a := (x.length : Int) + (y.length : Int)) (b := (y.length : Int) * s + (x.length : Int) * u) (A := 60) (B := 59373627899904000) (by omega) (by omega) (by omega) (by omega)
        have n8 := abs_mul_bd (a := S * (y.length : Int) - T * (x.length : Int)) (b := S * (y.length : Int) - T * (x.length : Int)) (A := 62914560) (B := 62914560) (by omega) (by omega) (by omega) (by omega)
        have k4 : IntKind.i64.wrap ((x.length : Int) * (y.length : Int)) = (x.length : Int) * (y.length : Int) := IntWalk.i64_in _ (by omega)
        have k5 : IntKind.i64.wrap ((x.length : Int) * (y.length : Int) * v) = (x.length : Int) * (y.length : Int) * v := IntWalk.i64_in _ (by omega)
        have k6 : IntKind.i64.wrap ((y.length : Int) * s) = (y.length : Int) * s := IntWalk.i64_in _ (by omega)
        have k7 : IntKind.i64.wrap ((x.length : Int) * u) = (x.length : Int) * u := IntWalk.i64_in _ (by omega)
        have k8 : IntKind.i64.wrap ((y.length : Int) * s + (x.length : Int) * u) = (y.length : Int) * s + (x.length : Int) * u := IntWalk.i64_in _ (by omega)
        have k9 : IntKind.i64.wrap (((x.length : Int) + (y.length : Int)) * ((y.length : Int) * s + (x.length : Int) * u)) = ((x.length : Int) + (y.length : Int)) * ((y.length : Int) * s + (x.length : Int) * u) := IntWalk.i64_in _ (by omega)
        have ka : IntKind.i64.wrap ((S * (y.length : Int) - T * (x.length : Int)) * (S * (y.length : Int) - T * (x.length : Int))) = (S * (y.length : Int) - T * (x.length : Int)) * (S * (y.length : Int) - T * (x.length : Int)) := IntWalk.i64_in _ (by omega)
        have kb : IntKind.i64.wrap (((x.length : Int) + (y.length : Int)) * ((y.length : Int) * s + (x.length : Int) * u) + (S * (y.length : Int) - T * (x.length : Int)) * (S * (y.length : Int) - T * (x.length : Int))) = ((x.length : Int) + (y.length : Int)) * ((y.length : Int) * s + (x.length : Int) * u) + (S * (y.length : Int) - T * (x.length : Int)) * (S * (y.length : Int) - T * (x.length : Int)) := IntWalk.i64_in _ (by omega)
        have kc : ((x.length : Int) * (y.length : Int) * v == ((x.length : Int) + (y.length : Int)) * ((y.length : Int) * s + (x.length : Int) * u) + (S * (y.length : Int) - T * (x.length : Int)) * (S * (y.length : Int) - T * (x.length : Int))) = true := by rw [hj]; exact beq_self_eq_true _
        have HKC := Lib.hid kc
        clear n4 n5 n6 n7 n8 hj bX bY bA m1 m2
        go_wp2
        go_ret
        exact ⟨by simp [HKC.out], HBe.out⟩
      · have t1 : (e1 != 0) = false := by rw [he1]; rfl
        have t2 : (e2 != 0) = false := by rw [he2]; rfl
        have t3 : (e3 != 0) = true := by rw [bne_iff_ne]; exact he3
        clear he1 he2 he3
        go_wp2
        go_ret
        exact ⟨rfl, HB9.out⟩
    · have t1 : (e1 != 0) = false := by rw [he1]; rfl
      have t2 : (e2 != 0) = true := by rw [bne_iff_ne]; exact he2
      clear he1 he2
      go_wp2
      go_ret
      exact ⟨rfl, HB9.out⟩
  · have t1 : (e1 != 0) = true := by rw [bne_iff_ne]; exact he1
    clear he1
    go_wp2
    go_ret
    exact ⟨rfl, HB9.out⟩
end Go.Proofs.Ytclfimpcacoefaa
