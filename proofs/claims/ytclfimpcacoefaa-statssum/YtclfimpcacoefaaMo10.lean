/- lotdrawerref.PRight. -/
import Derived.Test.YtclfimpcacoefaaMo1
import Derived.Test.YtclfimpcacoefaaNsg
import Derived.Deep.QuietTactic
import Derived.BigQuiet
import Derived.WalkSmall
namespace Go.Proofs.Ytclfimpcacoefaa
open Go.RowKit Go.Deep

theorem sz64 {z : Int} (h1 : -(2 : Int) ^ 200 ≤ z) (h2 : z ≤ (2 : Int) ^ 200) : z.natAbs < Bh ^ 400000 := by
  have h : z.natAbs < Bh ^ 8 := by
    have e : Bh ^ 8 = 2 ^ 256 := by decide +kernel
    rw [e]
    have e1 : (2 : Int) ^ 200 = 1606938044258990275541962092341162602522202993782792835301376 := by decide +kernel
    have e2 : 2 ^ 256 = 115792089237316195423570985008687907853269984665640564039457584007913129639936 := by decide +kernel
    rw [e1] at h1 h2
    rw [e2]; omega
  exact pow_up (a := 8) (b := 400000) h (by decide)
theorem sz64u {z : Int} (h1 : -(2 : Int) ^ 200 ≤ z) (h2 : z ≤ (2 : Int) ^ 200) : z.natAbs < Bh ^ 900000 := small_up (sz64 h1 h2)
theorem sz64s {z : Int} (h1 : -(2 : Int) ^ 200 ≤ z) (h2 : z ≤ (2 : Int) ^ 200) : z.natAbs < Bh ^ 100000 := by
  have h : z.natAbs < Bh ^ 8 := by
    have e : Bh ^ 8 = 2 ^ 256 := by decide +kernel
    rw [e]
    have e1 : (2 : Int) ^ 200 = 1606938044258990275541962092341162602522202993782792835301376 := by decide +kernel
    have e2 : 2 ^ 256 = 115792089237316195423570985008687907853269984665640564039457584007913129639936 := by decide +kernel
    rw [e1] at h1 h2
    rw [e2]; omega
  exact pow_up (a := 8) (b := 100000) h (by decide)
theorem p200 : (2 : Int) ^ 200 = 1606938044258990275541962092341162602522202993782792835301376 := by decide +kernel
theorem word_bd {z : Int} (h1 : -9223372036854775808 ≤ z) (h2 : z ≤ 9223372036854775807) : -(2 : Int) ^ 200 ≤ z ∧ z ≤ (2 : Int) ^ 200 := by rw [p200]; omega
theorem prod_bd {x y : Int} (h1 : -9223372036854775808 ≤ x) (h2 : x ≤ 9223372036854775807) (h3 : -9223372036854775808 ≤ y) (h4 : y ≤ 9223372036854775807) : -(2 : Int) ^ 200 ≤ x * y ∧ x * y ≤ (2 : Int) ^ 200 := by
  have := abs_mul_bd (a := x) (b := y) (A := 9223372036854775808) (B := 9223372036854775808) (by omega) (by omega) (by omega) (by omega)
  rw [p200]; omega
theorem ord_gt0 {x y : Nat} : decide ((0 : Int) < ord x y) = decide (y < x) := by
  unfold ord
  by_cases h : x < y
  · rw [if_pos h, decide_eq_false (show ¬ y < x by omega)]; rfl
  · by_cases h2 : y < x
    · rw [if_neg h, if_pos h2, decide_eq_true h2]; rfl
    · rw [if_neg h, if_neg h2, decide_eq_false h2]; rfl
theorem ordI_gt {x y : Int} : decide ((0 : Int) < ordI x y) = decide (y < x) := by
  unfold ordI
  by_cases h : x < y
  · rw [if_pos h, decide_eq_false (show ¬ y < x by omega)]; rfl
  · by_cases h2 : y < x
    · rw [if_neg h, if_pos h2, decide_eq_true h2]; rfl
    · rw [if_neg h, if_neg h2, decide_eq_false h2]; rfl
theorem ordI_le {x y : Int} : decide (ordI x y ≤ 0) = decide (x ≤ y) := by
  unfold ordI
  by_cases h : x < y
  · rw [if_pos h, decide_eq_true (show x ≤ y by omega)]; rfl
  · by_cases h2 : y < x
    · rw [if_neg h, if_pos h2, decide_eq_false (show ¬ x ≤ y by omega)]; rfl
    · rw [if_neg h, if_neg h2, decide_eq_true (show x ≤ y by omega)]; rfl
theorem sign_lt {z : Int} : decide (z.sign < 0) = decide (z < 0) := by
  apply decide_eq_decide.2
  exact Int.sign_neg_iff

theorem lsh20 (bx : Nat) (X : Int) (w : World) (hx : IsI w bx X) (h1 : 0 ≤ X) (h2 : X ≤ 1024) :
    Calls Try.prog 27 #[.pointer (some ⟨w.heap.size, 0, none⟩), .pointer (some ⟨bx, 0, none⟩), .int .u64 20] (w.alloc (.cells #[.bool false, .slice none 0 0] 51)) fun e w' => e = .returned (.pointer (some ⟨w.heap.size, 0, none⟩)) ∧ IsI w' w.heap.size (X * 1048576) ∧ Below w.heap.size w w' := by
  have := newLsh bx 20 X w hx (sz64 (word_bd (by omega) (by omega)).1 (word_bd (by omega) (by omega)).2) (by decide)
  exact this
theorem lsh40 (bx : Nat) (X : Int) (w : World) (hx : IsI w bx X) (h1 : 0 ≤ X) (h2 : X ≤ 1024) :
    Calls Try.prog 27 #[.pointer (some ⟨w.heap.size, 0, none⟩), .pointer (some ⟨bx, 0, none⟩), .int .u64 40] (w.alloc (.cells #[.bool false, .slice none 0 0] 51)) fun e w' => e = .returned (.pointer (some ⟨w.heap.size, 0, none⟩)) ∧ IsI w' w.heap.size (X * 1099511627776) ∧ Below w.heap.size w w' := by
  have := newLsh bx 40 X w hx (sz64 (word_bd (by omega) (by omega)).1 (word_bd (by omega) (by omega)).2) (by decide)
  exact this

set_option maxRecDepth 100000 in
set_option maxHeartbeats 4000000 in
theorem pright_any (n s q : Int) (w : World) (hs1 : -9223372036854775808 ≤ s) (hs2 : s ≤ 9223372036854775807) (hq1 : -9223372036854775808 ≤ q) (hq2 : q ≤ 9223372036854775807) :
    Calls Try.prog 15 #[.agg #[.int .i64 n, .int .i64 s, .int .i64 q]] w fun e w' => e = .returned (.bool (rtM n s q)) ∧ Below w.heap.size w w' := by
  have HB0 : Hid (Below w.heap.size w (w.alloc (.cells #[.int .i64 n, .int .i64 s, .int .i64 q] 24))) := (Below.refl _ _).alloc (Nat.le_refl _) _
  by_cases h1 : n < 0
  · have R : Hid (rtM n s q = false) := rtM_no (fun h => by have := h.1; omega)
    go_enter Try.func15, Try.ntmps15
    go_wp2
    go_ret
    exact ⟨by rw [R.out]; rfl, HB0.out⟩
  by_cases h2 : 1024 < n
  · have R : Hid (rtM n s q = false) := rtM_no (fun h => by have := h.2.1; omega)
    go_enter Try.func15, Try.ntmps15
    go_wp2
    go_ret
    exact ⟨by rw [R.out]; rfl, HB0.out⟩
  have CN := Lib.hid (fun wx => newZ n wx (by omega) (by omega))
  have CS := Lib.hid (fun wx => newZ s wx hs1 hs2)
  have CQ := Lib.hid (fun wx => newZ q wx hq1 hq2)
  have SN := Lib.hid (word_bd (z := n) (by omega) (by omega))
  have SS := Lib.hid (word_bd hs1 hs2)
  have SQ := Lib.hid (word_bd hq1 hq2)
  have SSS := Lib.hid (prod_bd hs1 hs2 hs1 hs2)
  have SNQ := Lib.hid (prod_bd (x := n) (y := q) (by omega) (by omega) hq1 hq2)
  have SM := Lib.hid (word_bd (z := n * 1048576) (by omega) (by omega))
  have SK := Lib.hid (word_bd (z := n * 1099511627776) (by omega) (by omega))
  have SD : Hid (-(2 : Int) ^ 200 ≤ s - q ∧ s - q ≤ (2 : Int) ^ 200) := by show _ ∧ _; rw [p200]; omega
  have hm0 := mb_new w n s q
  obtain ⟨w0, hw0⟩ : ∃ w0, w0 = w.alloc (.cells #[.int .i64 n, .int .i64 s, .int .i64 q] 24) := ⟨_, rfl⟩
  have hsz : w0.heap.size = w.heap.size + 1 := by rw [hw0]; simp
  have HM : Hid (∀ wx, Below w0.heap.size w0 wx → wx.cell? ⟨w.heap.size, 0, none⟩ = some (.int .i64 n) ∧ wx.cell? ⟨w.heap.size, 1, none⟩ = some (.int .i64 s) ∧ wx.cell? ⟨w.heap.size, 2, none⟩ = some (.int .i64 q)) := fun wx hb => by
    have hm : MB w0 w.heap.size n s q := by rw [hw0]; exact hm0
    have := hm.below hb (by omega)
    exact ⟨this.c0, this.c1, this.c2⟩
  rw [← hw0] at HB0
  have HD0 := Lib.hid (Below.refl w0.heap.size w0).drew
  subst hw0
  clear hm0
  go_enter Try.func15, Try.ntmps15
  go_wp2_with fail
  go_region_held3 (fun w' => w'.cell? ⟨w.heap.size, 0, none⟩ = some (.int .i64 n) ∧ w'.cell? ⟨w.heap.size, 1, none⟩ = some (.int .i64 s) ∧ w'.cell? ⟨w.heap.size, 2, none⟩ = some (.int .i64 q)) (go_keep)
    (first
      | (go_at_call 26; refine (CN.out _).mono ?_; rintro e w2 ⟨rfl, hi2, hb2⟩; have HB2 := Lib.hid (HD0.out.trans (hb2.mono HD0.out.size)); have HI2 := Lib.hid hi2; have f := HM.out _ HB2.out; have f0 := f.1; have f1 := f.2.1; have f2 := f.2.2; clear f hi2 hb2)
      | (go_at_call 26; refine (CS.out _).mono ?_; rintro e w3 ⟨rfl, hi3, hb3⟩; have HB3 := Lib.hid (HB2.out.trans (hb3.mono HB2.out.size)); have HI3 := Lib.hid hi3; have HN3 := Lib.hid (HI2.out.below hb3); have f := HM.out _ HB3.out; have g0 := f.1; have g1 := f.2.1; have g2 := f.2.2; clear f hi3 hb3)
      | (go_at_call 26; refine (CQ.out _).mono ?_; rintro e w4 ⟨rfl, hi4, hb4⟩; have HB4 := Lib.hid (HB3.out.trans (hb4.mono HB3.out.size)); have HI4 := Lib.hid hi4; have HN4 := Lib.hid (HN3.out.below hb4); have HS4 := Lib.hid (HI3.out.below hb4); have f := HM.out _ HB4.out; have h0 := f.1; have h01 := f.2.1; have h02 := f.2.2; clear f hi4 hb4))
  have B4 : Hid (Below w.heap.size w w4) := HB0.out.trans (HB4.out.mono HB0.out.size)
  have IN : Hid (IsI w4 (w.heap.size + 1) n) := Lib.hid (by have := HN4.out; simpa using this)
  obtain ⟨gS, hgS⟩ : ∃ gS, gS = w2.heap.size := ⟨_, rfl⟩
  obtain ⟨gQ, hgQ⟩ : ∃ gQ, gQ = w3.heap.size := ⟨_, rfl⟩
  have IS : Hid (IsI w4 gS s) := by rw [hgS]; exact HS4.out
  have IQ : Hid (IsI w4 gQ q) := by rw [hgQ]; exact HI4.out
  rw [← hgS, ← hgQ]
  have CL := Lib.hid (lsh20 (w.heap.size + 1) n w4 IN.out (by omega) (by omega))
  clear hgS hgQ HN4 HS4 HI4 HB4 HB3 HB2 HI2 HI3 HN3 f0 f1 f2 g0 g1 g2 h0 h01 h02 CN CS CQ HM HD0 HB0
  go_wp2_with fail
  refine CL.out.mono ?_
  rintro e w5 ⟨rfl, hi5, hb5⟩
  have B5 := Lib.hid (B4.out.trans (hb5.mono B4.out.size))
  have IN5 := Lib.hid (IN.out.below hb5)
  have IS5 := Lib.hid (IS.out.below hb5)
  have IQ5 := Lib.hid (IQ.out.below hb5)
  have IM5 := Lib.hid hi5
  have CC := Lib.hid (icmpAbs_any gS w4.heap.size s (n * 1048576) w5 IS5.out IM5.out (sz64u SS.out.1 SS.out.2) (sz64u SM.out.1 SM.out.2))
  obtain ⟨gM, hgM⟩ : ∃ gM, gM = w4.heap.size := ⟨_, rfl⟩
  rw [← hgM] at CC ⊢
  clear hi5 hb5 CL B4 IN IS IQ hgM IM5
  go_wp2_with fail
  refine CC.out.mono ?_
  rintro e w6 ⟨rfl, hb6⟩
  have B6 := Lib.hid (B5.out.trans (hb6.mono B5.out.size))
  have IN6 := Lib.hid (IN5.out.below hb6)
  have IS6 := Lib.hid (IS5.out.below hb6)
  have IQ6 := Lib.hid (IQ5.out.below hb6)
  clear hb6 CC B5 IN5 IS5 IQ5
  have EO := ord_gt0 (x := s.natAbs) (y := (n * 1048576).natAbs)
  by_cases hA : (n * 1048576).natAbs < s.natAbs
  · have R : Hid (rtM n s q = false) := rtM_no (fun h => by have := h.2.2.1; have := h.2.2.2.1; omega)
    rw [decide_eq_true hA] at EO
    clear hA
    generalize ord s.natAbs (n * 1048576).natAbs = o at *
    go_wp2
    go_ret
    exact ⟨by rw [R.out]; rfl, B6.out⟩
  rw [decide_eq_false hA] at EO
  have HA : Hid (-(n * 1048576) ≤ s ∧ s ≤ n * 1048576) := by show _ ∧ _; omega
  clear hA
  generalize ord s.natAbs (n * 1048576).natAbs = o at *
  have CG := Lib.hid (isign_any gQ q w6 IQ6.out (sz64s SQ.out.1 SQ.out.2))
  go_wp2_with fail
  refine CG.out.mono ?_
  rintro e w7 ⟨rfl, rfl⟩
  clear CG
  have EG := sign_lt (z := q)
  by_cases hQ : q < 0
  · have R : Hid (rtM n s q = false) := rtM_no (fun h => by have := h.2.2.2.2.1; omega)
    rw [decide_eq_true hQ] at EG
    clear hQ
    generalize q.sign = o2 at *
    go_wp2
    go_ret
    exact ⟨by rw [R.out]; rfl, B6.out⟩
  rw [decide_eq_false hQ] at EG
  have HQ : Hid (0 ≤ q) := by show _ ≤ _; omega
  clear hQ
  generalize q.sign = o2 at *
  have CL := Lib.hid (lsh40 (w.heap.size + 1) n w6 IN6.out (by omega) (by omega))
  go_wp2_with fail
  refine CL.out.mono ?_
  rintro e w8 ⟨rfl, hi8, hb8⟩
  have B8 := Lib.hid (B6.out.trans (hb8.mono B6.out.size))
  have IN8 := Lib.hid (IN6.out.below hb8)
  have IS8 := Lib.hid (IS6.out.below hb8)
  have IQ8 := Lib.hid (IQ6.out.below hb8)
  have CC := Lib.hid (icmp_any gQ w6.heap.size q (n * 1099511627776) w8 IQ8.out hi8 (sz64u SQ.out.1 SQ.out.2) (sz64u SK.out.1 SK.out.2))
  obtain ⟨gK, hgK⟩ : ∃ gK, gK = w6.heap.size := ⟨_, rfl⟩
  rw [← hgK] at CC ⊢
  clear hi8 hb8 CL B6 IN6 IS6 IQ6 hgK
  go_wp2_with fail
  refine CC.out.mono ?_
  rintro e w9 ⟨rfl, hb9⟩
  have B9 := Lib.hid (B8.out.trans (hb9.mono B8.out.size))
  have IN9 := Lib.hid (IN8.out.below hb9)
  have IS9 := Lib.hid (IS8.out.below hb9)
  have IQ9 := Lib.hid (IQ8.out.below hb9)
  clear hb9 CC B8 IN8 IS8 IQ8
  have EK := ordI_gt (x := q) (y := n * 1099511627776)
  by_cases hK : n * 1099511627776 < q
  · have R : Hid (rtM n s q = false) := rtM_no (fun h => by have := h.2.2.2.2.2.1; omega)
    rw [decide_eq_true hK] at EK
    clear hK
    generalize ordI q (n * 1099511627776) = o3 at *
    go_wp2
    go_ret
    exact ⟨by rw [R.out]; rfl, B9.out⟩
  rw [decide_eq_false hK] at EK
  have HK : Hid (q ≤ n * 1099511627776) := by show _ ≤ _; omega
  clear hK
  generalize ordI q (n * 1099511627776) = o3 at *
  have R : Hid (rtM n s q = (decide (s * s ≤ n * q) && decide ((s - q) % 2 = 0))) := by
    show rtM n s q = _
    unfold rtM
    rw [← Bool.decide_and]
    apply decide_eq_decide.2
    unfold RtM
    exact ⟨fun h => h.2.2.2.2.2.2, fun h => ⟨by omega, by omega, HA.out.1, HA.out.2, HQ.out, HK.out, h.1, h.2⟩⟩
  have CD := Lib.hid (newSub gS gQ s q w9 IS9.out IQ9.out (sz64u SS.out.1 SS.out.2) (sz64u SQ.out.1 SQ.out.2))
  go_wp2_with fail
  refine CD.out.mono ?_
  rintro e wA ⟨rfl, hiA, hbA⟩
  have BA := Lib.hid (B9.out.trans (hbA.mono B9.out.size))
  have INA := Lib.hid (IN9.out.below hbA)
  have ISA := Lib.hid (IS9.out.below hbA)
  have IQA := Lib.hid (IQ9.out.below hbA)
  obtain ⟨gD, hgD⟩ : ∃ gD, gD = w9.heap.size := ⟨_, rfl⟩
  rw [← hgD] at hiA ⊢
  have IDA := Lib.hid hiA
  clear hiA hbA CD B9 IN9 IS9 IQ9 hgD
  have CM := Lib.hid (newMul gS gS s s wA ISA.out ISA.out (sz64 SS.out.1 SS.out.2) (sz64 SS.out.1 SS.out.2))
  go_wp2_with fail
  refine CM.out.mono ?_
  rintro e wB ⟨rfl, hiB, hbB⟩
  have BB := Lib.hid (BA.out.trans (hbB.mono BA.out.size))
  have INB := Lib.hid (INA.out.below hbB)
  have IQB := Lib.hid (IQA.out.below hbB)
  have IDB := Lib.hid (IDA.out.below hbB)
  obtain ⟨gX, hgX⟩ : ∃ gX, gX = wA.heap.size := ⟨_, rfl⟩
  rw [← hgX] at hiB ⊢
  have IXB := Lib.hid hiB
  clear hiB hbB CM BA INA ISA IQA IDA hgX
  have CM := Lib.hid (newMul (w.heap.size + 1) gQ n q wB INB.out IQB.out (sz64 SN.out.1 SN.out.2) (sz64 SQ.out.1 SQ.out.2))
  go_wp2_with fail
  refine CM.out.mono ?_
  rintro e wC ⟨rfl, hiC, hbC⟩
  have BC := Lib.hid (BB.out.trans (hbC.mono BB.out.size))
  have IDC := Lib.hid (IDB.out.below hbC)
  have IXC := Lib.hid (IXB.out.below hbC)
  have CC := Lib.hid (icmp_any gX wB.heap.size (s * s) (n * q) wC IXC.out hiC (sz64u SSS.out.1 SSS.out.2) (sz64u SNQ.out.1 SNQ.out.2))
  obtain ⟨gY, hgY⟩ : ∃ gY, gY = wB.heap.size := ⟨_, rfl⟩
  rw [← hgY] at CC ⊢
  clear hiC hbC CM BB INB IQB IDB IXB hgY
  go_wp2_with fail
  refine CC.out.mono ?_
  rintro e wD ⟨rfl, hbD⟩
  have BD := Lib.hid (BC.out.trans (hbD.mono BC.out.size))
  have IDD := Lib.hid (IDC.out.below hbD)
  clear hbD CC BC IXC IDC
  have EL := ordI_le (x := s * s) (y := n * q)
  by_cases hL : s * s ≤ n * q
  · rw [decide_eq_true hL, Bool.true_and] at R
    rw [decide_eq_true hL] at EL
    clear hL
    generalize ordI (s * s) (n * q) = o4 at *
    have CB := Lib.hid (ibit0_any gD (s - q) wD IDD.out (sz64u SD.out.1 SD.out.2))
    have EB : (((s - q) % 2) == 0) = decide ((s - q) % 2 = 0) := by
      by_cases e : (s - q) % 2 = 0
      · rw [decide_eq_true e, e]; rfl
      · rw [decide_eq_false e, beq_eq_false_iff_ne]; exact e
    rw [← EB] at R
    clear EB
    generalize (s - q) % 2 = o5 at *
    go_wp2_with fail
    refine CB.out.mono ?_
    rintro e wE ⟨rfl, hbE⟩
    have BE := Lib.hid (BD.out.trans (hbE.mono BD.out.size))
    clear hbE
    go_wp2
    go_ret
    exact ⟨by rw [R.out]; rfl, BE.out⟩
  · rw [decide_eq_false hL, Bool.false_and] at R
    rw [decide_eq_false hL] at EL
    clear hL
    generalize ordI (s * s) (n * q) = o4 at *
    go_wp2
    go_ret
    exact ⟨by rw [R.out]; rfl, BD.out⟩
end Go.Proofs.Ytclfimpcacoefaa
