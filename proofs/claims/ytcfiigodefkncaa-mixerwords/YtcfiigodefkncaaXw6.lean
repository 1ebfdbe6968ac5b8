/- lotdrawerlaw.MixerWords: the walk. -/
import Derived.Test.YtcfiigodefkncaaXr3
import Derived.Test.YtcfiigodefkncaaXs7
import Derived.Test.YtcfiigodefkncaaU5
namespace Go.Proofs.Ytcfiigodefkncaa
open Go.RowKit Go.Deep

set_option maxRecDepth 100000 in
set_option maxHeartbeats 4000000 in
theorem mixerWords_out (m : Mx) (n : Int) (h : n < 0 ∨ 10000 < n) (w : World) :
    Calls Try.prog 4 #[mxv m, .int .i64 n] w fun e w' => e = .returned (.bool true) ∧ Below w.heap.size w w' := by
  have C1 := Lib.hid (words_bad m n (by omega))
  have C2 := Lib.hid (bits_bad m n (by omega))
  have E1 : ∀ w : World, _ := fun w => mx_eq Mx.zero Mx.zero w
  rw [decide_eq_true rfl] at E1
  obtain ⟨m0, m1, m2, m3⟩ := m
  unfold mxv at *
  dsimp only [Mx.zero] at *
  simp only [show (((0#64 : W64).toNat : Nat) : Int) = 0 from rfl] at E1 C1 C2
  have hM := xb_new w ⟨m0, m1, m2, m3⟩
  dsimp only at hM
  have HM := Lib.hid hM
  have HB := Lib.hid (bl_new w (.cells #[.int .u64 (m0.toNat : Int), .int .u64 (m1.toNat : Int), .int .u64 (m2.toNat : Int), .int .u64 (m3.toNat : Int)] 24))
  clear hM
  have key : ∀ wx : World, True := fun _ => trivial
  rcases Int.lt_or_le n 0 with h1 | h1
  case' inr => have h2 : 10000 < n := by omega
  all_goals
    go_enter Try.func4, Try.ntmps4
    go_wp2_with fail
    refine (C1.out _).mono ?_
    rintro e w2 ⟨rfl, hb⟩
    have hb2 := hb.trans ((bl_new w2 (.cells #[.int .u64 0, .int .u64 0, .int .u64 0, .int .u64 0] 24)).mono hb.size)
    have HM := Lib.hid (HM.out.later hb2)
    have HP : Hid (XB (w2.alloc (.cells #[.int .u64 0, .int .u64 0, .int .u64 0, .int .u64 0] 24)) w2.heap.size Mx.zero) := xb_new w2 Mx.zero
    have HB := Lib.hid (HB.out.trans (hb2.mono HB.out.size))
    clear hb hb2
    obtain ⟨u0, u1, u2, u3⟩ := HM.out.four
    dsimp only at u0 u1 u2 u3
    go_wp2_with fail
    refine (C2.out _).mono ?_
    rintro e w3 ⟨rfl, hb⟩
    have hb2 := hb.trans ((bl_new w3 (.cells #[.int .u64 0, .int .u64 0, .int .u64 0, .int .u64 0] 24)).mono hb.size)
    have HP := Lib.hid (HP.out.later hb2)
    have HQ : Hid (XB (w3.alloc (.cells #[.int .u64 0, .int .u64 0, .int .u64 0, .int .u64 0] 24)) w3.heap.size Mx.zero) := xb_new w3 Mx.zero
    have HB := Lib.hid (HB.out.trans (hb2.mono HB.out.size))
    clear hb hb2 u0 u1 u2 u3
    obtain ⟨u0, u1, u2, u3⟩ := HP.out.four
    obtain ⟨v0, v1, v2, v3⟩ := HQ.out.four
    dsimp only [Mx.zero] at u0 u1 u2 u3 v0 v1 v2 v3
    simp only [show (((0#64 : W64).toNat : Nat) : Int) = 0 from rfl] at u0 u1 u2 u3 v0 v1 v2 v3
    go_wp2
    go_ret
    exact ⟨rfl, HB.out⟩

theorem obits_get {n k : Nat} (h : k < n) (m : Mx) : (obits n m).getD k false = (stO (itN (k / 64) m)).getMsbD (k % 64) := by
  simp [obits, List.getD_eq_getElem?_getD, h, obit]
theorem bit2_w (x : W64) (j : Nat) (hj : j < 64) : (IntKind.u64.wrap ((x.toNat : Int) * 2 ^ j) / 9223372036854775808 == 1) = x.getMsbD j := by
  rw [shl_w x j (2 ^ j) (by norm_cast), shr_w (x <<< j) 63 9223372036854775808 rfl, show (1 : Int) = ((1#64 : W64).toNat : Int) from rfl, w64_beq]
  rw [Bool.eq_iff_iff, decide_eq_true_iff]
  exact msb_shl x j hj

set_option maxRecDepth 100000 in
set_option maxHeartbeats 4000000 in
theorem mixerWords_in (m : Mx) (n : Nat) (hn : n ≤ 10000) (w : World) :
    Calls Try.prog 4 #[mxv m, .int .i64 n] w fun e w' => e = .returned (.bool true) ∧ Below w.heap.size w w' := by
  obtain ⟨N, hN⟩ : ∃ N, (n + 63) / 64 = N := ⟨_, rfl⟩
  have hNi : ((n : Int) + 63).tdiv 64 = (N : Int) := by rw [Int.tdiv_eq_ediv_of_nonneg (by omega)]; omega
  have C1 : Hid (∀ w, Calls Try.prog 13 _ w _) := fun w => words_ok m n hn w
  have C2 : Hid (∀ w, Calls Try.prog 14 _ w _) := fun w => bits_ok m n hn w
  have C3 : Hid (∀ w, Calls Try.prog 15 _ w _) := fun w => mwords_any m n hn w
  have C4 : Hid (∀ w, Calls Try.prog 15 _ w _) := fun w => mwords_any m N (by omega) w
  rw [hN] at C2
  have E1 : ∀ w : World, _ := fun w => mx_eq (itN n m) (itN n m) w
  have E2 : ∀ w : World, _ := fun w => mx_eq (itN N m) (itN N m) w
  rw [decide_eq_true rfl] at E1 E2
  have HOBa : Hid (∀ k, k < n → (obits n m).getD k false = (stO (itN (k / 64) m)).getMsbD (k % 64)) := fun k h => obits_get h m
  have HOWa : Hid (∀ k, k < N → (outs N m).getD k 0 = stO (itN k m)) := fun k h => outs_get h m
  have HL1 : Hid ((outs n m).length = n) := outs_len n m
  have HL2 : Hid ((outs N m).length = N) := outs_len N m
  have HL3 : Hid ((obits n m).length = n) := obits_len n m
  have hn0 : (0 : Int) ≤ n := by omega
  have hn1 : (n : Int) ≤ 10000 := by omega
  generalize outs n m = wl1 at *
  generalize outs N m = wl2 at *
  generalize obits n m = bs at *
  obtain ⟨p, hp⟩ : ∃ p, itN n m = p := ⟨_, rfl⟩
  obtain ⟨q, hq⟩ : ∃ q, itN N m = q := ⟨_, rfl⟩
  rw [hp] at C1 C3 E1
  rw [hq] at C2 C4 E2
  clear hp hq
  obtain ⟨xf, hxf⟩ : ∃ xf : Nat → W64, (fun k => stO (itN k m)) = xf := ⟨_, rfl⟩
  have HOB : Hid (∀ k, k < n → bs.getD k false = (xf (k / 64)).getMsbD (k % 64)) := by rw [← hxf]; exact HOBa.out
  have HOW : Hid (∀ k, k < N → wl2.getD k 0 = xf k) := by rw [← hxf]; exact HOWa.out
  clear hxf HOBa HOWa
  obtain ⟨m0, m1, m2, m3⟩ := m
  obtain ⟨p0, p1, p2, p3⟩ := p
  obtain ⟨q0, q1, q2, q3⟩ := q
  unfold mxv at *
  dsimp only at *
  have hM := xb_new w ⟨m0, m1, m2, m3⟩
  dsimp only at hM
  have HM := Lib.hid hM
  have HB := Lib.hid (bl_new w (.cells #[.int .u64 (m0.toNat : Int), .int .u64 (m1.toNat : Int), .int .u64 (m2.toNat : Int), .int .u64 (m3.toNat : Int)] 24))
  clear hM
  go_enter Try.func4, Try.ntmps4
  go_wp2_with fail
  refine (C1.out _).mono ?_
  rintro e w2 ⟨R1, c1, rfl, hU1, hb⟩
  have hb2 := hb.trans ((bl_new w2 (.cells #[.int .u64 (p0.toNat : Int), .int .u64 (p1.toNat : Int), .int .u64 (p2.toNat : Int), .int .u64 (p3.toNat : Int)] 24)).mono hb.size)
  have HM := Lib.hid (HM.out.later hb2)
  have HP := Lib.hid (xb_new w2 ⟨p0, p1, p2, p3⟩)
  have HU1 := Lib.hid (hU1.later (bl_new w2 (.cells #[.int .u64 (p0.toNat : Int), .int .u64 (p1.toNat : Int), .int .u64 (p2.toNat : Int), .int .u64 (p3.toNat : Int)] 24)))
  have HB := Lib.hid (HB.out.trans (hb2.mono HB.out.size))
  dsimp only at HP
  clear hb hb2 hU1
  obtain ⟨u0, u1, u2, u3⟩ := HM.out.four
  dsimp only at u0 u1 u2 u3
  go_wp2_with fail
  refine (C2.out _).mono ?_
  rintro e w3 ⟨R2, c2, rfl, hT, hb⟩
  have hb2 := hb.trans ((bl_new w3 (.cells #[.int .u64 (q0.toNat : Int), .int .u64 (q1.toNat : Int), .int .u64 (q2.toNat : Int), .int .u64 (q3.toNat : Int)] 24)).mono hb.size)
  have HM := Lib.hid (HM.out.later hb2)
  have HP := Lib.hid (HP.out.later hb2)
  have HU1 := Lib.hid (HU1.out.later hb2)
  have HT := Lib.hid (hT.later (bl_new w3 (.cells #[.int .u64 (q0.toNat : Int), .int .u64 (q1.toNat : Int), .int .u64 (q2.toNat : Int), .int .u64 (q3.toNat : Int)] 24)))
  have HQ := Lib.hid (xb_new w3 ⟨q0, q1, q2, q3⟩)
  have HB := Lib.hid (HB.out.trans (hb2.mono HB.out.size))
  dsimp only at HQ
  clear hb hb2 hT u0 u1 u2 u3
  obtain ⟨u0, u1, u2, u3⟩ := HM.out.four
  dsimp only at u0 u1 u2 u3
  go_wp2_with fail
  refine (C3.out _).mono ?_
  rintro e w4 ⟨R3, c3, rfl, hU3, hb⟩
  have hb2 := hb.trans ((bl_new w4 (.cells #[.int .u64 (p0.toNat : Int), .int .u64 (p1.toNat : Int), .int .u64 (p2.toNat : Int), .int .u64 (p3.toNat : Int)] 24)).mono hb.size)
  have HM := Lib.hid (HM.out.later hb2)
  have HP := Lib.hid (HP.out.later hb2)
  have HQ := Lib.hid (HQ.out.later hb2)
  have HU1 := Lib.hid (HU1.out.later hb2)
  have HT := Lib.hid (HT.out.later hb2)
  have HU3 := Lib.hid (hU3.later (bl_new w4 (.cells #[.int .u64 (p0.toNat : Int), .int .u64 (p1.toNat : Int), .int .u64 (p2.toNat : Int), .int .u64 (p3.toNat : Int)] 24)))
  have HP2 := Lib.hid (xb_new w4 ⟨p0, p1, p2, p3⟩)
  have HB := Lib.hid (HB.out.trans (hb2.mono HB.out.size))
  dsimp only at HP2
  clear hb hb2 hU3 u0 u1 u2 u3
  obtain ⟨u0, u1, u2, u3⟩ := HM.out.four
  dsimp only at u0 u1 u2 u3
  go_wp2_with fail
  refine (C4.out _).mono ?_
  rintro e w5 ⟨R4, c4, rfl, hU4, hb⟩
  have hb2 := hb.trans ((bl_new w5 (.cells #[.int .u64 (q0.toNat : Int), .int .u64 (q1.toNat : Int), .int .u64 (q2.toNat : Int), .int .u64 (q3.toNat : Int)] 24)).mono hb.size)
  have HP := Lib.hid (HP.out.later hb2)
  have HQ := Lib.hid (HQ.out.later hb2)
  have HP2 := Lib.hid (HP2.out.later hb2)
  have HU1 := Lib.hid (HU1.out.later hb2)
  have HT := Lib.hid (HT.out.later hb2)
  have HU3 := Lib.hid (HU3.out.later hb2)
  have HU4 := Lib.hid (hU4.later (bl_new w5 (.cells #[.int .u64 (q0.toNat : Int), .int .u64 (q1.toNat : Int), .int .u64 (q2.toNat : Int), .int .u64 (q3.toNat : Int)] 24)))
  have HQ2 := Lib.hid (xb_new w5 ⟨q0, q1, q2, q3⟩)
  have HB := Lib.hid (HB.out.trans (hb2.mono HB.out.size))
  dsimp only at HQ2
  clear hb hb2 hU4 u0 u1 u2 u3 HM
  obtain ⟨w6, hw6⟩ : ∃ w6, w5.alloc (.cells #[.int .u64 (q0.toNat : Int), .int .u64 (q1.toNat : Int), .int .u64 (q2.toNat : Int), .int .u64 (q3.toNat : Int)] 24) = w6 := ⟨_, rfl⟩
  rw [hw6] at HP HQ HP2 HU1 HT HU3 HU4 HQ2 HB
  have k1 := HU1.out.cap
  have k2 := HU1.out.le
  have CE := uequal_any R1 R3 c1 c3 wl1 wl1 w6 HU1.out.ul HU3.out.ul (by omega) (by omega)
  rw [HL1.out, decide_eq_true rfl] at CE
  have CE := Lib.hid CE
  clear k1 k2 C1 C2 C3 C4
  go_wp2_with fail
  refine CE.out.mono ?_
  rintro e w7 ⟨rfl, hb⟩
  obtain ⟨u0, u1, u2, u3⟩ := (HP.out.later hb).four
  obtain ⟨v0, v1, v2, v3⟩ := (HQ.out.later hb).four
  obtain ⟨x0, x1, x2, x3⟩ := (HP2.out.later hb).four
  obtain ⟨y0, y1, y2, y3⟩ := (HQ2.out.later hb).four
  have HT := Lib.hid (HT.out.later hb)
  have HU4 := Lib.hid (HU4.out.later hb)
  have HB := Lib.hid (HB.out.trans (hb.mono HB.out.size))
  dsimp only at u0 u1 u2 u3 v0 v1 v2 v3 x0 x1 x2 x3 y0 y1 y2 y3
  clear hb CE HP HQ HP2 HQ2 HU1 HU3 hw6
  go_wp2_with fail
  clear u0 u1 u2 u3 v0 v1 v2 v3 x0 x1 x2 x3 y0 y1 y2 y3 E1 E2
  go_loopw [106] (fun iv wr => ∃ k : Nat, k ≤ n ∧ iv = .int .i64 k ∧ wr = w7) (fun iv _ => n - (intOf iv).toNat)
  case atStart => exact ⟨0, by omega, rfl, rfl⟩
  case round =>
    obtain ⟨k, hk, rfl, rfl⟩ := hrel
    by_cases hlt : k < n
    · obtain ⟨kq, hkq⟩ : ∃ kq, k / 64 = kq := ⟨_, rfl⟩
      obtain ⟨kr, hkr⟩ : ∃ kr, k % 64 = kr := ⟨_, rfl⟩
      have hq : (k : Int).tdiv 64 = (kq : Int) := by rw [Int.tdiv_eq_ediv_of_nonneg (by omega)]; omega
      have hr : (k : Int).tmod 64 = (kr : Int) := by rw [Int.tmod_eq_emod_of_nonneg (by omega)]; omega
      have hkN : kq < N := by omega
      obtain ⟨b1, o1, rfl, _, hc1⟩ := HT.out.tp.at (by rw [HL3.out]; omega)
      obtain ⟨b2, o2, rfl, _, hc2⟩ := HU4.out.ul.at (by rw [HL2.out]; omega)
      have d1 := hc1 k (by rw [HL3.out]; exact hlt)
      have d2 := hc2 kq (by rw [HL2.out]; exact hkN)
      have hbit := HOB.out k hlt
      rw [hkq, hkr] at hbit
      rw [hbit] at d1
      rw [HOW.out kq hkN] at d2
      have e1 := bit2_w (xf kq) kr (by omega)
      have hki : (k : Int) < (n : Int) := by omega
      have hkNi : (kq : Int) < (N : Int) := by omega
      have hkr0 : kr < 64 := by omega
      clear hc1 hc2 hbit hkq hkr
      generalize (xf kq).getMsbD kr = bt at *
      generalize xf kq = x at *
      have hbb : (bt == bt) = true := by simp
      go_wp2
      refine ⟨⟨k + 1, by omega, by go_num, trivial⟩, ?_⟩
      simp [intOf]; omega
    · obtain rfl : k = n := by omega
      go_wp2
      go_ret
      exact ⟨rfl, HB.out⟩
theorem mixerWords_walk (m : Mx) (n : Int) (w : World) :
    Calls Try.prog 4 #[mxv m, .int .i64 n] w fun e w' => e = .returned (.bool true) ∧ Below w.heap.size w w' := by
  by_cases h : n < 0 ∨ 10000 < n
  · exact mixerWords_out m n h w
  · obtain ⟨k, rfl⟩ : ∃ k : Nat, n = k := ⟨n.toNat, by omega⟩
    exact mixerWords_in m k (by omega) w
end Go.Proofs.Ytcfiigodefkncaa
