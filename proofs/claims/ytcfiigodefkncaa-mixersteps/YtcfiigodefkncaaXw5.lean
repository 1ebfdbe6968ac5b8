import Derived.Test.YtcfiigodefkncaaXr4
/- lotdrawerlaw.MixerSteps: the walk. -/
namespace Go.Proofs.Ytcfiigodefkncaa
open Go.RowKit Go.Deep

set_option maxRecDepth 100000 in
set_option maxHeartbeats 4000000 in
theorem mixerSteps_walk (m : Mx) (n : W64) (w : World) :
    Calls Try.prog 3 #[mxv m, .int .u64 (n.toNat : Int)] w fun e w' => e = .returned (.bool true) ∧ Below w.heap.size w w' := by
  have C1 := Lib.hid (step_any m)
  have C2 := Lib.hid (mstep_any m)
  have C3 := Lib.hid (back_any m)
  have C4 := Lib.hid (mstep_any (bkN m))
  have C5 := Lib.hid (seed_any n)
  have C6 := Lib.hid (mseed_any n)
  rw [st_bk] at C4
  have E1 : ∀ w : World, _ := fun w => mx_eq m m w
  have E2 : ∀ w : World, _ := fun w => mx_eq (stN m) (stN m) w
  have E3 : ∀ w : World, _ := fun w => mx_eq (seedX n) (seedX n) w
  rw [decide_eq_true rfl] at E1 E2 E3
  generalize stO (bkN m) = y1 at *
  generalize stO m = y2 at *
  generalize stN m = p at *
  generalize bkN m = r at *
  generalize seedX n = s at *
  obtain ⟨m0, m1, m2, m3⟩ := m
  obtain ⟨p0, p1, p2, p3⟩ := p
  obtain ⟨r0, r1, r2, r3⟩ := r
  obtain ⟨s0, s1, s2, s3⟩ := s
  unfold mxv at *
  dsimp only at *
  have hM := xb_new w ⟨m0, m1, m2, m3⟩
  dsimp only at hM
  have HM := Lib.hid hM
  have HB := Lib.hid (bl_new w (.cells #[.int .u64 (m0.toNat : Int), .int .u64 (m1.toNat : Int), .int .u64 (m2.toNat : Int), .int .u64 (m3.toNat : Int)] 24))
  clear hM
  go_enter Try.func3, Try.ntmps3
  go_wp2_with fail
  refine (C1.out _).mono ?_
  rintro e w2 ⟨rfl, hb⟩
  have hb2 := hb.trans ((bl_new w2 (.cells #[.int .u64 (p0.toNat : Int), .int .u64 (p1.toNat : Int), .int .u64 (p2.toNat : Int), .int .u64 (p3.toNat : Int)] 24)).mono hb.size)
  have HM := Lib.hid (HM.out.later hb2)
  have HP := Lib.hid (xb_new w2 ⟨p0, p1, p2, p3⟩)
  have HB := Lib.hid (HB.out.trans (hb2.mono HB.out.size))
  dsimp only at HP
  clear hb hb2
  obtain ⟨u0, u1, u2, u3⟩ := HM.out.four
  dsimp only at u0 u1 u2 u3
  go_wp2_with fail
  refine (C2.out _).mono ?_
  rintro e w3 ⟨rfl, hb⟩
  have hb2 := hb.trans ((bl_new w3 (.cells #[.int .u64 (p0.toNat : Int), .int .u64 (p1.toNat : Int), .int .u64 (p2.toNat : Int), .int .u64 (p3.toNat : Int)] 24)).mono hb.size)
  have HM := Lib.hid (HM.out.later hb2)
  have HP := Lib.hid (HP.out.later hb2)
  have HQ := Lib.hid (xb_new w3 ⟨p0, p1, p2, p3⟩)
  have HB := Lib.hid (HB.out.trans (hb2.mono HB.out.size))
  dsimp only at HQ
  clear hb hb2 u0 u1 u2 u3
  obtain ⟨u0, u1, u2, u3⟩ := HM.out.four
  dsimp only at u0 u1 u2 u3
  go_wp2_with fail
  refine (C3.out _).mono ?_
  rintro e w4 ⟨rfl, hb⟩
  have HM := Lib.hid (HM.out.later hb)
  have HP := Lib.hid (HP.out.later hb)
  have HQ := Lib.hid (HQ.out.later hb)
  have HB := Lib.hid (HB.out.trans (hb.mono HB.out.size))
  clear hb u0 u1 u2 u3
  go_wp2_with fail
  refine (C4.out _).mono ?_
  rintro e w5 ⟨rfl, hb⟩
  have hb2 := hb.trans ((bl_new w5 (.cells #[.int .u64 (m0.toNat : Int), .int .u64 (m1.toNat : Int), .int .u64 (m2.toNat : Int), .int .u64 (m3.toNat : Int)] 24)).mono hb.size)
  have HM := Lib.hid (HM.out.later hb2)
  have HP := Lib.hid (HP.out.later hb2)
  have HQ := Lib.hid (HQ.out.later hb2)
  have HR := Lib.hid (xb_new w5 ⟨m0, m1, m2, m3⟩)
  have HB := Lib.hid (HB.out.trans (hb2.mono HB.out.size))
  dsimp only at HR
  clear hb hb2
  obtain ⟨u0, u1, u2, u3⟩ := HM.out.four
  obtain ⟨v0, v1, v2, v3⟩ := HP.out.four
  obtain ⟨z0, z1, z2, z3⟩ := HQ.out.four
  obtain ⟨t0, t1, t2, t3⟩ := HR.out.four
  dsimp only at u0 u1 u2 u3 v0 v1 v2 v3 z0 z1 z2 z3 t0 t1 t2 t3
  clear C1 C2 C3 C4
  go_wp2_with fail
  refine (C5.out _).mono ?_
  rintro e w6 ⟨rfl, hb⟩
  have HB := Lib.hid (HB.out.trans (hb.mono HB.out.size))
  clear hb u0 u1 u2 u3 v0 v1 v2 v3 z0 z1 z2 z3 t0 t1 t2 t3
  go_wp2_with fail
  refine (C6.out _).mono ?_
  rintro e w7 ⟨rfl, hb⟩
  have HB := Lib.hid (HB.out.trans (hb.mono HB.out.size))
  clear hb
  go_wp2
  go_ret
  exact ⟨rfl, HB.out⟩
end Go.Proofs.Ytcfiigodefkncaa
