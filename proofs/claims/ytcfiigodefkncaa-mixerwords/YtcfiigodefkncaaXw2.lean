/- lotdrawerkeep.MixerBack: the walk. -/
import Derived.Test.YtcfiigodefkncaaXw1
import Derived.Deep.RegionHeld3
namespace Go.Proofs.Ytcfiigodefkncaa
open Go.RowKit Go.Deep

theorem stN_iff (m o : Mx) : decide (stN m = stN o) = decide (m = o) := by
  by_cases h : m = o
  · subst h; simp
  · rw [decide_eq_false h, decide_eq_false (fun e => h (stN_inj e))]
theorem stN_ziff (m : Mx) : decide (stN m = Mx.zero) = decide (m = Mx.zero) := by
  rw [← stN_iff m Mx.zero, stN_zero]
theorem XB.later {w w' : World} {g : Nat} {m : Mx} (h : XB w g m) (hb : Below w.heap.size w w') : XB w' g m := h.below hb h.lt
theorem XB.four {w : World} {g : Nat} {m : Mx} (h : XB w g m) : w.cell? ⟨g, 0, none⟩ = some (.int .u64 (m.a.toNat : Int)) ∧ w.cell? ⟨g, 1, none⟩ = some (.int .u64 (m.b.toNat : Int)) ∧ w.cell? ⟨g, 2, none⟩ = some (.int .u64 (m.c.toNat : Int)) ∧ w.cell? ⟨g, 3, none⟩ = some (.int .u64 (m.d.toNat : Int)) := ⟨h.c0, h.c1, h.c2, h.c3⟩
theorem bl_new (w : World) (o : Obj) : Below w.heap.size w (w.alloc o) := (Below.refl _ w).alloc (Nat.le_refl _) _

set_option maxRecDepth 100000 in
set_option maxHeartbeats 4000000 in
theorem mixerBack_walk (m o : Mx) (w : World) :
    Calls Try.prog 5 #[mxv m, mxv o] w fun e w' => e = .returned (.bool true) ∧ Below w.heap.size w w' := by
  have CA := Lib.hid alive13_any
  have C1 := Lib.hid (step_any m)
  have C2 := Lib.hid (step_any o)
  have C3 := Lib.hid (back_any m)
  have C4 := Lib.hid (step_any (bkN m))
  have C5 := Lib.hid (back_any (stN m))
  rw [st_bk] at C4
  rw [bk_st] at C5
  have h1 := stN_iff m o
  have h2 := stN_ziff m
  have E1 : ∀ w : World, _ := fun w => mx_eq m m w
  have E2 : ∀ w : World, _ := fun w => mx_eq (stN m) (stN o) w
  have E3 : ∀ w : World, _ := fun w => mx_eq m o w
  have E4 : ∀ w : World, _ := fun w => mx_eq (stN m) Mx.zero w
  have E5 : ∀ w : World, _ := fun w => mx_eq m Mx.zero w
  rw [decide_eq_true rfl] at E1
  rw [h1] at E2
  rw [h2] at E4
  clear h1 h2
  generalize decide (m = o) = d1 at *
  generalize decide (m = Mx.zero) = d2 at *
  generalize stO (bkN m) = y1 at *
  generalize stO m = y2 at *
  generalize stO o = y3 at *
  generalize stN m = p at *
  generalize stN o = q at *
  generalize bkN m = r at *
  obtain ⟨m0, m1, m2, m3⟩ := m
  obtain ⟨o0, o1, o2, o3⟩ := o
  obtain ⟨p0, p1, p2, p3⟩ := p
  obtain ⟨q0, q1, q2, q3⟩ := q
  obtain ⟨r0, r1, r2, r3⟩ := r
  unfold mxv at *
  dsimp only [Mx.zero] at *
  simp only [show (((0#64 : W64).toNat : Nat) : Int) = 0 from rfl] at E4 E5
  have hdd1 : (d1 == d1) = true := by simp
  have hdd2 : (d2 == d2) = true := by simp
  obtain ⟨wa, hwa⟩ : ∃ wa, (w.alloc (.cells #[.int .u64 (m0.toNat : Int), .int .u64 (m1.toNat : Int), .int .u64 (m2.toNat : Int), .int .u64 (m3.toNat : Int)] 24)).alloc (.cells #[.int .u64 (o0.toNat : Int), .int .u64 (o1.toNat : Int), .int .u64 (o2.toNat : Int), .int .u64 (o3.toNat : Int)] 24) = wa := ⟨_, rfl⟩
  have hM : XB wa w.heap.size ⟨m0, m1, m2, m3⟩ := by rw [← hwa]; exact (heap_alloc_old _ _ (by simp)).trans (heap_alloc_new w _)
  have hO : XB wa (w.heap.size + 1) ⟨o0, o1, o2, o3⟩ := by rw [← hwa]; exact heap_alloc2_new w _ _
  have hB : Below w.heap.size w wa := by rw [← hwa]; exact ((Below.refl _ w).alloc (Nat.le_refl _) _).alloc (by simp) _
  have HM := Lib.hid hM
  have HO := Lib.hid hO
  have HB := Lib.hid hB
  clear hM hO hB
  have CA := Lib.hid (CA.out wa)
  go_enter Try.func5, Try.ntmps5
  go_wp2_with fail
  refine CA.out.mono ?_
  rintro e w1 ⟨rfl, hb⟩
  have HM := Lib.hid (HM.out.later hb)
  have HO := Lib.hid (HO.out.later hb)
  have HB := Lib.hid (HB.out.trans (hb.mono HB.out.size))
  clear hb CA hwa
  obtain ⟨u0, u1, u2, u3⟩ := HM.out.four
  dsimp only at u0 u1 u2 u3
  go_wp2_with fail
  refine (C1.out _).mono ?_
  rintro e w2 ⟨rfl, hb⟩
  have hb2 := hb.trans ((bl_new w2 (.cells #[.int .u64 (p0.toNat : Int), .int .u64 (p1.toNat : Int), .int .u64 (p2.toNat : Int), .int .u64 (p3.toNat : Int)] 24)).mono hb.size)
  have HM := Lib.hid (HM.out.later hb2)
  have HO := Lib.hid (HO.out.later hb2)
  have HP := Lib.hid (xb_new w2 ⟨p0, p1, p2, p3⟩)
  have HB := Lib.hid (HB.out.trans (hb2.mono HB.out.size))
  dsimp only at HP
  clear hb hb2 u0 u1 u2 u3
  obtain ⟨u0, u1, u2, u3⟩ := HO.out.four
  dsimp only at u0 u1 u2 u3
  go_wp2_with fail
  refine (C2.out _).mono ?_
  rintro e w3 ⟨rfl, hb⟩
  have hb2 := hb.trans ((bl_new w3 (.cells #[.int .u64 (q0.toNat : Int), .int .u64 (q1.toNat : Int), .int .u64 (q2.toNat : Int), .int .u64 (q3.toNat : Int)] 24)).mono hb.size)
  have HM := Lib.hid (HM.out.later hb2)
  have HO := Lib.hid (HO.out.later hb2)
  have HP := Lib.hid (HP.out.later hb2)
  have HQ := Lib.hid (xb_new w3 ⟨q0, q1, q2, q3⟩)
  have HB := Lib.hid (HB.out.trans (hb2.mono HB.out.size))
  dsimp only at HQ
  clear hb hb2 u0 u1 u2 u3
  obtain ⟨u0, u1, u2, u3⟩ := HM.out.four
  dsimp only at u0 u1 u2 u3
  go_wp2_with fail
  refine (C3.out _).mono ?_
  rintro e w4 ⟨rfl, hb⟩
  have HM := Lib.hid (HM.out.later hb)
  have HO := Lib.hid (HO.out.later hb)
  have HP := Lib.hid (HP.out.later hb)
  have HQ := Lib.hid (HQ.out.later hb)
  have HB := Lib.hid (HB.out.trans (hb.mono HB.out.size))
  clear hb u0 u1 u2 u3
  go_wp2_with fail
  refine (C4.out _).mono ?_
  rintro e w5 ⟨rfl, hb⟩
  have hb2 := hb.trans ((bl_new w5 (.cells #[.int .u64 (m0.toNat : Int), .int .u64 (m1.toNat : Int), .int .u64 (m2.toNat : Int), .int .u64 (m3.toNat : Int)] 24)).mono hb.size)
  have HM := Lib.hid (HM.out.later hb2)
  have HO := Lib.hid (HO.out.later hb2)
  have HP := Lib.hid (HP.out.later hb2)
  have HQ := Lib.hid (HQ.out.later hb2)
  have HR := Lib.hid (xb_new w5 ⟨m0, m1, m2, m3⟩)
  have HB := Lib.hid (HB.out.trans (hb2.mono HB.out.size))
  dsimp only at HR
  clear hb hb2
  go_wp2_with fail
  obtain ⟨wz, hwz⟩ : ∃ wz, w5.alloc (.cells #[.int .u64 (m0.toNat : Int), .int .u64 (m1.toNat : Int), .int .u64 (m2.toNat : Int), .int .u64 (m3.toNat : Int)] 24) = wz := ⟨_, rfl⟩
  rw [hwz] at HM HO HP HQ HR HB ⊢
  clear hwz
  generalize w5.heap.size = gr at *
  generalize w3.heap.size = gq at *
  generalize w2.heap.size = gp at *
  have hgo : ∃ go, w.heap.size + 1 = go := ⟨_, rfl⟩
  obtain ⟨go, hgo⟩ := hgo
  rw [hgo] at HO ⊢
  clear hgo
  obtain ⟨u0, u1, u2, u3⟩ := HM.out.four
  obtain ⟨v0, v1, v2, v3⟩ := HP.out.four
  obtain ⟨x0, x1, x2, x3⟩ := HO.out.four
  obtain ⟨z0, z1, z2, z3⟩ := HQ.out.four
  obtain ⟨t0, t1, t2, t3⟩ := HR.out.four
  dsimp only at u0 u1 u2 u3 v0 v1 v2 v3 x0 x1 x2 x3 z0 z1 z2 z3 t0 t1 t2 t3
  have C6 := Lib.hid (C5.out wz.drew)
  have HM := Lib.hid (HM.out.later (Below.refl _ wz).drew)
  have HO := Lib.hid (HO.out.later (Below.refl _ wz).drew)
  have HP := Lib.hid (HP.out.later (Below.refl _ wz).drew)
  have HQ := Lib.hid (HQ.out.later (Below.refl _ wz).drew)
  have HR := Lib.hid (HR.out.later (Below.refl _ wz).drew)
  have HB := Lib.hid HB.out.drew
  clear C1 C2 C3 C4 C5
  go_region_held3 (fun w' => (w'.cell? ⟨w.heap.size, 0, none⟩ = some (.int .u64 (m0.toNat : Int)) ∧ w'.cell? ⟨w.heap.size, 1, none⟩ = some (.int .u64 (m1.toNat : Int)) ∧ w'.cell? ⟨w.heap.size, 2, none⟩ = some (.int .u64 (m2.toNat : Int)) ∧ w'.cell? ⟨w.heap.size, 3, none⟩ = some (.int .u64 (m3.toNat : Int))) ∧ (w'.cell? ⟨gp, 0, none⟩ = some (.int .u64 (p0.toNat : Int)) ∧ w'.cell? ⟨gp, 1, none⟩ = some (.int .u64 (p1.toNat : Int)) ∧ w'.cell? ⟨gp, 2, none⟩ = some (.int .u64 (p2.toNat : Int)) ∧ w'.cell? ⟨gp, 3, none⟩ = some (.int .u64 (p3.toNat : Int))) ∧ (w'.cell? ⟨go, 0, none⟩ = some (.int .u64 (o0.toNat : Int)) ∧ w'.cell? ⟨go, 1, none⟩ = some (.int .u64 (o1.toNat : Int)) ∧ w'.cell? ⟨go, 2, none⟩ = some (.int .u64 (o2.toNat : Int)) ∧ w'.cell? ⟨go, 3, none⟩ = some (.int .u64 (o3.toNat : Int))) ∧ (w'.cell? ⟨gq, 0, none⟩ = some (.int .u64 (q0.toNat : Int)) ∧ w'.cell? ⟨gq, 1, none⟩ = some (.int .u64 (q1.toNat : Int)) ∧ w'.cell? ⟨gq, 2, none⟩ = some (.int .u64 (q2.toNat : Int)) ∧ w'.cell? ⟨gq, 3, none⟩ = some (.int .u64 (q3.toNat : Int))) ∧ w'.cell? ⟨gr, 0, none⟩ = some (.int .u64 (m0.toNat : Int)) ∧ w'.cell? ⟨gr, 1, none⟩ = some (.int .u64 (m1.toNat : Int)) ∧ w'.cell? ⟨gr, 2, none⟩ = some (.int .u64 (m2.toNat : Int)) ∧ w'.cell? ⟨gr, 3, none⟩ = some (.int .u64 (m3.toNat : Int))) (go_keep)
    (first | (go_at_call 10; refine C6.out.mono ?_; rintro e w6 ⟨rfl, hb⟩; obtain ⟨a0, a1, a2, a3⟩ := (HM.out.later hb).four; obtain ⟨b0, b1, b2, b3⟩ := (HO.out.later hb).four; obtain ⟨c0, c1, c2, c3⟩ := (HP.out.later hb).four; obtain ⟨f0, f1, f2, f3⟩ := (HQ.out.later hb).four; obtain ⟨g0, g1, g2, g3⟩ := (HR.out.later hb).four; have HB6 := Lib.hid (HB.out.trans (hb.mono HB.out.size)); dsimp only at a0 a1 a2 a3 b0 b1 b2 b3 c0 c1 c2 c3 f0 f1 f2 f3 g0 g1 g2 g3; clear hb))
  go_wp2
  go_ret
  exact ⟨rfl, HB6.out⟩
end Go.Proofs.Ytcfiigodefkncaa
