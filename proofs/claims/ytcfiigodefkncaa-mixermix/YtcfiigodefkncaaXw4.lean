/- lotdrawerkeep.MixerMix: the walk. -/
import Derived.Test.YtcfiigodefkncaaXw3
namespace Go.Proofs.Ytcfiigodefkncaa
open Go.RowKit Go.Deep

set_option maxRecDepth 100000 in
set_option maxHeartbeats 4000000 in
theorem mixerMix_out (m o : Mx) (n : Int) (h : n < 0 ∨ 50 < n) (w : World) :
    Calls Try.prog 6 #[mxv m, mxv o, .int .i64 n] w fun e w' => e = .returned (.bool true) ∧ Below w.heap.size w w' := by
  have CA := Lib.hid alive13_any
  obtain ⟨m0, m1, m2, m3⟩ := m
  obtain ⟨o0, o1, o2, o3⟩ := o
  unfold mxv
  dsimp only
  obtain ⟨wa, hwa⟩ : ∃ wa, (w.alloc (.cells #[.int .u64 (m0.toNat : Int), .int .u64 (m1.toNat : Int), .int .u64 (m2.toNat : Int), .int .u64 (m3.toNat : Int)] 24)).alloc (.cells #[.int .u64 (o0.toNat : Int), .int .u64 (o1.toNat : Int), .int .u64 (o2.toNat : Int), .int .u64 (o3.toNat : Int)] 24) = wa := ⟨_, rfl⟩
  have hB : Below w.heap.size w wa := by rw [← hwa]; exact ((Below.refl _ w).alloc (Nat.le_refl _) _).alloc (by simp) _
  have HB := Lib.hid hB
  clear hB
  have CA := Lib.hid (CA.out wa)
  rcases Int.lt_or_le n 0 with h1 | h1
  · go_enter Try.func6, Try.ntmps6
    go_wp2_with fail
    refine CA.out.mono ?_
    rintro e w1 ⟨rfl, hb⟩
    have HB := Lib.hid (HB.out.trans (hb.mono HB.out.size))
    clear hb CA
    go_wp2
    go_ret
    exact ⟨rfl, HB.out⟩
  · have h2 : 50 < n := by omega
    go_enter Try.func6, Try.ntmps6
    go_wp2_with fail
    refine CA.out.mono ?_
    rintro e w1 ⟨rfl, hb⟩
    have HB := Lib.hid (HB.out.trans (hb.mono HB.out.size))
    clear hb CA
    go_wp2
    go_ret
    exact ⟨rfl, HB.out⟩

set_option maxRecDepth 100000 in
set_option maxHeartbeats 4000000 in
theorem mixerMix_in (m o : Mx) (n : Nat) (hn : n ≤ 50) (w : World) :
    Calls Try.prog 6 #[mxv m, mxv o, .int .i64 n] w fun e w' => e = .returned (.bool true) ∧ Below w.heap.size w w' := by
  have CA := Lib.hid alive13_any
  have C1 : Hid (∀ w, Calls Try.prog 13 _ w _) := fun w => words_ok m n (by omega) w
  have C2 : Hid (∀ w, Calls Try.prog 13 _ w _) := fun w => words_ok o n (by omega) w
  have C3 := Lib.hid (mixc_any m o)
  have C4 : Hid (∀ w, Calls Try.prog 13 _ w _) := fun w => words_ok (mxx m o) n (by omega) w
  have C5 := Lib.hid (mixc_any (itN n m) (itN n o))
  rw [itN_mix] at C4
  have E1 : ∀ w : World, _ := fun w => mx_eq (mxx (itN n m) (itN n o)) (mxx (itN n m) (itN n o)) w
  rw [decide_eq_true rfl] at E1
  have hn1 : (n : Int) ≤ 50 := by omega
  have hn0 : (0 : Int) ≤ n := by omega
  generalize outs n m = l1 at *
  generalize outs n o = l2 at *
  generalize outs n (mxx m o) = l3 at *
  generalize mxx (itN n m) (itN n o) = r at *
  generalize mxx m o = x at *
  generalize itN n m = p at *
  generalize itN n o = q at *
  obtain ⟨m0, m1, m2, m3⟩ := m
  obtain ⟨o0, o1, o2, o3⟩ := o
  obtain ⟨p0, p1, p2, p3⟩ := p
  obtain ⟨q0, q1, q2, q3⟩ := q
  obtain ⟨r0, r1, r2, r3⟩ := r
  obtain ⟨x0, x1, x2, x3⟩ := x
  unfold mxv at *
  dsimp only at *
  obtain ⟨wa, hwa⟩ : ∃ wa, (w.alloc (.cells #[.int .u64 (m0.toNat : Int), .int .u64 (m1.toNat : Int), .int .u64 (m2.toNat : Int), .int .u64 (m3.toNat : Int)] 24)).alloc (.cells #[.int .u64 (o0.toNat : Int), .int .u64 (o1.toNat : Int), .int .u64 (o2.toNat : Int), .int .u64 (o3.toNat : Int)] 24) = wa := ⟨_, rfl⟩
  have hM : XB wa w.heap.size ⟨m0, m1, m2, m3⟩ := by rw [← hwa]; exact (heap_alloc_old _ _ (by simp)).trans (heap_alloc_new w _)
  have hO : XB wa (w.heap.size + 1) ⟨o0, o1, o2, o3⟩ := by rw [← hwa]; exact heap_alloc2_new w _ _
  have hB : Below w.heap.size w wa := by rw [← hwa]; exact ((Below.refl _ w).alloc (Nat.le_refl _) _).alloc (by simp) _
  have HM := Lib.hid hM
  have HO := Lib.hid hO
  have HB := Lib.hid hB
  clear hM hO hB
  have CA := Lib.hid (CA.out wa)
  go_enter Try.func6, Try.ntmps6
  go_wp2_with fail
  refine CA.out.mono ?_
  rintro e w1 ⟨rfl, hb⟩
  have HM := Lib.hid (HM.out.later hb)
  have HO := Lib.hid (HO.out.later hb)
  have HB := Lib.hid (HB.out.trans (hb.mono HB.out.size))
  clear hb CA hwa
  obtain ⟨u0, u1, u2, u3⟩ := HM.out.four
  dsimp only at u0 u1 u2 u3
  go_wp2_with fail
  refine (C1.out _).mono ?_
  rintro e w2 ⟨R1, c1, rfl, _, hb⟩
  have hb2 := hb.trans ((bl_new w2 (.cells #[.int .u64 (p0.toNat : Int), .int .u64 (p1.toNat : Int), .int .u64 (p2.toNat : Int), .int .u64 (p3.toNat : Int)] 24)).mono hb.size)
  have HM := Lib.hid (HM.out.later hb2)
  have HO := Lib.hid (HO.out.later hb2)
  have HP := Lib.hid (xb_new w2 ⟨p0, p1, p2, p3⟩)
  have HB := Lib.hid (HB.out.trans (hb2.mono HB.out.size))
  dsimp only at HP
  clear hb hb2 u0 u1 u2 u3
  obtain ⟨u0, u1, u2, u3⟩ := HO.out.four
  dsimp only at u0 u1 u2 u3
  go_wp2_with fail
  refine (C2.out _).mono ?_
  rintro e w3 ⟨R2, c2, rfl, _, hb⟩
  have hb2 := hb.trans ((bl_new w3 (.cells #[.int .u64 (q0.toNat : Int), .int .u64 (q1.toNat : Int), .int .u64 (q2.toNat : Int), .int .u64 (q3.toNat : Int)] 24)).mono hb.size)
  have HM := Lib.hid (HM.out.later hb2)
  have HO := Lib.hid (HO.out.later hb2)
  have HP := Lib.hid (HP.out.later hb2)
  have HQ := Lib.hid (xb_new w3 ⟨q0, q1, q2, q3⟩)
  have HB := Lib.hid (HB.out.trans (hb2.mono HB.out.size))
  dsimp only at HQ
  clear hb hb2 u0 u1 u2 u3
  obtain ⟨u0, u1, u2, u3⟩ := HM.out.four
  obtain ⟨v0, v1, v2, v3⟩ := HO.out.four
  dsimp only at u0 u1 u2 u3 v0 v1 v2 v3
  go_wp2_with fail
  refine (C3.out _).mono ?_
  rintro e w4 ⟨rfl, hb⟩
  have HP := Lib.hid (HP.out.later hb)
  have HQ := Lib.hid (HQ.out.later hb)
  have HB := Lib.hid (HB.out.trans (hb.mono HB.out.size))
  clear hb u0 u1 u2 u3 v0 v1 v2 v3 HM HO
  go_wp2_with fail
  refine (C4.out _).mono ?_
  rintro e w5 ⟨R3, c3, rfl, _, hb⟩
  have hb2 := hb.trans ((bl_new w5 (.cells #[.int .u64 (r0.toNat : Int), .int .u64 (r1.toNat : Int), .int .u64 (r2.toNat : Int), .int .u64 (r3.toNat : Int)] 24)).mono hb.size)
  have HP := Lib.hid (HP.out.later hb2)
  have HQ := Lib.hid (HQ.out.later hb2)
  have HR := Lib.hid (xb_new w5 ⟨r0, r1, r2, r3⟩)
  have HB := Lib.hid (HB.out.trans (hb2.mono HB.out.size))
  dsimp only at HR
  clear hb hb2
  go_wp2_with fail
  obtain ⟨wz, hwz⟩ : ∃ wz, w5.alloc (.cells #[.int .u64 (r0.toNat : Int), .int .u64 (r1.toNat : Int), .int .u64 (r2.toNat : Int), .int .u64 (r3.toNat : Int)] 24) = wz := ⟨_, rfl⟩
  rw [hwz] at HP HQ HR HB ⊢
  clear hwz
  generalize w5.heap.size = gr at *
  generalize w3.heap.size = gq at *
  generalize w2.heap.size = gp at *
  obtain ⟨v0, v1, v2, v3⟩ := HP.out.four
  obtain ⟨z0, z1, z2, z3⟩ := HQ.out.four
  obtain ⟨t0, t1, t2, t3⟩ := HR.out.four
  dsimp only at v0 v1 v2 v3 z0 z1 z2 z3 t0 t1 t2 t3
  have C6 := Lib.hid (C5.out wz.drew)
  have HP := Lib.hid (HP.out.later (Below.refl _ wz).drew)
  have HQ := Lib.hid (HQ.out.later (Below.refl _ wz).drew)
  have HR := Lib.hid (HR.out.later (Below.refl _ wz).drew)
  have HB := Lib.hid HB.out.drew
  clear C1 C2 C3 C4 C5
  go_region_held3 (fun w' => (w'.cell? ⟨gp, 0, none⟩ = some (.int .u64 (p0.toNat : Int)) ∧ w'.cell? ⟨gp, 1, none⟩ = some (.int .u64 (p1.toNat : Int)) ∧ w'.cell? ⟨gp, 2, none⟩ = some (.int .u64 (p2.toNat : Int)) ∧ w'.cell? ⟨gp, 3, none⟩ = some (.int .u64 (p3.toNat : Int))) ∧ (w'.cell? ⟨gq, 0, none⟩ = some (.int .u64 (q0.toNat : Int)) ∧ w'.cell? ⟨gq, 1, none⟩ = some (.int .u64 (q1.toNat : Int)) ∧ w'.cell? ⟨gq, 2, none⟩ = some (.int .u64 (q2.toNat : Int)) ∧ w'.cell? ⟨gq, 3, none⟩ = some (.int .u64 (q3.toNat : Int))) ∧ w'.cell? ⟨gr, 0, none⟩ = some (.int .u64 (r0.toNat : Int)) ∧ w'.cell? ⟨gr, 1, none⟩ = some (.int .u64 (r1.toNat : Int)) ∧ w'.cell? ⟨gr, 2, none⟩ = some (.int .u64 (r2.toNat : Int)) ∧ w'.cell? ⟨gr, 3, none⟩ = some (.int .u64 (r3.toNat : Int))) (go_keep)
    (first | (go_at_call 18; refine C6.out.mono ?_; rintro e w6 ⟨rfl, hb⟩; obtain ⟨c0, c1, c2, c3⟩ := (HP.out.later hb).four; obtain ⟨f0, f1, f2, f3⟩ := (HQ.out.later hb).four; obtain ⟨g0, g1, g2, g3⟩ := (HR.out.later hb).four; have HB6 := Lib.hid (HB.out.trans (hb.mono HB.out.size)); dsimp only at c0 c1 c2 c3 f0 f1 f2 f3 g0 g1 g2 g3; clear hb))
  go_wp2
  go_ret
  exact ⟨rfl, HB6.out⟩
theorem mixerMix_walk (m o : Mx) (n : Int) (w : World) :
    Calls Try.prog 6 #[mxv m, mxv o, .int .i64 n] w fun e w' => e = .returned (.bool true) ∧ Below w.heap.size w w' := by
  by_cases h : n < 0 ∨ 50 < n
  · exact mixerMix_out m o n h w
  · obtain ⟨k, rfl⟩ : ∃ k : Nat, n = k := ⟨n.toNat, by omega⟩
    exact mixerMix_in m o k (by omega) w
end Go.Proofs.Ytcfiigodefkncaa
