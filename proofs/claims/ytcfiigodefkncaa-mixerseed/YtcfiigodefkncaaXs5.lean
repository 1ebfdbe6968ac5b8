/- mixer.Words: so many outputs. -/
import Derived.Test.YtcfiigodefkncaaXs4
namespace Go.Proofs.Ytcfiigodefkncaa
open Go.RowKit Go.Deep

set_option maxRecDepth 100000 in
set_option maxHeartbeats 2000000 in
theorem words_ok (m : Mx) (n : Nat) (hn : n ≤ 10000) (w : World) : Calls Try.prog 13 #[mxv m, .int .i64 n] w fun e w' => ∃ (R : Option Addr) (cr : Nat), e = .returned (.tuple #[.slice R n cr, mxv (itN n m), .int .i64 0]) ∧ UP w' R cr (outs n m) ∧ Below w.heap.size w w' := by
  have C := Lib.hid (minRange_any (n : Int))
  rw [decide_eq_true (by omega)] at C
  have CS := Lib.hid step_any
  have hmk := run_make_row' (P := Try.prog) 30 22 (.int .u64 0) 8 Try.underlying30 info_u64 rfl .i64 .i64 n (by omega) (by omega)
  unfold mxv at CS
  obtain ⟨w0, hw0⟩ : ∃ w0, (w.alloc (.cells #[.int .u64 (m.a.toNat : Int), .int .u64 (m.b.toNat : Int), .int .u64 (m.c.toNat : Int), .int .u64 (m.d.toNat : Int)] 24)).alloc (.cells #[.int .u64 0, .int .u64 0, .int .u64 0, .int .u64 0] 24) = w0 := ⟨_, rfl⟩
  have hs0 : w0.heap.size = w.heap.size + 1 + 1 := by rw [← hw0]; simp
  have hb0 : Below w.heap.size w w0 := by rw [← hw0]; exact ((Below.refl _ w).alloc (Nat.le_refl _) _).alloc (by simp) _
  have hx0 : XB w0 w.heap.size m := by rw [← hw0]; exact (heap_alloc_old _ _ (by simp)).trans (heap_alloc_new w _)
  have hz0 : XB w0 (w.heap.size + 1) Mx.zero := by rw [← hw0]; exact heap_alloc2_new w _ _
  have hb1 : Below w0.heap.size w0 (w0.alloc (.cells (madeCells #[.int .u64 0] n) 22)) := (Below.refl _ _).alloc (Nat.le_refl _) _
  have HZ : Hid (Bs 22 (w0.alloc (.cells (madeCells #[.int .u64 0] n) 22)) (w.heap.size + 1 + 1) (uvs (wl n m 0))) := by
    show Bs _ _ _ _
    rw [wl_zero, ← hs0]; exact us_zeros w0 n
  have HX := Lib.hid (hx0.below hb1 (by omega))
  have HR := Lib.hid (hz0.below hb1 (by omega))
  have HB := Lib.hid (hb0.trans (hb1.mono (by omega)))
  rw [← hw0] at HZ HX HR HB
  unfold mxv
  clear hw0 hs0 hb0 hx0 hz0 hb1
  go_enter Try.func13, Try.ntmps13
  go_wp2_with fail
  refine (C.out _).mono ?_
  rintro e w1 ⟨rfl, rfl⟩
  go_wp2_with fail
  clear hmk
  go_loopw [17] (fun iv wr => ∃ k : Nat, k ≤ n ∧ iv = .int .i64 k ∧ Bs 22 wr (w.heap.size + 1 + 1) (uvs (wl n m k)) ∧ XB wr w.heap.size (itN k m) ∧ XB wr (w.heap.size + 1) Mx.zero ∧ Below w.heap.size w wr) (fun iv _ => n - (intOf iv).toNat)
  case atStart => exact ⟨0, by omega, rfl, HZ.out, HX.out, HR.out, HB.out⟩
  case round =>
    clear HZ HX HR HB
    obtain ⟨k, hk, rfl, hZ, hX, hR, hB⟩ := hrel
    have HZ := Lib.hid hZ
    have HR := Lib.hid hR
    have HB := Lib.hid hB
    have d0 := hX.c0
    have d1 := hX.c1
    have d2 := hX.c2
    have d3 := hX.c3
    have HXL := Lib.hid hX.lt
    have HX := Lib.hid hX
    clear hZ hR hB hX
    by_cases hlt : k < n
    · have CK := Lib.hid (CS.out (itN k m) wr)
      have HS := Lib.hid (wl_step hlt m)
      have HN : Hid (stN (itN k m) = itN (k + 1) m) := rfl
      generalize stO (itN k m) = o at *
      generalize stN (itN k m) = q at *
      generalize itN k m = p at *
      have hki : (k : Int) < (n : Int) := by omega
      go_wp2_with fail
      refine CK.out.mono ?_
      rintro e w2 ⟨rfl, hb⟩
      have hZ2 := HZ.out.below hb (HZ.out.lt)
      have hX2 := HX.out.below hb HXL.out
      have hR2 := HR.out.below hb HR.out.lt
      have cz := hZ2.cell (j := k) (by rw [uvs_len, wl_len hk]; exact hlt)
      rw [uvs_at (by rw [wl_len hk]; exact hlt)] at cz
      have fz := hZ2.frozen k
      have hZ3 := bs_st4 (g := w.heap.size) (hZ2.setU k o) (by omega) (.int .u64 (q.a.toNat : Int)) (.int .u64 (q.b.toNat : Int)) (.int .u64 (q.c.toNat : Int)) (.int .u64 (q.d.toNat : Int))
      rw [HS.out] at hZ3
      have c0 := hX2.c0
      have c1 := hX2.c1
      have c2 := hX2.c2
      have c3 := hX2.c3
      have f0 := hX2.frz 0
      have f1 := hX2.frz 1
      have f2 := hX2.frz 2
      have f3 := hX2.frz 3
      have hX3 := (hX2.otherCell (c := ⟨w.heap.size + 1 + 1, k, none⟩) (by show w.heap.size ≠ w.heap.size + 1 + 1; omega) (.int .u64 (o.toNat : Int))).store q
      have hR3 := bs_st4 (g := w.heap.size) (hR2.otherCell (c := ⟨w.heap.size + 1 + 1, k, none⟩) (by show w.heap.size + 1 ≠ w.heap.size + 1 + 1; omega) (.int .u64 (o.toNat : Int))) (by omega) (.int .u64 (q.a.toNat : Int)) (.int .u64 (q.b.toNat : Int)) (.int .u64 (q.c.toNat : Int)) (.int .u64 (q.d.toNat : Int))
      have hB3 := below_st4 ((HB.out.trans (hb.mono HB.out.size)).setCell (p := ⟨w.heap.size + 1 + 1, k, none⟩) (by show w.heap.size ≤ w.heap.size + 1 + 1; omega) (.int .u64 (o.toNat : Int))) (Nat.le_refl w.heap.size) (.int .u64 (q.a.toNat : Int)) (.int .u64 (q.b.toNat : Int)) (.int .u64 (q.c.toNat : Int)) (.int .u64 (q.d.toNat : Int))
      have HZ3 := Lib.hid hZ3
      have HX3 := Lib.hid hX3
      have HR3 := Lib.hid hR3
      have HB3 := Lib.hid hB3
      clear hZ2 hX2 hR2 hZ3 hX3 hR3 hB3 hb HZ HX HR HB CK d0 d1 d2 d3
      generalize (wl n m k).getD k 0 = z at *
      generalize p.a = pa at *
      generalize p.b = pb at *
      generalize p.c = pc at *
      generalize p.d = pd at *
      go_wp2
      go_roundw
      case rel => exact ⟨k + 1, by omega, by go_num, HZ3.out, by rw [← HN.out]; exact HX3.out, HR3.out, HB3.out⟩
      case measure => simp [intOf]; omega
    · obtain rfl : k = n := by omega
      have c0 := HX.out.c0
      have c1 := HX.out.c1
      have c2 := HX.out.c2
      have c3 := HX.out.c3
      have r0 := HR.out.c0
      have r1 := HR.out.c1
      have r2 := HR.out.c2
      have r3 := HR.out.c3
      have f0 := HR.out.frz 0
      have f1 := HR.out.frz 1
      have f2 := HR.out.frz 2
      have f3 := HR.out.frz 3
      have hZ := HZ.out
      rw [wl_all] at hZ
      obtain ⟨q, hq⟩ : ∃ q, itN k m = q := ⟨_, rfl⟩
      have HQ := Lib.hid hq
      rw [hq] at HX c0 c1 c2 c3
      clear hq
      have HX2 := Lib.hid (HR.out.store q)
      have hZ2 := bs_st4 (g := w.heap.size + 1) hZ (by omega) (.int .u64 (q.a.toNat : Int)) (.int .u64 (q.b.toNat : Int)) (.int .u64 (q.c.toNat : Int)) (.int .u64 (q.d.toNat : Int))
      have HB2 := Lib.hid (below_st4 (g := w.heap.size + 1) HB.out (by omega) (.int .u64 (q.a.toNat : Int)) (.int .u64 (q.b.toNat : Int)) (.int .u64 (q.c.toNat : Int)) (.int .u64 (q.d.toNat : Int)))
      have HU := Lib.hid hZ2
      clear hZ hZ2 HX HZ HR HB d0 d1 d2 d3 CS
      generalize Mx.zero.a = za at *
      generalize Mx.zero.b = zb at *
      generalize Mx.zero.c = zc at *
      generalize Mx.zero.d = zd at *
      go_wp2
      go_region
      go_wp2
      exact ret_tmxt (p := 5) (u := 4) (t := 6) (m := q) rfl rfl rfl rfl HX2.out rfl ⟨some ⟨w.heap.size + 1 + 1, 0, none⟩, k, by rw [HQ.out]; rfl, ⟨Bs.vs (T := 22) HU.out, by rw [outs_len]; exact Nat.le_refl _, by omega, fun h => by cases h⟩, HB2.out.drew⟩
end Go.Proofs.Ytcfiigodefkncaa
