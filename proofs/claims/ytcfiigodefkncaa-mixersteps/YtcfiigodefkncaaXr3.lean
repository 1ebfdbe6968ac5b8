import Derived.Test.YtcfiigodefkncaaXr2
import Derived.Test.YtcfiigodefkncaaXw2
import Derived.Deep.AppendLies
import Derived.Deep.DrawnRows
/- lotdrawerref.MWords. -/
namespace Go.Proofs.Ytcfiigodefkncaa
open Go.RowKit Go.Deep

theorem XB.grownBy {w w' : World} {row : Option Nat} {g : Nat} {m : Mx} (h : XB w g m) (hg : w.grownBy w' row) (hne : some g ≠ row) : XB w' g m := by
  obtain ⟨_, _, _, _, h5⟩ := hg
  exact (h5 g h.lt hne).trans h
theorem OU.st4 {w : World} {B : Nat} {v : Value} {xs : List W64} (h : OU w B v xs) {g : Nat} (hg : g < B) (a b c d : Value) : OU ((((w.setCell ⟨g, 0, none⟩ a).setCell ⟨g, 1, none⟩ b).setCell ⟨g, 2, none⟩ c).setCell ⟨g, 3, none⟩ d) B v xs :=
  (((h.setLow (a := ⟨g, 0, none⟩) hg a).setLow (a := ⟨g, 1, none⟩) hg b).setLow (a := ⟨g, 2, none⟩) hg c).setLow (a := ⟨g, 3, none⟩) hg d

attribute [local go_sem ↓] Go.wp_at_zero Go.wp_at_succ

set_option maxRecDepth 100000 in
set_option maxHeartbeats 4000000 in
theorem mwords_any (m : Mx) (n : Nat) (hn : n ≤ 10000) (w : World) : Calls Try.prog 15 #[mxv m, .int .i64 n] w fun e w' => ∃ (R : Option Addr) (cr : Nat), e = .returned (.tuple #[.slice R n cr, mxv (itN n m)]) ∧ UP w' R cr (outs n m) ∧ Below w.heap.size w w' := by
  have CS := Lib.hid mstep_any
  unfold mxv at CS
  obtain ⟨w0, hw0⟩ : ∃ w0, (w.alloc (.cells #[.int .u64 (m.a.toNat : Int), .int .u64 (m.b.toNat : Int), .int .u64 (m.c.toNat : Int), .int .u64 (m.d.toNat : Int)] 24)).alloc (.cells #[.int .u64 0, .int .u64 0, .int .u64 0, .int .u64 0] 24) = w0 := ⟨_, rfl⟩
  have hb0 : Below w.heap.size w w0 := by rw [← hw0]; exact ((Below.refl _ w).alloc (Nat.le_refl _) _).alloc (by simp) _
  have hx0 : XB w0 w.heap.size m := by rw [← hw0]; exact (heap_alloc_old _ _ (by simp)).trans (heap_alloc_new w _)
  have hz0 : XB w0 (w.heap.size + 1) Mx.zero := by rw [← hw0]; exact heap_alloc2_new w _ _
  have HX := Lib.hid hx0
  have HR := Lib.hid hz0
  have HB := Lib.hid hb0
  obtain ⟨i0, hi0, hzz0, hzz1, hzz2⟩ := info_parts info_u64
  unfold mxv
  clear hb0 hx0 hz0
  go_enter Try.func15, Try.ntmps15
  go_wp2_with fail
  clear hw0
  go_loopw [6, 10] (fun ov iv wr => ∃ (v : Value) (k : Nat), v = ov ∧ k ≤ n ∧ iv = .int .i64 k ∧ OU wr (w.heap.size + 1 + 1) v (outs k m) ∧ XB wr w.heap.size (itN k m) ∧ XB wr (w.heap.size + 1) Mx.zero ∧ Below w.heap.size w wr) (fun _ iv _ => n - (intOf iv).toNat)
  case atStart => exact ⟨_, 0, rfl, by omega, rfl, OU.nil _ _, HX.out, HR.out, HB.out⟩
  case round =>
    clear HX HR HB
    obtain ⟨ov, k, rfl, hk, rfl, hO, hX, hR, hB⟩ := hrel
    have HO := Lib.hid hO
    have HR := Lib.hid hR
    have HB := Lib.hid hB
    have d0 := hX.c0
    have d1 := hX.c1
    have d2 := hX.c2
    have d3 := hX.c3
    have HXL := Lib.hid hX.lt
    have HX := Lib.hid hX
    clear hO hR hB hX
    by_cases hlt : k < n
    · have CK := Lib.hid (CS.out (itN k m) wr)
      have HN : Hid (stN (itN k m) = itN (k + 1) m) := rfl
      have HT : Hid (outs (k + 1) m = outs k m ++ [stO (itN k m)]) := rfl
      have HL : Hid ((outs k m).length = k) := outs_len k m
      generalize stO (itN k m) = o at *
      generalize stN (itN k m) = q at *
      generalize itN k m = p at *
      generalize outs k m = xs at *
      have hki : (k : Int) < (n : Int) := by omega
      obtain ⟨q0, q1, q2, q3⟩ := q
      obtain ⟨p0, p1, p2, p3⟩ := p
      dsimp only at CK d0 d1 d2 d3
      go_wp2_with fail
      refine CK.out.mono ?_
      rintro e w2 ⟨rfl, hb⟩
      have hb2 := hb.trans ((bl_new w2 (.cells #[.int .u64 (q0.toNat : Int), .int .u64 (q1.toNat : Int), .int .u64 (q2.toNat : Int), .int .u64 (q3.toNat : Int)] 24)).mono hb.size)
      have hq := xb_new w2 ⟨q0, q1, q2, q3⟩
      dsimp only at hq
      have hblk : ∀ k, ov.ownBlock = some k → w.heap.size + 1 + 1 ≤ k ∧ k < w2.heap.size := fun k hk => ⟨(World.ownsRow.lt HO.out k hk).1, Nat.lt_of_lt_of_le (World.ownsRow.lt HO.out k hk).2 hb.size⟩
      have hO2 := HO.out.later hb2
      have hX2 := HX.out.later hb2
      have hR2 := HR.out.later hb2
      have hB2 := HB.out.trans (hb2.mono HB.out.size)
      have hs2 : w.heap.size + 1 < w2.heap.size := Nat.lt_of_lt_of_le HR.out.lt hb.size
      clear hb hb2 CK HX HR HB HO
      go_wp2_with fail
      obtain ⟨wa, hwa⟩ : ∃ wa, w2.alloc (.cells #[.int .u64 (q0.toNat : Int), .int .u64 (q1.toNat : Int), .int .u64 (q2.toNat : Int), .int .u64 (q3.toNat : Int)] 24) = wa := ⟨_, rfl⟩
      have hsa : wa.heap.size = w2.heap.size + 1 := by rw [← hwa]; simp
      rw [hwa] at hO2 hX2 hR2 hB2 hq ⊢
      clear hwa
      have HO := Lib.hid hO2
      have HX := Lib.hid hX2
      have HR := Lib.hid hR2
      have HB := Lib.hid hB2
      have HQ := Lib.hid hq
      have HBL := Lib.hid hblk
      have HSA := Lib.hid hsa
      have HS2 := Lib.hid hs2
      obtain ⟨u0, u1, u2, u3⟩ := hq.four
      dsimp only at u0 u1 u2 u3
      clear hO2 hX2 hR2 hB2 hq hblk hsa hs2
      generalize w2.heap.size = gq at *
      go_region_held3 (fun w' => w'.cell? ⟨gq, 0, none⟩ = some (.int .u64 (q0.toNat : Int)) ∧ w'.cell? ⟨gq, 1, none⟩ = some (.int .u64 (q1.toNat : Int)) ∧ w'.cell? ⟨gq, 2, none⟩ = some (.int .u64 (q2.toNat : Int)) ∧ w'.cell? ⟨gq, 3, none⟩ = some (.int .u64 (q3.toNat : Int))) (go_keep)
        (first | (refine step_append_lies _ (by rfl) _ _ _ (by rfl) (w.heap.size + 1 + 1) 22 i0 _ 1 8 Try.underlying30 hi0 hzz0 hzz1 hzz2 rfl (by omega) ov xs.length (uvs xs) (by rfl) ((OU.alloc HO.out _).drew) ⟨wa.heap.size, 0, none⟩ 1 1 [.int .u64 (o.toNat : Int)] (by rfl) (by rfl) (World.news_of_block (cs := #[.int .u64 (o.toNat : Int)]) (t := 22) (fr := (0, 0)) (heap_alloc_new wa _)) (by simp [Value.oneCell']) (by have := HL.out; omega) (by have := HL.out; unfold maxLen; omega) (by have := HL.out; omega) (by have := HSA.out; have := HS2.out; simp; omega) (wa.heap.size + 1) (by simp) ?_; intro gg cap w3 hown hgrow hat hlt1; have k2 := XB.grownBy (show XB (wa.alloc (.cells #[.int .u64 (o.toNat : Int)] 22)).drew gq ⟨q0, q1, q2, q3⟩ from HQ.out.later (bl_new wa _).drew) hgrow (fun e => by have := HBL.out _ e.symm; omega); obtain ⟨v0, v1, v2, v3⟩ := k2.four; have k3 := XB.grownBy (show XB (wa.alloc (.cells #[.int .u64 (o.toNat : Int)] 22)).drew w.heap.size ⟨p0, p1, p2, p3⟩ from HX.out.later (bl_new wa _).drew) hgrow (fun e => by have := HBL.out _ e.symm; omega); obtain ⟨t0, t1, t2, t3⟩ := k3.four; have f0 := k3.frz 0; have f1 := k3.frz 1; have f2 := k3.frz 2; have f3 := k3.frz 3; have k4 : XB _ gq ⟨q0, q1, q2, q3⟩ := bs_st4 (g := w.heap.size) k2 (by have := HSA.out; have := HS2.out; omega) (.int .u64 (q0.toNat : Int)) (.int .u64 (q1.toNat : Int)) (.int .u64 (q2.toNat : Int)) (.int .u64 (q3.toNat : Int)); obtain ⟨y0, y1, y2, y3⟩ := k4.four; have HG := Lib.hid hgrow; have HW := Lib.hid hown; have HK3 := Lib.hid k3; dsimp only at v0 v1 v2 v3 t0 t1 t2 t3 y0 y1 y2 y3; clear k2 k3 k4 hown hgrow))
      have hsz := HB.out.size
      have hO3 : OU w3 (w.heap.size + 1 + 1) (.slice (some ⟨gg, 0, none⟩) (xs.length + 1) cap) (xs ++ [o]) := by
        have := HW.out
        unfold OU
        rw [uvs_append, List.length_append]
        exact this
      have HO3 := Lib.hid (hO3.st4 (g := w.heap.size) (by omega) (.int .u64 (q0.toNat : Int)) (.int .u64 (q1.toNat : Int)) (.int .u64 (q2.toNat : Int)) (.int .u64 (q3.toNat : Int)))
      rw [← HT.out] at HO3
      have HX3 := Lib.hid (HK3.out.store ⟨q0, q1, q2, q3⟩)
      have hR3 : XB w3 (w.heap.size + 1) Mx.zero := XB.grownBy (show XB (wa.alloc (.cells #[.int .u64 (o.toNat : Int)] 22)).drew (w.heap.size + 1) Mx.zero from HR.out.later (bl_new wa _).drew) HG.out (fun e => by have := HBL.out _ e.symm; omega)
      have HR3 := Lib.hid (bs_st4 (g := w.heap.size) hR3 (by omega) (.int .u64 (q0.toNat : Int)) (.int .u64 (q1.toNat : Int)) (.int .u64 (q2.toNat : Int)) (.int .u64 (q3.toNat : Int)))
      have hB3 : Below w.heap.size w w3 := ((HB.out.alloc hsz (.cells #[.int .u64 (o.toNat : Int)] 22)).drew).grown HG.out (by simp; omega) (fun k hk => by have := HBL.out k hk; omega)
      have HB3 := Lib.hid (below_st4 hB3 (Nat.le_refl w.heap.size) (.int .u64 (q0.toNat : Int)) (.int .u64 (q1.toNat : Int)) (.int .u64 (q2.toNat : Int)) (.int .u64 (q3.toNat : Int)))
      clear hsz hO3 hR3 hB3 HO HX HR HB HQ HBL HSA HS2 HG HW HK3 u0 u1 u2 u3 v0 v1 v2 v3 y0 y1 y2 y3 t0 t1 t2 t3 f0 f1 f2 f3 d0 d1 d2 d3
      go_wp2
      go_roundw
      case rel => exact ⟨_, k + 1, rfl, by omega, by go_num, HO3.out, by rw [← HN.out]; exact HX3.out, HR3.out, HB3.out⟩
      case measure => simp [intOf]; omega
    · obtain rfl : k = n := by omega
      obtain ⟨R, cr, rfl, hU⟩ := HO.out.up
      rw [outs_len] at HO ⊢
      obtain ⟨q, hq⟩ : ∃ q, itN k m = q := ⟨_, rfl⟩
      have HQ := Lib.hid hq
      rw [hq] at HX d0 d1 d2 d3
      clear hq hU
      have r0 := HR.out.c0
      have r1 := HR.out.c1
      have r2 := HR.out.c2
      have r3 := HR.out.c3
      have f0 := HR.out.frz 0
      have f1 := HR.out.frz 1
      have f2 := HR.out.frz 2
      have f3 := HR.out.frz 3
      have HX2 := Lib.hid (HR.out.store q)
      have HO2 := Lib.hid (HO.out.st4 (g := w.heap.size + 1) (by omega) (.int .u64 (q.a.toNat : Int)) (.int .u64 (q.b.toNat : Int)) (.int .u64 (q.c.toNat : Int)) (.int .u64 (q.d.toNat : Int)))
      have HB2 := Lib.hid (below_st4 (g := w.heap.size + 1) HB.out (by omega) (.int .u64 (q.a.toNat : Int)) (.int .u64 (q.b.toNat : Int)) (.int .u64 (q.c.toNat : Int)) (.int .u64 (q.d.toNat : Int)))
      clear HX HO HR HB CS
      generalize Mx.zero.a = za at *
      generalize Mx.zero.b = zb at *
      generalize Mx.zero.c = zc at *
      generalize Mx.zero.d = zd at *
      go_wp2
      go_region
      go_wp2
      exact ret_tmx (p := 5) (u := 4) (m := q) rfl rfl rfl HX2.out rfl ⟨R, cr, by rw [HQ.out]; rfl, HO2.out.drew.upv (outs_len k m), HB2.out.drew⟩
end Go.Proofs.Ytcfiigodefkncaa
