/- mixer.Bits. -/
import Derived.Test.YtcfiigodefkncaaXs5
import Derived.Test.YtcfiigodefkncaaXw2
namespace Go.Proofs.Ytcfiigodefkncaa
open Go.RowKit Go.Deep

theorem Bs.setBit {T : Nat} {w : World} {g : Nat} {l : List Bool} (h : Bs T w g (bvs l)) (i : Nat) (x : Bool) : Bs T (w.setCell ⟨g, i, none⟩ (.bool x)) g (bvs (l.set i x)) := by
  have := h.set i (.bool x)
  rwa [show (bvs l).set i (.bool x) = bvs (l.set i x) by unfold bvs; rw [List.map_set]] at this
theorem bs_nos (w : World) (n : Nat) : Bs 4 (w.alloc (.cells (madeCells #[.bool false] n) 4)) w.heap.size (bvs (List.replicate n false)) := by
  have := Bs.made 4 w (.bool false) n
  simpa [bvs] using this
theorem obits_len (n : Nat) (m : Mx) : (obits n m).length = n := by simp [obits]
theorem obits_succ (n : Nat) (m : Mx) : obits (n + 1) m = obits n m ++ [obit m n] := by simp [obits, List.range_succ]
/-- The first k bits, and room for the others. -/
def bl (n : Nat) (m : Mx) (k : Nat) : List Bool := obits k m ++ List.replicate (n - k) false
theorem bl_len {n k : Nat} (h : k ≤ n) (m : Mx) : (bl n m k).length = n := by unfold bl; rw [List.length_append, obits_len, List.length_replicate]; omega
theorem bl_zero (n : Nat) (m : Mx) : bl n m 0 = List.replicate n false := by simp [bl, obits]
theorem bl_all (n : Nat) (m : Mx) : bl n m n = obits n m := by simp [bl]
theorem bl_step {n k : Nat} (h : k < n) (m : Mx) : (bl n m k).set k (obit m k) = bl n m (k + 1) := by
  unfold bl
  have e : n - k = (n - (k + 1)) + 1 := by omega
  rw [e, List.replicate_succ, obits_succ, List.append_assoc]
  have hl := obits_len k m
  rw [List.set_append, if_neg (by omega), hl, Nat.sub_self]
  rfl

set_option maxRecDepth 100000 in
set_option maxHeartbeats 1000000 in
theorem bits_bad (m : Mx) (n : Int) (h : ¬ (0 ≤ n ∧ n ≤ 10000)) (w : World) : Calls Try.prog 14 #[mxv m, .int .i64 n] w fun e w' => e = .returned (.tuple #[.slice none 0 0, mxv Mx.zero, .int .i64 2]) ∧ Below w.heap.size w w' := by
  have C := Lib.hid (minRange_any n)
  rw [decide_eq_false h] at C
  obtain ⟨a, b, c, d⟩ := m
  unfold mxv
  dsimp only
  clear h
  go_enter Try.func14, Try.ntmps14
  go_wp2_with fail
  refine (C.out _).mono ?_
  rintro e w1 ⟨rfl, rfl⟩
  go_wp2
  exact ret_tmxt (p := 5) (u := 4) (t := 6) (m := Mx.zero) rfl rfl rfl rfl (heap_alloc2_new w _ _) rfl ⟨rfl, ((Below.refl _ w).alloc (Nat.le_refl _) _).alloc (by simp) _⟩

theorem bit_w (x : W64) (j s : Nat) (hj : j + s = 63) : (bits .and .u64 (((x.toNat : Nat) : Int) / 2 ^ s) 1 == 1) = x.getMsbD j := by
  rw [shr_w x s (2 ^ s) (by norm_cast), show (1 : Int) = ((1#64 : W64).toNat : Int) from rfl, and_w, w64_beq]
  have := msb_shr x j (by omega)
  rw [show 63 - j = s by omega] at this
  rw [Bool.eq_iff_iff, decide_eq_true_iff]
  exact this
theorem dm_small {k : Nat} (h : k % 64 = 0) : (k + 63) / 64 = k / 64 ∧ (k + 1 + 63) / 64 = k / 64 + 1 := by omega
theorem dm_big {k : Nat} (h : k % 64 ≠ 0) : (k + 63) / 64 = k / 64 + 1 ∧ (k + 1 + 63) / 64 = k / 64 + 1 := by omega
theorem dm_next {k : Nat} (h : (k + 1) % 64 ≠ 0) : (k + 1) / 64 = k / 64 := by omega

set_option maxRecDepth 100000 in
set_option maxHeartbeats 4000000 in
theorem bits_ok (m : Mx) (n : Nat) (hn : n ≤ 10000) (w : World) : Calls Try.prog 14 #[mxv m, .int .i64 n] w fun e w' => ∃ (R : Option Addr) (cr : Nat), e = .returned (.tuple #[.slice R n cr, mxv (itN ((n + 63) / 64) m), .int .i64 0]) ∧ TP w' R cr (obits n m) ∧ Below w.heap.size w w' := by
  have C := Lib.hid (minRange_any (n : Int))
  rw [decide_eq_true (by omega)] at C
  have CS := Lib.hid step_any
  have hmk := run_make_row' (P := Try.prog) 34 4 (.bool false) 1 Try.underlying34 info_bool rfl .i64 .i64 n (by omega) (by omega)
  unfold mxv at CS
  obtain ⟨w0, hw0⟩ : ∃ w0, (w.alloc (.cells #[.int .u64 (m.a.toNat : Int), .int .u64 (m.b.toNat : Int), .int .u64 (m.c.toNat : Int), .int .u64 (m.d.toNat : Int)] 24)).alloc (.cells #[.int .u64 0, .int .u64 0, .int .u64 0, .int .u64 0] 24) = w0 := ⟨_, rfl⟩
  have hs0 : w0.heap.size = w.heap.size + 1 + 1 := by rw [← hw0]; simp
  have hb0 : Below w.heap.size w w0 := by rw [← hw0]; exact ((Below.refl _ w).alloc (Nat.le_refl _) _).alloc (by simp) _
  have hx0 : XB w0 w.heap.size m := by rw [← hw0]; exact (heap_alloc_old _ _ (by simp)).trans (heap_alloc_new w _)
  have hz0 : XB w0 (w.heap.size + 1) Mx.zero := by rw [← hw0]; exact heap_alloc2_new w _ _
  have hb1 : Below w0.heap.size w0 (w0.alloc (.cells (madeCells #[.bool false] n) 4)) := (Below.refl _ _).alloc (Nat.le_refl _) _
  have HZ : Hid (Bs 4 (w0.alloc (.cells (madeCells #[.bool false] n) 4)) (w.heap.size + 1 + 1) (bvs (bl n m 0))) := by
    show Bs _ _ _ _
    rw [bl_zero, ← hs0]; exact bs_nos w0 n
  have HX := Lib.hid (hx0.below hb1 (by omega))
  have HR := Lib.hid (hz0.below hb1 (by omega))
  have HB := Lib.hid (hb0.trans (hb1.mono (by omega)))
  rw [← hw0] at HZ HX HR HB
  unfold mxv
  clear hw0 hs0 hb0 hx0 hz0 hb1
  go_enter Try.func14, Try.ntmps14
  go_wp2_with fail
  refine (C.out _).mono ?_
  rintro e w1 ⟨rfl, rfl⟩
  go_wp2_with fail
  clear hmk
  go_loopw [8, 19] (fun xv iv wr => ∃ (k : Nat) (x : W64), k ≤ n ∧ iv = .int .i64 k ∧ xv = .int .u64 (x.toNat : Int) ∧ (k % 64 ≠ 0 → x = stO (itN (k / 64) m)) ∧ Bs 4 wr (w.heap.size + 1 + 1) (bvs (bl n m k)) ∧ XB wr w.heap.size (itN ((k + 63) / 64) m) ∧ XB wr (w.heap.size + 1) Mx.zero ∧ Below w.heap.size w wr) (fun _ iv _ => n - (intOf iv).toNat)
  case atStart => exact ⟨0, 0, by omega, rfl, rfl, fun h => absurd rfl h, HZ.out, HX.out, HR.out, HB.out⟩
  case round =>
    clear HZ HX HR HB
    obtain ⟨k, x, hk, rfl, rfl, hx, hZ, hX, hR, hB⟩ := hrel
    have HZ := Lib.hid hZ
    have HR := Lib.hid hR
    have HB := Lib.hid hB
    have HX := Lib.hid hX
    have HV := Lib.hid hx
    clear hZ hR hB hX hx
    by_cases hlt : k < n
    · have HS := Lib.hid (bl_step hlt m)
      have hki : (k : Int) < (n : Int) := by omega
      obtain ⟨u, hu⟩ : ∃ u, k % 64 = u := ⟨_, rfl⟩
      have hul : u < 64 := by omega
      obtain ⟨s, hs⟩ : ∃ s, u + s = 63 := ⟨63 - u, by omega⟩
      have hsi : (63 : Int) - (u : Int) = (s : Int) := by omega
      have hm : (k : Int).tmod 64 = (u : Int) := by rw [Int.tmod_eq_emod_of_nonneg (by omega)]; omega
      have hs63 : s ≤ 63 := by omega
      by_cases h0 : u = 0
      · have q0 : ((u : Int) == 0) = true := by subst h0; rfl
        have hd := dm_small (k := k) (by omega)
        have HD := Lib.hid hd
        rw [hd.1] at HX
        have CK := Lib.hid (CS.out (itN (k / 64) m) wr)
        have HOB : Hid (obit m k = (stO (itN (k / 64) m)).getMsbD u) := by show _ = _; unfold obit; rw [hu]
        have HN : Hid (stN (itN (k / 64) m) = itN (k / 64 + 1) m) := rfl
        have HV2 : Hid ((k + 1) % 64 ≠ 0 → stO (itN (k / 64) m) = stO (itN ((k + 1) / 64) m)) := fun h => by rw [dm_next h]
        have e1 := bit_w (stO (itN (k / 64) m)) u s hs
        rw [← HOB.out] at e1
        have d0 := HX.out.c0
        have d1 := HX.out.c1
        have d2 := HX.out.c2
        have d3 := HX.out.c3
        generalize stO (itN (k / 64) m) = o at *
        generalize stN (itN (k / 64) m) = q at *
        generalize itN (k / 64) m = p at *
        generalize obit m k = bt at *
        obtain ⟨q0', q1, q2, q3⟩ := q
        obtain ⟨p0, p1, p2, p3⟩ := p
        dsimp only at CK d0 d1 d2 d3
        clear hd hu h0 HOB
        go_wp2_with fail
        refine CK.out.mono ?_
        rintro e w2 ⟨rfl, hb⟩
        have hZ2 := HZ.out.below hb (HZ.out.lt)
        have hX2 := HX.out.later hb
        have hR2 := HR.out.later hb
        have c0 := hX2.c0
        have c1 := hX2.c1
        have c2 := hX2.c2
        have c3 := hX2.c3
        have f0 := hX2.frz 0
        have f1 := hX2.frz 1
        have f2 := hX2.frz 2
        have f3 := hX2.frz 3
        dsimp only at c0 c1 c2 c3
        have hX3 := hX2.store ⟨q0', q1, q2, q3⟩
        have hZ3 := bs_st4 (g := w.heap.size) hZ2 (by omega) (.int .u64 (q0'.toNat : Int)) (.int .u64 (q1.toNat : Int)) (.int .u64 (q2.toNat : Int)) (.int .u64 (q3.toNat : Int))
        have hR3 := bs_st4 (g := w.heap.size) hR2 (by omega) (.int .u64 (q0'.toNat : Int)) (.int .u64 (q1.toNat : Int)) (.int .u64 (q2.toNat : Int)) (.int .u64 (q3.toNat : Int))
        have hB3 := below_st4 (HB.out.trans (hb.mono HB.out.size)) (Nat.le_refl w.heap.size) (.int .u64 (q0'.toNat : Int)) (.int .u64 (q1.toNat : Int)) (.int .u64 (q2.toNat : Int)) (.int .u64 (q3.toNat : Int))
        dsimp only at hX3
        have cz := hZ3.cell (j := k) (by rw [bvs_len, bl_len hk]; exact hlt)
        rw [bvs_at (by rw [bl_len hk]; exact hlt)] at cz
        have fz := hZ3.frozen k
        have hZ4 := hZ3.setBit k bt
        rw [HS.out] at hZ4
        have HZ4 := Lib.hid hZ4
        have HX4 := Lib.hid (hX3.otherCell (c := ⟨w.heap.size + 1 + 1, k, none⟩) (by show w.heap.size ≠ w.heap.size + 1 + 1; omega) (.bool bt))
        have HR4 := Lib.hid (Bs.oth hR3 (a := ⟨w.heap.size + 1 + 1, k, none⟩) (by show w.heap.size + 1 ≠ w.heap.size + 1 + 1; omega) (.bool bt))
        have HB4 := Lib.hid (hB3.setCell (p := ⟨w.heap.size + 1 + 1, k, none⟩) (by show w.heap.size ≤ w.heap.size + 1 + 1; omega) (.bool bt))
        clear hZ2 hX2 hR2 hX3 hZ3 hR3 hB3 hZ4 hb HZ HX HR HB CK d0 d1 d2 d3
        generalize (bl n m k).getD k false = z at *
        go_wp2
        go_roundw
        case rel => exact ⟨k + 1, o, by omega, by go_num, rfl, HV2.out, HZ4.out, by rw [HD.out.2, ← HN.out]; exact HX4.out, HR4.out, HB4.out⟩
        case measure => simp [intOf]; omega
      · have q0 : ((u : Int) == 0) = false := by rw [beq_eq_false_iff_ne]; omega
        have hd := dm_big (k := k) (by omega)
        have HD := Lib.hid hd
        have hxv := HV.out (by omega)
        have HV2 : Hid ((k + 1) % 64 ≠ 0 → x = stO (itN ((k + 1) / 64) m)) := fun h => by rw [dm_next h]; exact hxv
        have HOB : Hid (obit m k = x.getMsbD u) := by show _ = _; unfold obit; rw [hu, hxv]
        have e1 := bit_w x u s hs
        rw [← HOB.out] at e1
        rw [hd.1, ← hd.2] at HX
        have cz := HZ.out.cell (j := k) (by rw [bvs_len, bl_len hk]; exact hlt)
        rw [bvs_at (by rw [bl_len hk]; exact hlt)] at cz
        have fz := HZ.out.frozen k
        generalize obit m k = bt at *
        have hZ4 := HZ.out.setBit k bt
        rw [HS.out] at hZ4
        have HZ4 := Lib.hid hZ4
        have HX4 := Lib.hid (HX.out.otherCell (c := ⟨w.heap.size + 1 + 1, k, none⟩) (by show w.heap.size ≠ w.heap.size + 1 + 1; omega) (.bool bt))
        have HR4 := Lib.hid (HR.out.otherCell (c := ⟨w.heap.size + 1 + 1, k, none⟩) (by show w.heap.size + 1 ≠ w.heap.size + 1 + 1; omega) (.bool bt))
        have HB4 := Lib.hid (HB.out.setCell (p := ⟨w.heap.size + 1 + 1, k, none⟩) (by show w.heap.size ≤ w.heap.size + 1 + 1; omega) (.bool bt))
        clear hd hu h0 HOB hZ4 HZ HX HR HB CS hxv HV
        generalize (bl n m k).getD k false = z at *
        go_wp2
        go_roundw
        case rel => exact ⟨k + 1, x, by omega, by go_num, rfl, HV2.out, HZ4.out, HX4.out, HR4.out, HB4.out⟩
        case measure => simp [intOf]; omega
    · obtain rfl : k = n := by omega
      have c0 := HX.out.c0
      have c1 := HX.out.c1
      have c2 := HX.out.c2
      have c3 := HX.out.c3
      have r0 := HR.out.c0
      have r1 := HR.out.c1
      have r2 := HR.out.c2
      have r3 := HR.out.c3
      have f0 := HR.out.frz 0
      have f1 := HR.out.frz 1
      have f2 := HR.out.frz 2
      have f3 := HR.out.frz 3
      have hZ := HZ.out
      rw [bl_all] at hZ
      obtain ⟨q, hq⟩ : ∃ q, itN ((k + 63) / 64) m = q := ⟨_, rfl⟩
      have HQ := Lib.hid hq
      rw [hq] at HX c0 c1 c2 c3
      clear hq
      have HX2 := Lib.hid (HR.out.store q)
      have hZ2 := bs_st4 (g := w.heap.size + 1) hZ (by omega) (.int .u64 (q.a.toNat : Int)) (.int .u64 (q.b.toNat : Int)) (.int .u64 (q.c.toNat : Int)) (.int .u64 (q.d.toNat : Int))
      have HB2 := Lib.hid (below_st4 (g := w.heap.size + 1) HB.out (by omega) (.int .u64 (q.a.toNat : Int)) (.int .u64 (q.b.toNat : Int)) (.int .u64 (q.c.toNat : Int)) (.int .u64 (q.d.toNat : Int)))
      have HU := Lib.hid hZ2
      clear hZ hZ2 HX HZ HR HB CS HV
      generalize Mx.zero.a = za at *
      generalize Mx.zero.b = zb at *
      generalize Mx.zero.c = zc at *
      generalize Mx.zero.d = zd at *
      go_wp2
      go_region
      go_wp2
      exact ret_tmxt (p := 5) (u := 4) (t := 6) (m := q) rfl rfl rfl rfl HX2.out rfl ⟨some ⟨w.heap.size + 1 + 1, 0, none⟩, k, by rw [HQ.out]; rfl, ⟨Bs.vs (T := 4) HU.out, by rw [obits_len]; exact Nat.le_refl _, by omega, by rw [obits_len]; omega, fun h => by cases h⟩, HB2.out.drew⟩
end Go.Proofs.Ytcfiigodefkncaa
