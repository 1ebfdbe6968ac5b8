/- stats.Join and stats.Spread. -/
import Derived.Test.YtclfimpcacoefaaMo1
namespace Go.Proofs.Ytclfimpcacoefaa
open Go.RowKit Go.Deep

/-- What Join answers. -/
def joinT (n s q n' s' q' : Int) : Value :=
  if RtM n s q ∧ RtM n' s' q' then (if n + n' ≤ 1024 then .tuple #[.agg #[.int .i64 (n + n'), .int .i64 (s + s'), .int .i64 (q + q')], .int .i64 0] else .tuple #[.agg #[.int .i64 0, .int .i64 0, .int .i64 0], .int .i64 4]) else .tuple #[.agg #[.int .i64 0, .int .i64 0, .int .i64 0], .int .i64 1]
theorem joinT_no {n s q n' s' q' : Int} (h : ¬ (RtM n s q ∧ RtM n' s' q')) : joinT n s q n' s' q' = .tuple #[.agg #[.int .i64 0, .int .i64 0, .int .i64 0], .int .i64 1] := if_neg h
theorem joinT_full {n s q n' s' q' : Int} (h : RtM n s q) (h' : RtM n' s' q') (h1 : 1024 < n + n') : joinT n s q n' s' q' = .tuple #[.agg #[.int .i64 0, .int .i64 0, .int .i64 0], .int .i64 4] := by
  unfold joinT; rw [if_pos ⟨h, h'⟩, if_neg (by omega)]
theorem joinT_ok {n s q n' s' q' : Int} (h : RtM n s q) (h' : RtM n' s' q') (h1 : n + n' ≤ 1024) : joinT n s q n' s' q' = .tuple #[.agg #[.int .i64 (n + n'), .int .i64 (s + s'), .int .i64 (q + q')], .int .i64 0] := by
  unfold joinT; rw [if_pos ⟨h, h'⟩, if_pos h1]
/-- What Spread answers. -/
def sprT (n s q : Int) : Value := if RtM n s q then .tuple #[.int .i64 (n * q - s * s), .int .i64 0] else .tuple #[.int .i64 0, .int .i64 1]
theorem sprT_ok {n s q : Int} (h : RtM n s q) : sprT n s q = .tuple #[.int .i64 (n * q - s * s), .int .i64 0] := if_pos h
theorem sprT_no {n s q : Int} (h : ¬ RtM n s q) : sprT n s q = .tuple #[.int .i64 0, .int .i64 1] := if_neg h

set_option maxRecDepth 100000 in
set_option maxHeartbeats 2000000 in
theorem spread_any (n s q : Int) (w : World) :
    Calls Try.prog 12 #[.agg #[.int .i64 n, .int .i64 s, .int .i64 q]] w fun e w' => e = .returned (sprT n s q) ∧ Below w.heap.size w w' := by
  have hB0 : Below w.heap.size w (w.alloc (.cells #[.int .i64 n, .int .i64 s, .int .i64 q] 24)) := (Below.refl _ _).alloc (Nat.le_refl _) _
  have HB0 := Lib.hid hB0
  have HM := Lib.hid (mb_new w n s q)
  have CR := Lib.hid (mright_any n s q (w.alloc (.cells #[.int .i64 n, .int .i64 s, .int .i64 q] 24)))
  have hl0 := load_mm HM.out
  unfold mmv at hl0
  clear hB0
  by_cases h : RtM n s q
  · rw [rtM_yes h] at CR
    have R := Lib.hid (sprT_ok h)
    have hbd := rtM_bd h.1 h.2.1 h.2.2.1 h.2.2.2.1 h.2.2.2.2.1 h.2.2.2.2.2.1
    have e1 : IntKind.i64.wrap (s * s) = s * s := IntWalk.i64_in _ (by omega)
    have e2 : IntKind.i64.wrap (n * q) = n * q := IntWalk.i64_in _ (by omega)
    have e3 : IntKind.i64.wrap (n * q - s * s) = n * q - s * s := IntWalk.i64_in _ (by omega)
    clear h hbd
    go_enter Try.func12, Try.ntmps12
    go_wp2_with fail
    refine CR.out.mono ?_
    rintro e w1 ⟨rfl, h1⟩
    have HM1 := Lib.hid (HM.out.below h1 (by simp))
    have HB1 := Lib.hid (HB0.out.trans (h1.mono (by simp)))
    have hc0 := HM1.out.c0
    have hc1 := HM1.out.c1
    have hc2 := HM1.out.c2
    clear h1
    go_wp2
    go_ret2
    exact ⟨by rw [R.out]; rfl, HB1.out⟩
  · rw [rtM_no h] at CR
    have R := Lib.hid (sprT_no h)
    clear h
    go_enter Try.func12, Try.ntmps12
    go_wp2_with fail
    refine CR.out.mono ?_
    rintro e w1 ⟨rfl, h1⟩
    have HB1 := Lib.hid (HB0.out.trans (h1.mono (by simp)))
    clear h1
    go_wp2
    go_ret2
    exact ⟨by rw [R.out]; rfl, HB1.out⟩

set_option maxRecDepth 100000 in
set_option maxHeartbeats 4000000 in
theorem join_any (n s q n' s' q' : Int) (w : World) :
    Calls Try.prog 11 #[.agg #[.int .i64 n, .int .i64 s, .int .i64 q], .agg #[.int .i64 n', .int .i64 s', .int .i64 q']] w fun e w' => e = .returned (joinT n s q n' s' q') ∧ Below w.heap.size w w' := by
  obtain ⟨w1, hw1⟩ : ∃ w1, w1 = w.alloc (.cells #[.int .i64 n, .int .i64 s, .int .i64 q] 24) := ⟨_, rfl⟩
  obtain ⟨w2, hw2⟩ : ∃ w2, w2 = w1.alloc (.cells #[.int .i64 n', .int .i64 s', .int .i64 q'] 24) := ⟨_, rfl⟩
  obtain ⟨w3, hw3⟩ : ∃ w3, w3 = w2.alloc (.cells #[.int .i64 0, .int .i64 0, .int .i64 0] 24) := ⟨_, rfl⟩
  have s1 : w1.heap.size = w.heap.size + 1 := by rw [hw1]; simp
  have s2 : w2.heap.size = w.heap.size + 1 + 1 := by rw [hw2]; simp [s1]
  have s3 : w3.heap.size = w.heap.size + 1 + 1 + 1 := by rw [hw3]; simp [s2]
  have b1 : Below w.heap.size w w1 := by rw [hw1]; exact (Below.refl _ _).alloc (Nat.le_refl _) _
  have b2 : Below w1.heap.size w1 w2 := by rw [hw2]; exact (Below.refl _ _).alloc (Nat.le_refl _) _
  have b3 : Below w2.heap.size w2 w3 := by rw [hw3]; exact (Below.refl _ _).alloc (Nat.le_refl _) _
  have m1 : MB w1 w.heap.size n s q := by rw [hw1]; exact mb_new w n s q
  have m2 : MB w2 (w.heap.size + 1) n' s' q' := by rw [hw2, ← s1]; exact mb_new w1 n' s' q'
  have m3 : MB w3 (w.heap.size + 1 + 1) 0 0 0 := by rw [hw3, ← s2]; exact mb_new w2 0 0 0
  have M1 := Lib.hid ((m1.below b2 (by omega)).below b3 (by omega))
  have M2 := Lib.hid (m2.below b3 (by omega))
  have M3 := Lib.hid m3
  have B3 := Lib.hid ((b1.trans (b2.mono (by omega))).trans (b3.mono (by omega)))
  have CA : Hid (∀ wx, Below w3.heap.size w3 wx → Calls Try.prog 14 #[.agg #[.int .i64 n, .int .i64 s, .int .i64 q]] wx fun e w' => e = .returned (.bool (rtM n s q)) ∧ Below wx.heap.size wx w') := fun wx _ => mright_any n s q wx
  have CB := Lib.hid (fun wx => mright_any n' s' q' wx)
  have CA := Lib.hid (mright_any n s q w3)
  have hl0 := load_mm M1.out
  unfold mmv at hl0
  subst hw1 hw2 hw3
  clear b1 b2 b3 m1 m2 m3
  by_cases h : RtM n s q
  · rw [rtM_yes h] at CA
    by_cases h' : RtM n' s' q'
    · rw [rtM_yes h'] at CB
      have hb1 : (0 ≤ n ∧ n ≤ 1024) ∧ (-1073741824 ≤ s ∧ s ≤ 1073741824) ∧ (0 ≤ q ∧ q ≤ 1125899906842624) := ⟨⟨h.1, h.2.1⟩, by have := h.1; have := h.2.1; have := h.2.2.1; have := h.2.2.2.1; omega, by have := h.1; have := h.2.1; have := h.2.2.2.2.1; have := h.2.2.2.2.2.1; omega⟩
      have hb2 : (0 ≤ n' ∧ n' ≤ 1024) ∧ (-1073741824 ≤ s' ∧ s' ≤ 1073741824) ∧ (0 ≤ q' ∧ q' ≤ 1125899906842624) := ⟨⟨h'.1, h'.2.1⟩, by have := h'.1; have := h'.2.1; have := h'.2.2.1; have := h'.2.2.2.1; omega, by have := h'.1; have := h'.2.1; have := h'.2.2.2.2.1; have := h'.2.2.2.2.2.1; omega⟩
      by_cases hn : n + n' ≤ 1024
      · have R := Lib.hid (joinT_ok h h' hn)
        clear h h'
        go_enter Try.func11, Try.ntmps11
        go_wp2_with fail
        refine CA.out.mono ?_
        rintro e wa ⟨rfl, ha⟩
        have M1a := Lib.hid (M1.out.below ha (by omega))
        have M2a := Lib.hid (M2.out.below ha (by omega))
        have M3a := Lib.hid (M3.out.below ha (by omega))
        have B3a := Lib.hid (B3.out.trans (ha.mono (by omega)))
        have hsz := ha.size
        have hl1 := M2a.out.c0
        have hl2 := M2a.out.c1
        have hl3 := M2a.out.c2
        clear ha CA M1 M2 M3 B3 hl0
        go_wp2_with fail
        refine (CB.out wa).mono ?_
        rintro e wb ⟨rfl, hb⟩
        have M1b := Lib.hid (M1a.out.below hb (by omega))
        have M2b := Lib.hid (M2a.out.below hb (by omega))
        have M3b := Lib.hid (M3a.out.below hb (by omega))
        have B3b := Lib.hid (B3a.out.trans (hb.mono (by omega)))
        have c10 := M1b.out.c0
        have c11 := M1b.out.c1
        have c12 := M1b.out.c2
        have c20 := M2b.out.c0
        have c21 := M2b.out.c1
        have c22 := M2b.out.c2
        have HS := Lib.hid (M3b.out.store (n + n') (s + s') (q + q'))
        have g0 := M3b.out.c0
        have g1 := M3b.out.c1
        have g2 := M3b.out.c2
        have f0 := M3b.out.frozen 0
        have f1 := M3b.out.frozen 1
        have f2 := M3b.out.frozen 2
        have HBS := Lib.hid (((B3b.out.setCell (p := ⟨w.heap.size + 1 + 1, 0, none⟩) (by simp; omega) (.int .i64 (n + n'))).setCell (p := ⟨w.heap.size + 1 + 1, 1, none⟩) (by simp; omega) (.int .i64 (s + s'))).setCell (p := ⟨w.heap.size + 1 + 1, 2, none⟩) (by simp; omega) (.int .i64 (q + q')))
        clear hb CB M1a M2a M3a B3a hl1 hl2 hl3
        go_wp2
        refine ret_mm (p := 4) (u := 5) rfl rfl rfl HS.out rfl ⟨?_, HBS.out⟩
        rw [R.out]; rfl
      · have R := Lib.hid (joinT_full h h' (by omega))
        clear h h'
        go_enter Try.func11, Try.ntmps11
        go_wp2_with fail
        refine CA.out.mono ?_
        rintro e wa ⟨rfl, ha⟩
        have M1a := Lib.hid (M1.out.below ha (by omega))
        have M2a := Lib.hid (M2.out.below ha (by omega))
        have M3a := Lib.hid (M3.out.below ha (by omega))
        have B3a := Lib.hid (B3.out.trans (ha.mono (by omega)))
        have hsz := ha.size
        have hl1 := M2a.out.c0
        have hl2 := M2a.out.c1
        have hl3 := M2a.out.c2
        clear ha CA M1 M2 M3 B3 hl0
        go_wp2_with fail
        refine (CB.out wa).mono ?_
        rintro e wb ⟨rfl, hb⟩
        have M1b := Lib.hid (M1a.out.below hb (by omega))
        have M2b := Lib.hid (M2a.out.below hb (by omega))
        have M3b := Lib.hid (M3a.out.below hb (by omega))
        have B3b := Lib.hid (B3a.out.trans (hb.mono (by omega)))
        have c10 := M1b.out.c0
        have c20 := M2b.out.c0
        have g0 := M3b.out.c0
        have g1 := M3b.out.c1
        have g2 := M3b.out.c2
        have f0 := M3b.out.frozen 0
        have f1 := M3b.out.frozen 1
        have f2 := M3b.out.frozen 2
        have HS := Lib.hid (M3b.out.store 0 0 0)
        have HBS := Lib.hid (((B3b.out.setCell (p := ⟨w.heap.size + 1 + 1, 0, none⟩) (by simp; omega) (.int .i64 0)).setCell (p := ⟨w.heap.size + 1 + 1, 1, none⟩) (by simp; omega) (.int .i64 0)).setCell (p := ⟨w.heap.size + 1 + 1, 2, none⟩) (by simp; omega) (.int .i64 0))
        clear hb CB M1a M2a M3a B3a hl1 hl2 hl3
        go_wp2
        refine ret_mm (p := 4) (u := 5) rfl rfl rfl HS.out rfl ⟨?_, HBS.out⟩
        rw [R.out]; rfl
    · rw [rtM_no h'] at CB
      have R := Lib.hid (joinT_no (n := n) (s := s) (q := q) (n' := n') (s' := s') (q' := q') (fun x => h' x.2))
      clear h h'
      go_enter Try.func11, Try.ntmps11
      go_wp2_with fail
      refine CA.out.mono ?_
      rintro e wa ⟨rfl, ha⟩
      have M2a := Lib.hid (M2.out.below ha (by omega))
      have M3a := Lib.hid (M3.out.below ha (by omega))
      have B3a := Lib.hid (B3.out.trans (ha.mono (by omega)))
      have hsz := ha.size
      have hl1 := M2a.out.c0
      have hl2 := M2a.out.c1
      have hl3 := M2a.out.c2
      clear ha CA M1 M2 M3 B3 hl0
      go_wp2_with fail
      refine (CB.out wa).mono ?_
      rintro e wb ⟨rfl, hb⟩
      have M3b := Lib.hid (M3a.out.below hb (by omega))
      have B3b := Lib.hid (B3a.out.trans (hb.mono (by omega)))
      have g0 := M3b.out.c0
      have g1 := M3b.out.c1
      have g2 := M3b.out.c2
      have f0 := M3b.out.frozen 0
      have f1 := M3b.out.frozen 1
      have f2 := M3b.out.frozen 2
      have HS := Lib.hid (M3b.out.store 0 0 0)
      have HBS := Lib.hid (((B3b.out.setCell (p := ⟨w.heap.size + 1 + 1, 0, none⟩) (by simp; omega) (.int .i64 0)).setCell (p := ⟨w.heap.size + 1 + 1, 1, none⟩) (by simp; omega) (.int .i64 0)).setCell (p := ⟨w.heap.size + 1 + 1, 2, none⟩) (by simp; omega) (.int .i64 0))
      clear hb CB M2a M3a B3a hl1 hl2 hl3
      go_wp2
      refine ret_mm (p := 4) (u := 5) rfl rfl rfl HS.out rfl ⟨?_, HBS.out⟩
      rw [R.out]; rfl
  · rw [rtM_no h] at CA
    have R := Lib.hid (joinT_no (n := n) (s := s) (q := q) (n' := n') (s' := s') (q' := q') (fun x => h x.1))
    clear h
    go_enter Try.func11, Try.ntmps11
    go_wp2_with fail
    refine CA.out.mono ?_
    rintro e wa ⟨rfl, ha⟩
    have M3a := Lib.hid (M3.out.below ha (by omega))
    have B3a := Lib.hid (B3.out.trans (ha.mono (by omega)))
    have hsz := ha.size
    have g0 := M3a.out.c0
    have g1 := M3a.out.c1
    have g2 := M3a.out.c2
    have f0 := M3a.out.frozen 0
    have f1 := M3a.out.frozen 1
    have f2 := M3a.out.frozen 2
    have HS := Lib.hid (M3a.out.store 0 0 0)
    have HBS := Lib.hid (((B3a.out.setCell (p := ⟨w.heap.size + 1 + 1, 0, none⟩) (by simp; omega) (.int .i64 0)).setCell (p := ⟨w.heap.size + 1 + 1, 1, none⟩) (by simp; omega) (.int .i64 0)).setCell (p := ⟨w.heap.size + 1 + 1, 2, none⟩) (by simp; omega) (.int .i64 0))
    clear ha CB CA M1 M2 M3 B3 hl0
    go_wp2
    refine ret_mm (p := 4) (u := 5) rfl rfl rfl HS.out rfl ⟨?_, HBS.out⟩
    rw [R.out]; rfl
end Go.Proofs.Ytclfimpcacoefaa
