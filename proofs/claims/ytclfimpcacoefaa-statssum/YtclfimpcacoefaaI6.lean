/- Int.Add, whole. -/
import Derived.Test.YtclfimpcacoefaaI5
namespace Go.Proofs.Ytclfimpcacoefaa
open Go.RowKit Go.Deep

set_option maxRecDepth 100000 in
set_option maxHeartbeats 2000000 in
theorem iadd_ge (g bx bY : Nat) (n m : Bool) (A B Z : Option Addr) (ca cb nz cz : Nat) (zn : Bool) (xs ys : List Nat) (w : World)
    (x0 : w.cell? ⟨bx, 0, none⟩ = some (.bool n)) (x1 : w.cell? ⟨bx, 1, none⟩ = some (.slice A xs.length ca)) (y0 : w.cell? ⟨bY, 0, none⟩ = some (.bool m)) (y1 : w.cell? ⟨bY, 1, none⟩ = some (.slice B ys.length cb))
    (hz : Hd w g zn Z nz cz) (ha : H.Wd w A xs) (hb : H.Wd w B ys) (kx : H.Cn xs) (ky : H.Cn ys) (hlx : xs.length ≤ 11000000000000) (hly : ys.length ≤ 11000000000000) (hne : (n == m) = false) (hv : H.val ys ≤ H.val xs) :
    Calls Try.prog 39 #[.pointer (some ⟨g, 0, none⟩), .pointer (some ⟨bx, 0, none⟩), .pointer (some ⟨bY, 0, none⟩)] w fun e w' => e = .returned (.pointer (some ⟨g, 0, none⟩)) ∧ IsI w' g (sgn n (H.val xs - H.val ys)) ∧ w.grownBy w' (some g) := by
  have hlen : ys.length ≤ xs.length := by
    rcases Nat.lt_or_ge xs.length ys.length with h | h
    · have := H.len_lt ha.1 ky h
      omega
    · exact h
  have z0 := hz.cell0
  have z1 := hz.cell1
  have f0 := hz.frozen 0
  have f1 := hz.frozen 1
  have CC := Lib.hid (fun W (b : Below w.heap.size w W) => icmpAbs_core bx bY A B ca cb xs ys W ((b.cell (block_lt_of_cell x1)).trans x1) ((b.cell (block_lt_of_cell y1)).trans y1) (ha.below b) (hb.below b) kx ky hlx hly)
  obtain ⟨o, ho⟩ : ∃ o, o = ord (H.val xs) (H.val ys) := ⟨_, rfl⟩
  have ho0 : 0 ≤ o := by rw [ho]; unfold ord; rw [if_neg (by omega)]; split <;> decide
  rw [← ho] at CC
  have CL := Lib.hid (fun W (b : Below w.heap.size w W) => lessOf_any A B ca cb xs ys W (ha.below b) (hb.below b) hlen hlx hv)
  have HZ := Lib.hid hz
  have HX1 := Lib.hid x1
  have HY1 := Lib.hid y1
  have HX0 := Lib.hid x0
  clear hz ha hb ho kx ky hv hlen
  go_enter Try.func39, Try.ntmps39
  go_wp2
  go_quiet (fail)
  go_wp2_with fail
  refine (CC.out _ (below_drewN (Below.refl _ _) _)).mono ?_
  rintro e w0 ⟨rfl, hB0⟩
  have HB0 : Hid (Below w.heap.size w w0) := (below_drewN (Below.refl _ _) _).trans hB0
  obtain ⟨q1, q2, q3, q4, q5, q6, q7⟩ := keep7 (w := w) ⟨x0, x1, y1, z0, z1, f0, f1⟩ HB0.out
  clear hB0 x0 x1 y0 y1 z0 z1 f0 f1
  go_wp2_with fail
  go_region_with ((go_at_call 45; refine (CL.out _ HB0.out.drew).mono ?_; rintro e w1 ⟨R, c, zs, rfl, hW, hl, hc, hv, hB1⟩; obtain ⟨p1, p2, p3, p4, p5, p6, p7⟩ := keep7 (w := w0) ⟨q1, q2, q3, q4, q5, q6, q7⟩ ((Below.refl _ w0).drew.trans hB1)))
  all_goals
    have HW := Lib.hid hW
    have HV := Lib.hid hv
    have HB1 : Hid (Below w.heap.size w w1) := HB0.out.drew.trans (hB1.mono HB0.out.size)
    clear hW hv hB1 p1 p2 p3 p4 p5 p6 p7
    go_wp2_with fail
    refine (stored_trim HZ.out HB1.out HW.out (by omega) hc).mono ?_
    rintro e w2 ⟨rfl, h1, h2⟩
    rw [HV.out] at h1
    have H1 := Lib.hid h1
    have H2 := Lib.hid h2
    clear h1 h2
    go_wp2
    go_ret
    exact ⟨rfl, H1.out, H2.out⟩
set_option maxRecDepth 100000 in
set_option maxHeartbeats 2000000 in
theorem iadd_lt (g bx bY : Nat) (n m : Bool) (A B Z : Option Addr) (ca cb nz cz : Nat) (zn : Bool) (xs ys : List Nat) (w : World)
    (x0 : w.cell? ⟨bx, 0, none⟩ = some (.bool n)) (x1 : w.cell? ⟨bx, 1, none⟩ = some (.slice A xs.length ca)) (y0 : w.cell? ⟨bY, 0, none⟩ = some (.bool m)) (y1 : w.cell? ⟨bY, 1, none⟩ = some (.slice B ys.length cb))
    (hz : Hd w g zn Z nz cz) (ha : H.Wd w A xs) (hb : H.Wd w B ys) (kx : H.Cn xs) (ky : H.Cn ys) (hlx : xs.length ≤ 11000000000000) (hly : ys.length ≤ 11000000000000) (hne : (n == m) = false) (hv : H.val xs < H.val ys) :
    Calls Try.prog 39 #[.pointer (some ⟨g, 0, none⟩), .pointer (some ⟨bx, 0, none⟩), .pointer (some ⟨bY, 0, none⟩)] w fun e w' => e = .returned (.pointer (some ⟨g, 0, none⟩)) ∧ IsI w' g (sgn m (H.val ys - H.val xs)) ∧ w.grownBy w' (some g) := by
  have hlen : xs.length ≤ ys.length := by
    rcases Nat.lt_or_ge ys.length xs.length with h | h
    · have := H.len_lt hb.1 kx h
      omega
    · exact h
  have z0 := hz.cell0
  have z1 := hz.cell1
  have f0 := hz.frozen 0
  have f1 := hz.frozen 1
  have CC := Lib.hid (fun W (b : Below w.heap.size w W) => icmpAbs_core bx bY A B ca cb xs ys W ((b.cell (block_lt_of_cell x1)).trans x1) ((b.cell (block_lt_of_cell y1)).trans y1) (ha.below b) (hb.below b) kx ky hlx hly)
  obtain ⟨o, ho⟩ : ∃ o, o = ord (H.val xs) (H.val ys) := ⟨_, rfl⟩
  have ho0 : o < 0 := by rw [ho, ord_lt hv]; decide
  rw [← ho] at CC
  have CL := Lib.hid (fun W (b : Below w.heap.size w W) => lessOf_any B A cb ca ys xs W (hb.below b) (ha.below b) hlen hly (Nat.le_of_lt hv))
  have HZ := Lib.hid hz
  have HX1 := Lib.hid x1
  have HY1 := Lib.hid y1
  have HX0 := Lib.hid x0
  clear hz ha hb ho kx ky hv hlen
  go_enter Try.func39, Try.ntmps39
  go_wp2
  go_quiet (fail)
  go_wp2_with fail
  refine (CC.out _ (below_drewN (Below.refl _ _) _)).mono ?_
  rintro e w0 ⟨rfl, hB0⟩
  have HB0 : Hid (Below w.heap.size w w0) := (below_drewN (Below.refl _ _) _).trans hB0
  obtain ⟨q1, q2, q3, q4, q5, q6, q7⟩ := keep7 (w := w) ⟨y0, x1, y1, z0, z1, f0, f1⟩ HB0.out
  clear hB0 x0 x1 y0 y1 z0 z1 f0 f1
  go_wp2_with fail
  go_region_with ((go_at_call 45; refine (CL.out _ HB0.out.drew).mono ?_; rintro e w1 ⟨R, c, zs, rfl, hW, hl, hc, hv, hB1⟩; obtain ⟨p1, p2, p3, p4, p5, p6, p7⟩ := keep7 (w := w0) ⟨q1, q2, q3, q4, q5, q6, q7⟩ ((Below.refl _ w0).drew.trans hB1)))
  all_goals
    have HW := Lib.hid hW
    have HV := Lib.hid hv
    have HB1 : Hid (Below w.heap.size w w1) := HB0.out.drew.trans (hB1.mono HB0.out.size)
    clear hW hv hB1 p1 p2 p3 p4 p5 p6 p7
    go_wp2_with fail
    refine (stored_trim HZ.out HB1.out HW.out (by omega) hc).mono ?_
    rintro e w2 ⟨rfl, h1, h2⟩
    rw [HV.out] at h1
    have H1 := Lib.hid h1
    have H2 := Lib.hid h2
    clear h1 h2
    go_wp2
    go_ret
    exact ⟨rfl, H1.out, H2.out⟩

theorem sgn_add_same {X Y : Int} (h : (decide (X < 0)) = decide (Y < 0)) : sgn (decide (X < 0)) (X.natAbs + Y.natAbs) = X + Y := by
  unfold sgn
  by_cases hx : X < 0
  · have : decide (X < 0) = true := by simpa using hx
    rw [this] at h
    have hy : Y < 0 := by simpa using h.symm
    rw [this, if_pos rfl]; omega
  · have : decide (X < 0) = false := by simpa using hx
    rw [this] at h
    have hy : ¬ Y < 0 := by simpa using h.symm
    rw [this, if_neg (by simp)]; omega
theorem sgn_add_ge {X Y : Int} (h : (decide (X < 0)) ≠ decide (Y < 0)) (hv : Y.natAbs ≤ X.natAbs) : sgn (decide (X < 0)) (X.natAbs - Y.natAbs) = X + Y := by
  unfold sgn
  by_cases hx : X < 0 <;> by_cases hy : Y < 0 <;> simp [hx, hy] at h ⊢ <;> omega
theorem sgn_add_lt {X Y : Int} (h : (decide (X < 0)) ≠ decide (Y < 0)) (hv : X.natAbs < Y.natAbs) : sgn (decide (Y < 0)) (Y.natAbs - X.natAbs) = X + Y := by
  unfold sgn
  by_cases hx : X < 0 <;> by_cases hy : Y < 0 <;> simp [hx, hy] at h ⊢ <;> omega

/-- Add: the sum. -/
theorem iadd_len (g bx bY : Nat) (X Y : Int) (w : World) (hg : IsH w g) (hx : IsI w bx X) (hy : IsI w bY Y) (sx : DL X 11000000000000) (sy : DL Y 11000000000000) :
    Calls Try.prog 39 #[.pointer (some ⟨g, 0, none⟩), .pointer (some ⟨bx, 0, none⟩), .pointer (some ⟨bY, 0, none⟩)] w fun e w' => e = .returned (.pointer (some ⟨g, 0, none⟩)) ∧ IsI w' g (X + Y) ∧ w.grownBy w' (some g) := by
  obtain ⟨zn, Z, nz, cz, hz⟩ := hg
  obtain ⟨A, ca, x0, x1, x2, _⟩ := hx.open_
  obtain ⟨B, cb, y0, y1, y2, _⟩ := hy.open_
  have lx := sx.out
  have ly := sy.out
  by_cases h : decide (X < 0) = decide (Y < 0)
  · rw [← h] at y0
    have := iadd_same g bx bY _ A B Z ca cb nz cz zn _ _ w x0 x1 y0 y1 hz x2 y2 lx ly
    rwa [H.val_words, H.val_words, sgn_add_same h] at this
  · have hne : ((decide (X < 0)) == decide (Y < 0)) = false := by rw [beq_eq_false_iff_ne]; exact h
    rcases Nat.lt_or_ge X.natAbs Y.natAbs with k | k
    · have := iadd_lt g bx bY _ _ A B Z ca cb nz cz zn _ _ w x0 x1 y0 y1 hz x2 y2 (H.words_cn _) (H.words_cn _) lx ly hne (by rw [H.val_words, H.val_words]; exact k)
      rwa [H.val_words, H.val_words, sgn_add_lt h k] at this
    · have := iadd_ge g bx bY _ _ A B Z ca cb nz cz zn _ _ w x0 x1 y0 y1 hz x2 y2 (H.words_cn _) (H.words_cn _) lx ly hne (by rw [H.val_words, H.val_words]; exact k)
      rwa [H.val_words, H.val_words, sgn_add_ge h k] at this
theorem iadd_any (g bx bY : Nat) (X Y : Int) (w : World) (hg : IsH w g) (hx : IsI w bx X) (hy : IsI w bY Y) (sx : X.natAbs < Bh ^ 900000) (sy : Y.natAbs < Bh ^ 900000) :
    Calls Try.prog 39 #[.pointer (some ⟨g, 0, none⟩), .pointer (some ⟨bx, 0, none⟩), .pointer (some ⟨bY, 0, none⟩)] w fun e w' => e = .returned (.pointer (some ⟨g, 0, none⟩)) ∧ IsI w' g (X + Y) ∧ w.grownBy w' (some g) :=
  iadd_len g bx bY X Y w hg hx hy ((DL.of_pow sx).up (by decide)) ((DL.of_pow sy).up (by decide))
end Go.Proofs.Ytclfimpcacoefaa
