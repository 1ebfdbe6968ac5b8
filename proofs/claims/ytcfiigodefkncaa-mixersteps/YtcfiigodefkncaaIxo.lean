import Derived.Test.YtcfiigodefkncaaJn3
/- Int.Xor of numbers that are not below 0. -/
namespace Go.Proofs.Ytcfiigodefkncaa
open Go.RowKit Go.Deep

theorem lxor_split {i A C x y : Nat} (hA : A < 2 ^ i) (hC : C < 2 ^ i) : (A + 2 ^ i * x) ^^^ (C + 2 ^ i * y) = (A ^^^ C) + 2 ^ i * (x ^^^ y) := by
  have hAC : A ^^^ C < 2 ^ i := Nat.xor_lt_two_pow hA hC
  rw [Nat.add_comm A, Nat.add_comm C, Nat.add_comm (A ^^^ C)]
  apply Nat.eq_of_testBit_eq
  intro j
  rw [Nat.testBit_xor, Nat.testBit_two_pow_mul_add _ hA, Nat.testBit_two_pow_mul_add _ hC, Nat.testBit_two_pow_mul_add _ hAC]
  split <;> simp [Nat.testBit_xor]
/-- Digit by digit. -/
def xr : List Nat → List Nat → List Nat
  | x :: xs, y :: ys => (x ^^^ y) :: xr xs ys
  | xs, _ => xs
theorem xr_nil (xs : List Nat) : xr xs [] = xs := by cases xs <;> rfl
theorem xr_len : ∀ (xs ys : List Nat), (xr xs ys).length = xs.length
  | [], _ => by simp [xr]
  | x :: xs, [] => by rw [xr_nil]
  | x :: xs, y :: ys => by simp [xr, xr_len xs ys]
theorem xr_sm : ∀ {xs ys : List Nat}, H.Sm xs → H.Sm ys → H.Sm (xr xs ys)
  | [], _, _, _ => by simp [xr, H.Sm.nil]
  | x :: xs, [], h, _ => by rw [xr_nil]; exact h
  | x :: xs, y :: ys, h, k => by
    have h1 : x < 2 ^ 32 := h.head
    have h2 : y < 2 ^ 32 := k.head
    exact H.Sm.cons (Nat.xor_lt_two_pow h1 h2) (xr_sm h.tail k.tail)
theorem xr_val : ∀ {xs ys : List Nat}, H.Sm xs → H.Sm ys → ys.length ≤ xs.length → H.val (xr xs ys) = H.val xs ^^^ H.val ys
  | [], [], _, _, _ => rfl
  | [], y :: ys, _, _, h => by simp at h
  | x :: xs, [], _, _, _ => by rw [xr_nil]; simp [H.val]
  | x :: xs, y :: ys, h, k, hl => by
    have h1 : x < 2 ^ 32 := h.head
    have h2 : y < 2 ^ 32 := k.head
    have ih := xr_val h.tail k.tail (by simpa using hl)
    simp only [xr, H.val]
    rw [ih]
    exact (lxor_split h1 h2).symm
theorem xr_at : ∀ (k : Nat) (xs ys : List Nat), H.wd (xr xs (ys.take k)) k = H.wd xs k
  | 0, xs, ys => by rw [List.take_zero, xr_nil]
  | k + 1, [], ys => by simp [xr]
  | k + 1, x :: xs, [] => by rw [List.take_nil, xr_nil]
  | k + 1, x :: xs, y :: ys => by
    rw [List.take_succ_cons]
    simp only [xr, H.wd_cons_succ]
    exact xr_at k xs ys
theorem xr_step : ∀ (k : Nat) (xs ys : List Nat), k < ys.length → ys.length ≤ xs.length → (xr xs (ys.take k)).set k (H.wd xs k ^^^ H.wd ys k) = xr xs (ys.take (k + 1))
  | _, [], y :: ys, _, h => by simp at h
  | _, _, [], h, _ => by simp at h
  | 0, x :: xs, y :: ys, _, _ => by
    rw [List.take_zero, xr_nil]
    simp [xr, xr_nil, H.wd_cons_zero]
  | k + 1, x :: xs, y :: ys, h, h2 => by
    rw [List.take_succ_cons, List.take_succ_cons]
    simp only [xr, H.wd_cons_succ, List.set_cons_succ]
    rw [xr_step k xs ys (by simpa using h) (by simpa using h2)]
theorem xor32n (a b : Nat) (ha : a < 4294967296) (hb : b < 4294967296) : bits .xor .u32 (a : Int) (b : Int) = ((a ^^^ b : Nat) : Int) := by
  have hx : a ^^^ b < 2 ^ 32 := Nat.xor_lt_two_pow (by omega) (by omega)
  have h1 : (BitVec.ofInt 32 (a : Int)).toNat = a := by
    rw [BitVec.ofInt_natCast, BitVec.toNat_ofNat]; exact Nat.mod_eq_of_lt (by omega)
  have h2 : (BitVec.ofInt 32 (b : Int)).toNat = b := by
    rw [BitVec.ofInt_natCast, BitVec.toNat_ofNat]; exact Nat.mod_eq_of_lt (by omega)
  show IntKind.u32.wrap ((BitVec.ofInt 32 (a : Int) ^^^ BitVec.ofInt 32 (b : Int)).toNat : Int) = _
  rw [BitVec.toNat_xor, h1, h2, IntKind.wrap_u32]
  omega

set_option maxRecDepth 100000 in
set_option maxHeartbeats 2000000 in
/-- The longer one is xs. -/
theorem ixor_core (g bx bY : Nat) (A B Z : Option Addr) (ca cb nz cz nx ny : Nat) (zn sw : Bool) (xs ys : List Nat) (w : World)
    (x1 : w.cell? ⟨bx, 1, none⟩ = some (if sw then .slice B ny cb else .slice A nx ca)) (y1 : w.cell? ⟨bY, 1, none⟩ = some (if sw then .slice A nx ca else .slice B ny cb)) (HX : Hid (xs.length = nx)) (HY : Hid (ys.length = ny)) (hm : if sw then ny < nx else ny ≤ nx)
    (hz : Hd w g zn Z nz cz) (ha : H.Wd w A xs) (hb : H.Wd w B ys) (hlx : nx ≤ 900000) :
    Calls Try.prog 28 #[.pointer (some ⟨g, 0, none⟩), .pointer (some ⟨bx, 0, none⟩), .pointer (some ⟨bY, 0, none⟩)] w fun e w' => e = .returned (.pointer (some ⟨g, 0, none⟩)) ∧ IsI w' g ((H.val xs ^^^ H.val ys : Nat) : Int) ∧ w.grownBy w' (some g) := by
  have HZ := Lib.hid hz
  have HA := Lib.hid ha
  have HB := Lib.hid hb
  clear hz ha hb
  cases sw
  all_goals
    simp only [if_true, if_false, Bool.false_eq_true] at x1 y1 hm
    go_enter Try.func28, Try.ntmps28
    go_wp2
    go_quiet (fail)
    obtain ⟨w0, hw0⟩ : ∃ w0, w0 = w.drewN nq := ⟨_, rfl⟩
    rw [← hw0]
    have HB0 : Hid (Below w.heap.size w w0) := by show Below _ _ _; rw [hw0]; exact below_drewN (Below.refl _ _) _
    have HAw := Lib.hid (HA.out.below HB0.out)
    clear hw0 x1 y1
    go_wp2_with (at_builtin; refine wpList_copyD rfl _ _ rfl A nx ca xs HX.out rfl rfl HAw.out (by rw [HX.out]; omega) ?_)
    intro v w1 hO hb1
    have HO := Lib.hid hO
    have HB1 := Lib.hid hb1
    have hs0 := Lib.hid HB0.out.size
    clear hO hb1
    go_wp2_with fail
    have hny : ny ≤ nx := by omega
    go_loopw [32] (fun iv wr => ∃ k : Nat, k ≤ ny ∧ iv = .int .i64 k ∧ OD wr w0.heap.size v (xr xs (ys.take k)) ∧ Below w0.heap.size w0 wr) (fun iv _ => ny - (intOf iv).toNat)
    case atStart => exact ⟨0, by omega, rfl, by rw [List.take_zero, xr_nil]; exact HO.out, HB1.out⟩
    case round =>
      clear HO HB1 HAw
      obtain ⟨k, hk, rfl, hO, hb⟩ := hrel
      have HB2 := Lib.hid hb
      have hlen : (xr xs (ys.take k)).length = nx := by rw [xr_len]; exact HX.out
      by_cases hlt : k < ny
      · obtain ⟨g1, cap, rfl, hg1, hg2, hg3, hg4, hcell, hfz, hO2⟩ := hO.form hlen (by omega)
        have HO2 := Lib.hid hO2
        have e1 := hcell k (by omega)
        rw [xr_at] at e1
        have f1 := hfz k
        obtain ⟨b2, o2, rfl, _, hc2⟩ := (HB.out.below (HB0.out.trans (hb.mono hs0.out))).2 (by rw [HY.out]; omega)
        have e2 := hc2 k (by rw [HY.out]; exact hlt)
        have ba : H.wd xs k < 4294967296 := H.wd_lt HA.out.1 k
        have bb : H.wd ys k < 4294967296 := H.wd_lt HB.out.1 k
        have hxor := xor32n _ _ ba bb
        have ST := Lib.hid (xr_step k xs ys (by rw [HY.out]; exact hlt) (by rw [HX.out, HY.out]; exact hny))
        have HO3 := Lib.hid (HO2.out.set k (H.wd xs k ^^^ H.wd ys k))
        rw [ST.out] at HO3
        have HB3 := Lib.hid (hb.setCell (p := ⟨g1, k, none⟩) hg1 (.int .u32 ((H.wd xs k ^^^ H.wd ys k : Nat) : Int)))
        have i1 : (k : Int) < (ny : Int) := by omega
        have i2 : (k : Int) < (nx : Int) := by omega
        clear hO hO2 hcell hfz hc2 hb ST HO2 hlen
        generalize H.wd xs k = a1 at *
        generalize H.wd ys k = a2 at *
        generalize a1 ^^^ a2 = a3 at *
        clear ba bb
        go_wp2_with fail
        go_roundw
        case rel => exact ⟨k + 1, by omega, by go_num, HO3.out, HB3.out⟩
        case measure => simp [intOf]; omega
      · obtain rfl : k = ny := by omega
        have hv := xr_val HA.out.1 HB.out.1 (by rw [HX.out, HY.out]; exact hny)
        have hsm := xr_sm HA.out.1 HB.out.1
        rw [List.take_of_length_le (by rw [HY.out]; omega)] at hO hlen
        obtain ⟨R, cr, rfl, hW, hcr, _⟩ := hO.wd hsm
        have hbw := HB0.out.trans (hb.mono hs0.out)
        have z0 := (HZ.out.below hbw).cell0
        have z1 := (HZ.out.below hbw).cell1
        have f0 := (HZ.out.below hbw).frozen 0
        have f1 := (HZ.out.below hbw).frozen 1
        have T := stored_trim (n := false) (c := cr) HZ.out hbw hW (by rw [hlen]; omega) hcr
        rw [hv] at T
        have HT := Lib.hid T
        clear hO hb hW hcr hbw T hv hsm
        obtain ⟨m, hm2⟩ : ∃ m, (xr xs ys).length = m := ⟨_, rfl⟩
        rw [hm2] at HT ⊢
        clear hm2 hlen
        go_wp2_with fail
        refine HT.out.mono ?_
        rintro e w2 ⟨rfl, h1, h2⟩
        have H1 := Lib.hid h1
        have H2 := Lib.hid h2
        clear h1 h2 HT
        go_wp2
        go_ret
        exact ⟨rfl, H1.out, H2.out⟩
/-- Xor, of two that are not below 0. -/
theorem ixor_any (g bx bY X Y : Nat) (w : World) (hg : IsH w g) (hx : IsI w bx (X : Int)) (hy : IsI w bY (Y : Int)) (sx : X < Bh ^ 900000) (sy : Y < Bh ^ 900000) :
    Calls Try.prog 28 #[.pointer (some ⟨g, 0, none⟩), .pointer (some ⟨bx, 0, none⟩), .pointer (some ⟨bY, 0, none⟩)] w fun e w' => e = .returned (.pointer (some ⟨g, 0, none⟩)) ∧ IsI w' g ((X ^^^ Y : Nat) : Int) ∧ w.grownBy w' (some g) := by
  obtain ⟨zn, Z, nz, cz, hz⟩ := hg
  obtain ⟨A, ca, _, x1, x2, _⟩ := hx.open_
  obtain ⟨B, cb, _, y1, y2, _⟩ := hy.open_
  have lx := digits_le (z := (X : Int)) (by simpa using sx)
  have ly := digits_le (z := (Y : Int)) (by simpa using sy)
  rcases Nat.lt_or_ge (H.words (X : Int).natAbs).length (H.words (Y : Int).natAbs).length with h | h
  · have := ixor_core g bx bY B A Z cb ca nz cz _ _ zn true _ _ w (by simpa using x1) (by simpa using y1) (Lib.hid rfl) (Lib.hid rfl) (by simpa using h) hz y2 x2 ly
    rwa [H.val_words, H.val_words, Int.natAbs_natCast, Int.natAbs_natCast, Nat.xor_comm] at this
  · have := ixor_core g bx bY A B Z ca cb nz cz _ _ zn false _ _ w (by simpa using x1) (by simpa using y1) (Lib.hid rfl) (Lib.hid rfl) (by simpa using h) hz x2 y2 lx
    rwa [H.val_words, H.val_words, Int.natAbs_natCast, Int.natAbs_natCast] at this
end Go.Proofs.Ytcfiigodefkncaa
