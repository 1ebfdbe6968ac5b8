/- Int.And of numbers that are not below 0. -/
import Derived.Test.YtfhbnolppahfhaaIb
namespace Go.Proofs.Ytfhbnolppahfhaa
open Go.RowKit Go.Deep

theorem land_split {i A C x y : Nat} (hA : A < 2 ^ i) (hC : C < 2 ^ i) : (A + 2 ^ i * x) &&& (C + 2 ^ i * y) = (A &&& C) + 2 ^ i * (x &&& y) := by
  have hAC : A &&& C < 2 ^ i := Nat.and_lt_two_pow _ hC
  rw [Nat.add_comm A, Nat.add_comm C, Nat.add_comm (A &&& C)]
  apply Nat.eq_of_testBit_eq
  intro j
  rw [Nat.testBit_and, Nat.testBit_two_pow_mul_add _ hA, Nat.testBit_two_pow_mul_add _ hC, Nat.testBit_two_pow_mul_add _ hAC]
  split <;> simp [Nat.testBit_and]
theorem Bw_two (k : Nat) : H.Bw ^ k = 2 ^ (32 * k) := by rw [Nat.pow_mul]; rfl
theorem and_step {xs ys ds : List Nat} {k : Nat} (hx : H.Sm xs) (hy : H.Sm ys) (hk : ds.length = k) (h : H.val ds = H.val (xs.take k) &&& H.val (ys.take k)) (hkx : k ≤ xs.length) (hky : k ≤ ys.length) :
    H.val (ds ++ [H.wd xs k &&& H.wd ys k]) = H.val (xs.take (k + 1)) &&& H.val (ys.take (k + 1)) := by
  have h1 := H.val_lt (hx.take k)
  have h2 := H.val_lt (hy.take k)
  rw [List.length_take, Nat.min_eq_left hkx, Bw_two] at h1
  rw [List.length_take, Nat.min_eq_left hky, Bw_two] at h2
  rw [H.val_append, hk, H.val_take_any, H.val_take_any, Bw_two, land_split h1 h2, h]
  simp [H.val]
theorem and_done {xs ys : List Nat} {n : Nat} (hx : H.Sm xs) (hy : H.Sm ys) (hn : n = min xs.length ys.length) : H.val (xs.take n) &&& H.val (ys.take n) = H.val xs &&& H.val ys := by
  have key : ∀ {us vs : List Nat}, H.Sm us → H.Sm vs → us.length ≤ vs.length → H.val us &&& H.val (vs.take us.length) = H.val us &&& H.val vs := by
    intro us vs hu hv hl
    have h1 := H.val_lt hu
    have h2 := H.val_lt (hv.take us.length)
    rw [List.length_take, Nat.min_eq_left hl, Bw_two] at h2
    rw [Bw_two] at h1
    have e := H.val_split (xs := vs) hl
    rw [Bw_two] at e
    rw [e]
    have := land_split (x := 0) (y := H.val (vs.drop us.length)) h1 h2
    rw [Nat.mul_zero, Nat.add_zero, Nat.zero_and, Nat.mul_zero, Nat.add_zero] at this
    exact this.symm
  rcases Nat.le_total xs.length ys.length with h | h
  · rw [hn, Nat.min_eq_left h, List.take_of_length_le (Nat.le_refl _)]
    exact key hx hy h
  · rw [hn, Nat.min_eq_right h, List.take_of_length_le (l := ys) (Nat.le_refl _), Nat.and_comm, key hy hx h, Nat.and_comm]
theorem and32n (a b : Nat) (ha : a < 4294967296) (hb : b < 4294967296) : bits .and .u32 (a : Int) (b : Int) = ((a &&& b : Nat) : Int) := (bits_nat .u32 32 (by decide) wraps_u32 a b (by omega) (by omega)).1

theorem Fill.drewN {w wr : World} {n k : Nat} {ds : List Nat} (h : Fill w n k ds wr) (j : Nat) : Fill w n k ds (wr.drewN j) := ⟨h.1, h.2.1, h.2.2.1, below_drewN h.2.2.2 j⟩
theorem Fill.drew {w wr : World} {n k : Nat} {ds : List Nat} (h : Fill w n k ds wr) : Fill w n k ds wr.drew := ⟨h.1, h.2.1, h.2.2.1, h.2.2.2.drew⟩

set_option maxRecDepth 100000 in
set_option maxHeartbeats 2000000 in
theorem iand_core (g bx bY n : Nat) (A B Z : Option Addr) (ca cb nz cz nx ny : Nat) (zn : Bool) (xs ys : List Nat) (w : World)
    (x1 : w.cell? ⟨bx, 1, none⟩ = some (.slice A nx ca)) (y1 : w.cell? ⟨bY, 1, none⟩ = some (.slice B ny cb)) (HX : Hid (xs.length = nx)) (HY : Hid (ys.length = ny)) (hm : (n = nx ∧ nx ≤ ny) ∨ (n = ny ∧ ny < nx))
    (hz : Hd w g zn Z nz cz) (ha : H.Wd w A xs) (hb : H.Wd w B ys) (hlx : nx ≤ 900000) (hly : ny ≤ 900000) :
    Calls Try.prog 53 #[.pointer (some ⟨g, 0, none⟩), .pointer (some ⟨bx, 0, none⟩), .pointer (some ⟨bY, 0, none⟩)] w fun e w' => e = .returned (.pointer (some ⟨g, 0, none⟩)) ∧ IsI w' g ((H.val xs &&& H.val ys : Nat) : Int) ∧ w.grownBy w' (some g) := by
  have hmin : n = min xs.length ys.length := by rw [HX.out, HY.out]; omega
  have hmk := run_make_row' (P := Try.prog) 33 62 (.int .u32 0) 4 Try.underlying33 Try.info62 rfl .i64 .i64 n (by omega) (by omega)
  have hnx : n ≤ xs.length := by omega
  have hny : n ≤ ys.length := by omega
  have HN := Lib.hid hmin
  have NX := Lib.hid hnx
  have NY := Lib.hid hny
  have HZ := Lib.hid hz
  have HA := Lib.hid ha
  have HB := Lib.hid hb
  have X1 := Lib.hid x1
  have Y1 := Lib.hid y1
  have lx := block_lt_of_cell x1
  have ly := block_lt_of_cell y1
  simp only at lx ly
  clear hmin hnx hny hz ha hb
  rcases hm with ⟨rfl, hm⟩ | ⟨rfl, hm⟩
  all_goals
    go_enter Try.func53, Try.ntmps53
    go_wp2
    go_quiet (fail)
    go_wp2
    go_loopw [25] (fun i wr => ∃ (k : Nat) (ds : List Nat), k ≤ n ∧ i = .int .i64 k ∧ H.val ds = H.val (xs.take k) &&& H.val (ys.take k) ∧ Fill w n k ds wr) (fun i _ => n - (intOf i).toNat)
    case atStart => exact ⟨0, [], Nat.zero_le _, rfl, by simp [H.val], (Fill.start w n).drewN _⟩
    case round =>
      clear hmk x1 y1
      obtain ⟨k, ds, hk, rfl, hV, hF⟩ := hrel
      have HV := Lib.hid hV
      have HF := Lib.hid hF
      clear hV hF
      by_cases hlt : k < n
      · obtain ⟨f1, f2⟩ := HF.out.free hlt
        have hbel := HF.out.2.2.2
        have x1 := (hbel.cell (p := ⟨bx, 1, none⟩) lx).trans X1.out
        have y1 := (hbel.cell (p := ⟨bY, 1, none⟩) ly).trans Y1.out
        have kx : k < xs.length := Nat.lt_of_lt_of_le hlt NX.out
        have ky : k < ys.length := Nat.lt_of_lt_of_le hlt NY.out
        obtain ⟨b1, o1, rfl, _, hc1⟩ := (HA.out.below hbel).2 (by omega)
        obtain ⟨b2, o2, rfl, _, hc2⟩ := (HB.out.below hbel).2 (by omega)
        have e1 := hc1 k kx
        have e2 := hc2 k ky
        have ba : H.wd xs k < 4294967296 := H.wd_lt HA.out.1 k
        have bb : H.wd ys k < 4294967296 := H.wd_lt HB.out.1 k
        have hand := and32n _ _ ba bb
        have ST := Lib.hid (and_step HA.out.1 HB.out.1 HF.out.1 HV.out (Nat.le_of_lt kx) (Nat.le_of_lt ky))
        have hlb : H.wd xs k &&& H.wd ys k < 4294967296 := Nat.lt_of_le_of_lt Nat.and_le_left ba
        have HLB := Lib.hid hlb
        have i1 : (k : Int) < (n : Int) := by omega
        clear hc1 hc2 hbel kx ky ba bb hlb
        go_wp2
        go_region
        go_wp2_with fail
        go_roundw
        case rel => exact ⟨k + 1, ds ++ [H.wd xs k &&& H.wd ys k], by omega, by go_num, ST.out, (HF.out.next hlt HLB.out rfl).drew⟩
        case measure => simp [intOf]; omega
      · obtain rfl : n = k := by omega
        obtain ⟨hD, hB1⟩ := HF.out.done
        have z0 := (HZ.out.below hB1).cell0
        have z1 := (HZ.out.below hB1).cell1
        have f0 := (HZ.out.below hB1).frozen 0
        have f1 := (HZ.out.below hB1).frozen 1
        have hl := HF.out.1
        have T := stored_trim (n := false) (c := n) HZ.out hB1 hD (by omega) (by omega)
        rw [HV.out, and_done HA.out.1 HB.out.1 HN.out, hl] at T
        have HT := Lib.hid T
        clear hD hB1 T hl
        go_wp2_with fail
        refine HT.out.mono ?_
        rintro e w2 ⟨rfl, h1, h2⟩
        have H1 := Lib.hid h1
        have H2 := Lib.hid h2
        clear h1 h2
        go_wp2
        go_ret
        exact ⟨rfl, H1.out, H2.out⟩
/-- And, of two that are not below 0. -/
theorem iand_any (g bx bY X Y : Nat) (w : World) (hg : IsH w g) (hx : IsI w bx (X : Int)) (hy : IsI w bY (Y : Int)) (sx : X < Bh ^ 900000) (sy : Y < Bh ^ 900000) :
    Calls Try.prog 53 #[.pointer (some ⟨g, 0, none⟩), .pointer (some ⟨bx, 0, none⟩), .pointer (some ⟨bY, 0, none⟩)] w fun e w' => e = .returned (.pointer (some ⟨g, 0, none⟩)) ∧ IsI w' g ((X &&& Y : Nat) : Int) ∧ w.grownBy w' (some g) := by
  obtain ⟨zn, Z, nz, cz, hz⟩ := hg
  obtain ⟨A, ca, _, x1, x2, _⟩ := hx.open_
  obtain ⟨B, cb, _, y1, y2, _⟩ := hy.open_
  have lx := digits_le (z := (X : Int)) (by simpa using sx)
  have ly := digits_le (z := (Y : Int)) (by simpa using sy)
  have := iand_core g bx bY (min (H.words (X : Int).natAbs).length (H.words (Y : Int).natAbs).length) A B Z ca cb nz cz _ _ zn _ _ w x1 y1 (Lib.hid rfl) (Lib.hid rfl) (by
    rcases Nat.lt_or_ge (H.words (Y : Int).natAbs).length (H.words (X : Int).natAbs).length with h | h
    · right; exact ⟨Nat.min_eq_right (Nat.le_of_lt h), h⟩
    · left; exact ⟨Nat.min_eq_left h, h⟩) hz x2 y2 lx ly
  rwa [H.val_words, H.val_words, Int.natAbs_natCast, Int.natAbs_natCast] at this

/-- The lowest 64 bits of a row of digits. -/
theorem low64 (xs : List Nat) (hs : H.Sm xs) : H.wd xs 1 * 4294967296 + H.wd xs 0 = H.val xs % 18446744073709551616 := by
  match xs, hs with
  | [], _ => rfl
  | [a], hs =>
    have ha : a < 4294967296 := hs a (by simp)
    simp [H.wd, H.val]; omega
  | a :: b :: r, hs =>
    have ha : a < 4294967296 := hs a (by simp)
    have hb : b < 4294967296 := hs b (by simp)
    simp only [H.wd, H.val, H.Bw, List.getD_cons_succ, List.getD_cons_zero]
    have e : 4294967296 * (b + 4294967296 * H.val r) = 4294967296 * b + 18446744073709551616 * H.val r := by omega
    omega

set_option maxRecDepth 100000 in
set_option maxHeartbeats 1000000 in
theorem iuint_core (bx : Nat) (A : Option Addr) (ca : Nat) (xs : List Nat) (w : World) (x1 : w.cell? ⟨bx, 1, none⟩ = some (.slice A xs.length ca)) (ha : H.Wd w A xs) (hlx : xs.length ≤ 900000) :
    Calls Try.prog 27 #[.pointer (some ⟨bx, 0, none⟩)] w fun e w' => e = .returned (.int .u64 ((H.val xs % 18446744073709551616 : Nat) : Int)) ∧ w = w' := by
  have LO := Lib.hid (low64 xs ha.1)
  have b0 : H.wd xs 0 < 4294967296 := H.wd_lt ha.1 0
  have b1 : H.wd xs 1 < 4294967296 := H.wd_lt ha.1 1
  by_cases h0 : xs.length = 0
  · have z0 : H.wd xs 0 = 0 := H.wd_out (by omega)
    have z1 : H.wd xs 1 = 0 := H.wd_out (by omega)
    have E : Hid ((0 : Int) = ((H.val xs % 18446744073709551616 : Nat) : Int)) := by
      show (0 : Int) = _
      rw [← LO.out, z0, z1]; rfl
    rw [h0] at x1
    clear ha z0 z1 LO b0 b1 h0
    go_enter Try.func27, Try.ntmps27
    go_wp2
    refine wp_loop_rounds 1 ?_
    rw [rounds_succ]
    go_wp2
    go_ret
    exact ⟨retI E.out, rfl⟩
  · obtain ⟨b, off, rfl, _, hc⟩ := ha.2 (by omega)
    have e0 := hc 0 (by omega)
    rw [Nat.add_zero] at e0
    by_cases h1 : xs.length = 1
    · have z1 : H.wd xs 1 = 0 := H.wd_out (by omega)
      have E : Hid ((H.wd xs 0 : Int) = ((H.val xs % 18446744073709551616 : Nat) : Int)) := by
        show (H.wd xs 0 : Int) = _
        rw [← LO.out, z1]; omega
      have hor : bits BinOp.or IntKind.u64 0 (H.wd xs 0 : Int) = (H.wd xs 0 : Int) := by
        have := bits_or_u64_nat 0 (H.wd xs 0) (by omega) (by omega)
        rw [Nat.zero_or] at this
        exact this
      rw [h1] at x1
      clear ha z1 LO hc b1 h0
      go_enter Try.func27, Try.ntmps27
      go_wp2
      refine wp_loop_rounds 2 ?_
      rw [rounds_succ]
      go_wp2
      rw [rounds_succ]
      go_wp2
      go_ret
      exact ⟨retI E.out, rfl⟩
    · have e1 := hc 1 (by omega)
      have E : Hid (((H.wd xs 1 * 4294967296 + H.wd xs 0 : Nat) : Int) = ((H.val xs % 18446744073709551616 : Nat) : Int)) := by
        show ((H.wd xs 1 * 4294967296 + H.wd xs 0 : Nat) : Int) = _
        rw [← LO.out]
      have hor : bits BinOp.or IntKind.u64 0 (H.wd xs 1 : Int) = (H.wd xs 1 : Int) := by
        have := bits_or_u64_nat 0 (H.wd xs 1) (by omega) (by omega)
        rw [Nat.zero_or] at this
        exact this
      have hor2 : bits BinOp.or IntKind.u64 ((H.wd xs 1 : Int) * 4294967296) (H.wd xs 0 : Int) = ((H.wd xs 1 * 4294967296 + H.wd xs 0 : Nat) : Int) := by
        have := bits_or_u64_nat (H.wd xs 1 * 4294967296) (H.wd xs 0) (by omega) (by omega)
        rw [show (4294967296 : Nat) = 2 ^ 32 from rfl, Nat.mul_comm, ← Nat.two_pow_add_eq_or_of_lt (by omega), Nat.mul_comm] at this
        exact this
      obtain ⟨L, hL⟩ : ∃ L, xs.length = L + 2 := ⟨xs.length - 2, by omega⟩
      rw [hL] at x1 hlx
      clear ha LO hc h0 h1 hL
      rcases Nat.eq_zero_or_pos L with rfl | hLp
      · rw [Nat.zero_add] at x1
        go_enter Try.func27, Try.ntmps27
        go_wp2
        refine wp_loop_rounds 3 ?_
        rw [rounds_succ]
        go_wp2
        rw [rounds_succ]
        go_wp2
        rw [rounds_succ]
        go_wp2
        go_ret
        exact ⟨retI E.out, rfl⟩
      · have h2 : (2 : Int) < (L : Int) + 2 := by omega
        go_enter Try.func27, Try.ntmps27
        go_wp2
        refine wp_loop_rounds 3 ?_
        rw [rounds_succ]
        go_wp2
        rw [rounds_succ]
        go_wp2
        rw [rounds_succ]
        go_wp2
        go_ret
        exact ⟨retI E.out, rfl⟩
theorem iuint_any (bx : Nat) (X : Nat) (w : World) (hx : IsI w bx (X : Int)) (sx : X < Bh ^ 900000) :
    Calls Try.prog 27 #[.pointer (some ⟨bx, 0, none⟩)] w fun e w' => e = .returned (.int .u64 ((X % 18446744073709551616 : Nat) : Int)) ∧ w = w' := by
  obtain ⟨A, ca, _, x1, x2, _⟩ := hx.open_
  have := iuint_core bx A ca _ w x1 x2 (digits_le (by simpa using sx))
  rwa [H.val_words, Int.natAbs_natCast] at this
end Go.Proofs.Ytfhbnolppahfhaa
