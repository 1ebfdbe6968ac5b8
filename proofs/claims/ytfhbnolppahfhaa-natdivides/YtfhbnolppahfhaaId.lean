/- lotdrawerref.ARight and ABig. -/
import Derived.Test.YtfhbnolppahfhaaIc
namespace Go.Proofs.Ytfhbnolppahfhaa
open Go.RowKit Go.Deep

set_option maxHeartbeats 400000 in
theorem aright_any (A : Option Addr) (ca : Nat) (xs : List Nat) (w : World) (h : Wd w A xs) (hl : xs.length ≤ 9223372036854775807) :
    Calls Try.prog 14 #[.slice A xs.length ca] w fun e w' => e = .returned (.bool (rt xs)) ∧ w = w' := by
  by_cases h0 : xs.length = 0
  · have hr : rt xs = true := by unfold rt; simp [h0]
    rw [hr, h0]
    clear h hr hl
    go_enter Try.func14, Try.ntmps14
    go_wp2
    go_ret
    exact ⟨rfl, rfl⟩
  · obtain ⟨b, off, rfl, _, hc⟩ := h.2 (by omega)
    have hci := hc (xs.length - 1) (by omega)
    clear hc h
    obtain ⟨n, hn⟩ : ∃ n, xs.length = n + 1 := ⟨xs.length - 1, by omega⟩
    have hr : rt xs = (decide (n + 1 ≤ 64) && decide (wd xs n ≠ 0)) := by unfold rt; simp [hn]
    rw [hr]
    rw [hn] at hci ⊢ hl
    simp only [Nat.add_sub_cancel] at hci
    clear hr h0 hn
    generalize wd xs n = x at *
    clear xs
    have hz : (((n : Int) + 1) == 0) = false := by simp; omega
    by_cases h1 : n + 1 ≤ 64
    · by_cases h2 : x = 0
      · subst h2
        have hx : (decide (n + 1 ≤ 64) && decide (0 ≠ 0)) = false := by simp
        rw [hx]; clear hx
        go_enter Try.func14, Try.ntmps14
        go_wp2
        go_ret
        exact ⟨rfl, rfl⟩
      · have hx : (decide (n + 1 ≤ 64) && decide (x ≠ 0)) = true := by simp [h2]; omega
        have h2' : (0 : Int) < (x : Int) := by omega
        have h3' : decide ((0 : Int) < (x : Int)) = true := by simpa using h2'
        rw [hx]; clear hx h2
        go_enter Try.func14, Try.ntmps14
        go_wp2
        go_ret
        exact ⟨retB (by first | rfl | (simp; omega)), rfl⟩
    · have hx : (decide (n + 1 ≤ 64) && decide (x ≠ 0)) = false := by simp; omega
      rw [hx]; clear hx
      go_enter Try.func14, Try.ntmps14
      go_wp2
      go_ret
      exact ⟨rfl, rfl⟩

theorem Bw_Bh (k : Nat) : Bw ^ k = Bh ^ (2 * k) := by rw [Nat.pow_mul]; rfl
theorem pow_up {n a b : Nat} (h : n < Bh ^ a) (hab : a ≤ b) : n < Bh ^ b := Nat.lt_of_lt_of_le h (Nat.pow_le_pow_right (by decide) hab)
theorem small_of {n k : Nat} (h : n < Bw ^ k) (hk : 2 * k ≤ 400000) : n < Bh ^ 400000 := pow_up (a := 2 * k) (b := 400000) (by rw [Bw_Bh] at h; exact h) hk
theorem small_up {n : Nat} (h : n < Bh ^ 400000) : n < Bh ^ 900000 := pow_up (a := 400000) (b := 900000) h (by decide)

/-- A chain of what is kept below B, over a header from B on that turns. -/
theorem below_grown {B g : Nat} {a w w' : World} (h : Below B a w) (hg : w.grownBy w' (some g)) (hB : B ≤ w.heap.size) (hgB : B ≤ g) : Below B a w' := h.grown hg hB (by intro k e; injection e; omega)

set_option maxRecDepth 100000 in
set_option maxHeartbeats 2000000 in
theorem abig_any (A : Option Addr) (ca : Nat) (xs : List Nat) (w : World) (ha : Wd w A xs) (hl : xs.length ≤ 64) :
    Calls Try.prog 18 #[.slice A xs.length ca] w fun e w' => e = .returned (.pointer (some ⟨w.heap.size, 0, none⟩)) ∧ IsI w' w.heap.size (val xs : Int) ∧ Below w.heap.size w w' := by
  have HA := Lib.hid ha
  clear ha
  go_enter Try.func18, Try.ntmps18
  go_wp2
  go_loopw [4] (fun i wr => ∃ k : Nat, k ≤ xs.length ∧ i = .int .i64 ((k : Int) - 1) ∧ IsI wr w.heap.size (val (xs.drop k) : Int) ∧ Below w.heap.size w wr) (fun i _ => (intOf i + 1).toNat)
  case atStart => exact ⟨xs.length, Nat.le_refl _, rfl, by rw [List.drop_of_length_le (Nat.le_refl _)]; exact IsI.new w, (Below.refl _ _).alloc (Nat.le_refl _) _⟩
  case round =>
    obtain ⟨k, hk, rfl, hI, hB⟩ := hrel
    have HI := Lib.hid hI
    have HB := Lib.hid hB
    clear hI hB
    cases k with
    | zero =>
      rw [show ((0 : Nat) : Int) - 1 = -1 from rfl]
      go_wp2
      go_ret
      exact ⟨rfl, by simpa using HI.out, HB.out⟩
    | succ m =>
      rw [show ((m + 1 : Nat) : Int) - 1 = (m : Int) by omega]
      have sD : val (xs.drop (m + 1)) < Bw ^ 64 := Nat.lt_of_lt_of_le (val_lt (fun x hx => HA.out.1 x (List.mem_of_mem_drop hx))) (Nat.pow_le_pow_right Bw_pos (by simp; omega))
      have C1 := ilsh_any w.heap.size w.heap.size 64 _ wr HI.out.hd HI.out (by rw [Int.natAbs_natCast]; exact small_of sD (by omega)) (by omega)
      have HC1 := Lib.hid C1
      have SD := Lib.hid sD
      clear C1 sD
      go_wp2_with fail
      refine HC1.out.mono ?_
      rintro e w1 ⟨rfl, h1, h2⟩
      have b1 : Below w.heap.size w w1 := below_grown HB.out h2 HB.out.size (Nat.le_refl _)
      obtain ⟨b, off, rfl, hblt, hcc⟩ := HA.out.2 (by omega)
      have hc := (b1.cell (p := ⟨b, off + m, none⟩) hblt).trans (hcc m (by omega))
      have H1 := Lib.hid h1
      have B1 := Lib.hid b1
      have hb1 : b < w1.heap.size := Nat.lt_of_lt_of_le hblt b1.size
      have C2 := Lib.hid (isetU_any w1.heap.size (wd xs m) (w1.alloc (.cells #[.bool false, .slice none 0 0] 35)) (IsI.new w1).hd (wd_lt HA.out.1 m))
      clear h1 h2 b1 hcc HC1
      go_wp2_with fail
      refine C2.out.mono ?_
      rintro e w2 ⟨rfl, k1, k2⟩
      have hgt : w.heap.size < w1.heap.size := by have := H1.out.lt; omega
      have I2 : IsI w2 w.heap.size ((val (xs.drop (m + 1)) : Int) * 2 ^ 64) := (H1.out.below ((Below.refl _ _).alloc (Nat.le_refl _) _)).only (IsI.new w1).hd (by omega) k2
      have b2 : Below w.heap.size w w2 := below_grown (B1.out.alloc B1.out.size _) k2 (by simp; omega) (by omega)
      have sX : ((val (xs.drop (m + 1)) : Int) * 2 ^ 64).natAbs < Bh ^ 900000 := by
        have e : ((val (xs.drop (m + 1)) : Int) * 2 ^ 64).natAbs = val (xs.drop (m + 1)) * Bw := by
          rw [Int.natAbs_mul, Int.natAbs_natCast]; rfl
        rw [e]
        refine small_up (small_of (k := 65) ?_ (by omega))
        rw [Nat.pow_succ]
        exact Nat.mul_lt_mul_of_pos_right SD.out Bw_pos
      have sW : ((wd xs m : Nat) : Int).natAbs < Bh ^ 900000 := by
        rw [Int.natAbs_natCast]
        exact small_up (small_of (k := 1) (by simpa using wd_lt HA.out.1 m) (by omega))
      have C3 := iadd_any w.heap.size w.heap.size w1.heap.size _ _ w2 I2.hd I2 k1 sX sW
      have hval : (val (xs.drop (m + 1)) : Int) * 2 ^ 64 + ((wd xs m : Nat) : Int) = ((val (xs.drop m) : Nat) : Int) := by
        rw [show val (xs.drop m) = wd xs m + Bw * val (xs.drop (m + 1)) from drop_cons_val (by omega), Int.natCast_add, Int.natCast_mul, Int.mul_comm, Int.add_comm]; rfl
      rw [hval] at C3
      have HC3 := Lib.hid C3
      have B2 := Lib.hid b2
      clear k1 k2 I2 b2 sX sW C3 hval
      go_wp2_with fail
      refine HC3.out.mono ?_
      rintro e w3 ⟨rfl, j1, j2⟩
      have J1 := Lib.hid j1
      have J2 : Hid (Below w.heap.size w w3) := below_grown B2.out j2 B2.out.size (Nat.le_refl _)
      clear j1 j2
      go_wp2_with fail
      go_roundw
      case rel => exact ⟨m, by omega, rfl, J1.out, J2.out⟩
      case measure => simp [intOf]
end Go.Proofs.Ytfhbnolppahfhaa
