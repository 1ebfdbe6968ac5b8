/- NatAdds: new Ints, Sub at every argument, and where an argument is no number. -/
import Derived.Test.YtfhbnolppahfhaaIe
import Derived.Test.YtfhbnolppahfhaaKb
import Derived.Test.YtfhbnolppahfhaaWb
namespace Go.Proofs.Ytfhbnolppahfhaa
open Go.RowKit Go.Deep

theorem below_new {w w' : World} (h : (w.alloc (.cells #[.bool false, .slice none 0 0] 35)).grownBy w' (some w.heap.size)) : Below w.heap.size w w' :=
  below_grown ((Below.refl _ _).alloc (Nat.le_refl _) _) h (by simp) (Nat.le_refl _)
theorem below_hdr (w : World) : Below w.heap.size w (w.alloc (.cells #[.bool false, .slice none 0 0] 35)) := (Below.refl _ _).alloc (Nat.le_refl _) _
theorem newU (n : Nat) (w : World) (hn : n < Bw) :
    Calls Try.prog 17 #[.pointer (some ⟨w.heap.size, 0, none⟩), .int .u64 (n : Int)] (w.alloc (.cells #[.bool false, .slice none 0 0] 35)) fun e w' => e = .returned (.pointer (some ⟨w.heap.size, 0, none⟩)) ∧ IsI w' w.heap.size n ∧ Below w.heap.size w w' := by
  refine (isetU_any w.heap.size n _ (IsI.new w).hd hn).mono ?_
  rintro e w' ⟨rfl, h1, h2⟩
  exact ⟨rfl, h1, below_new h2⟩
theorem newAdd (bx bY : Nat) (X Y : Int) (w : World) (hx : IsI w bx X) (hy : IsI w bY Y) (sx : X.natAbs < Bh ^ 900000) (sy : Y.natAbs < Bh ^ 900000) :
    Calls Try.prog 21 #[.pointer (some ⟨w.heap.size, 0, none⟩), .pointer (some ⟨bx, 0, none⟩), .pointer (some ⟨bY, 0, none⟩)] (w.alloc (.cells #[.bool false, .slice none 0 0] 35)) fun e w' => e = .returned (.pointer (some ⟨w.heap.size, 0, none⟩)) ∧ IsI w' w.heap.size (X + Y) ∧ Below w.heap.size w w' := by
  refine (iadd_any w.heap.size bx bY X Y _ (IsI.new w).hd (hx.below (below_hdr w)) (hy.below (below_hdr w)) sx sy).mono ?_
  rintro e w' ⟨rfl, h1, h2⟩
  exact ⟨rfl, h1, below_new h2⟩
theorem newSub (bx bY : Nat) (X Y : Int) (w : World) (hx : IsI w bx X) (hy : IsI w bY Y) (sx : X.natAbs < Bh ^ 900000) (sy : Y.natAbs < Bh ^ 900000) :
    Calls Try.prog 20 #[.pointer (some ⟨w.heap.size, 0, none⟩), .pointer (some ⟨bx, 0, none⟩), .pointer (some ⟨bY, 0, none⟩)] (w.alloc (.cells #[.bool false, .slice none 0 0] 35)) fun e w' => e = .returned (.pointer (some ⟨w.heap.size, 0, none⟩)) ∧ IsI w' w.heap.size (X - Y) ∧ Below w.heap.size w w' := by
  refine (isub_any w.heap.size bx bY X Y _ (IsI.new w).hd (hx.below (below_hdr w)) (hy.below (below_hdr w)) sx sy).mono ?_
  rintro e w' ⟨rfl, h1, h2⟩
  exact ⟨rfl, h1, below_new h2⟩
theorem newMul (bx bY : Nat) (X Y : Int) (w : World) (hx : IsI w bx X) (hy : IsI w bY Y) (sx : X.natAbs < Bh ^ 400000) (sy : Y.natAbs < Bh ^ 400000) :
    Calls Try.prog 22 #[.pointer (some ⟨w.heap.size, 0, none⟩), .pointer (some ⟨bx, 0, none⟩), .pointer (some ⟨bY, 0, none⟩)] (w.alloc (.cells #[.bool false, .slice none 0 0] 35)) fun e w' => e = .returned (.pointer (some ⟨w.heap.size, 0, none⟩)) ∧ IsI w' w.heap.size (X * Y) ∧ Below w.heap.size w w' := by
  refine (imul_any w.heap.size bx bY X Y _ (IsI.new w).hd (hx.below (below_hdr w)) (hy.below (below_hdr w)) sx sy).mono ?_
  rintro e w' ⟨rfl, h1, h2⟩
  exact ⟨rfl, h1, below_new h2⟩

/-- What Sub answers of two numbers. -/
def subL (x y : Nat) : List Nat := if y ≤ x then words (x - y) else []
def subE (x y : Nat) : Int := if y ≤ x then 0 else 2
theorem sub_good (A B : Option Addr) (ca cb : Nat) (xs ys : List Nat) (w : World) (ha : Wd w A xs) (hb : Wd w B ys) (hra : rt xs = true) (hrb : rt ys = true) :
    Calls Try.prog 11 #[.slice A xs.length ca, .slice B ys.length cb] w fun e w' => ∃ R c, e = .returned (.tuple #[.slice R (subL (val xs) (val ys)).length c, .int .i64 (subE (val xs) (val ys))]) ∧ Wd w' R (subL (val xs) (val ys)) ∧ Below w.heap.size w w' := by
  unfold subL subE
  by_cases h : val ys ≤ val xs
  · rw [if_pos h, if_pos h]
    exact sub_any A B ca cb xs ys w ha hb hra hrb h
  · rw [if_neg h, if_neg h]
    refine (sub_less A B ca cb xs ys w ha hb hra hrb (by omega)).mono ?_
    rintro e w' ⟨rfl, h1⟩
    exact ⟨none, 0, rfl, Wd.nil, h1⟩

/-- nat.Of holds against the number itself. -/
theorem small1 {n : Nat} (h : n < Bw) : n < Bh ^ 100000 := pow_up (a := 2) (b := 100000) (by exact h) (by decide)
theorem fit_small {n : Nat} (h : n < Bw) : fitL n = words n ∧ fitE n = 0 := by
  have : n < Bw ^ 64 := Nat.lt_of_lt_of_le (show n < Bw ^ 1 by simpa using h) (Nat.pow_le_pow_right Bw_pos (by omega))
  exact ⟨if_pos this, if_pos this⟩

set_option maxRecDepth 100000 in
set_option maxHeartbeats 2000000 in
theorem natAdds_bad (a0 a1 : Option Addr) (cap0 cap1 n : Nat) (xs ys : List Nat) (w : World) (ha : Wd w a0 xs) (hb : Wd w a1 ys) (hla : xs.length ≤ 9223372036854775807) (hlb : ys.length ≤ 9223372036854775807) (hn : n < Bw) (hbad : (rt xs && rt ys) = false) :
    Calls Try.prog 3 #[.slice a0 xs.length cap0, .slice a1 ys.length cap1, .int .u64 (n : Int)] w fun e w' => e = .returned (.bool true) ∧ Below w.heap.size w w' := by
  have C1 := Lib.hid (cmp_bad a0 a1 cap0 cap1 xs ys w ha hb hla hlb hbad)
  have C2 := Lib.hid (add_bad a0 a1 cap0 cap1 xs ys w ha hb hla hlb hbad)
  have C3 := Lib.hid (sub_bad a0 a1 cap0 cap1 xs ys w ha hb hla hlb hbad)
  have C4 := Lib.hid (mul_bad a0 a1 cap0 cap1 xs ys w ha hb hla hlb hbad)
  have C5 := Lib.hid (right_any a0 cap0 xs w ha hla)
  have C6 := Lib.hid (aright_any a0 cap0 xs w ha hla)
  have C7 := Lib.hid (of_any n w hn)
  have HA := Lib.hid ha
  have HB := Lib.hid hb
  have LA := Lib.hid hla
  have LB := Lib.hid hlb
  have HN := Lib.hid hn
  have BAD := Lib.hid hbad
  clear ha hb hla hlb hn hbad
  have hrr : (rt xs != rt xs) = false := by simp
  go_enter Try.func3, Try.ntmps3
  go_wp2_with fail
  refine C1.out.mono ?_
  rintro e w' ⟨rfl, rfl⟩
  go_wp2_with fail
  refine C2.out.mono ?_
  rintro e w' ⟨rfl, rfl⟩
  go_wp2_with fail
  refine C3.out.mono ?_
  rintro e w' ⟨rfl, rfl⟩
  go_wp2_with fail
  refine C4.out.mono ?_
  rintro e w' ⟨rfl, rfl⟩
  go_wp2_with fail
  refine C5.out.mono ?_
  rintro e w' ⟨rfl, rfl⟩
  go_wp2_with fail
  refine C6.out.mono ?_
  rintro e w' ⟨rfl, rfl⟩
  go_wp2_with fail
  refine C7.out.mono ?_
  rintro e w1 ⟨R, c, rfl, h1, _, h2⟩
  have C8 := Lib.hid (newU n w1 HN.out)
  have W1 := Lib.hid h1
  have B1 := Lib.hid h2
  clear h1 h2 C1 C2 C3 C4 C5 C6 C7
  go_wp2_with fail
  refine C8.out.mono ?_
  rintro e w2 ⟨rfl, h1, h2⟩
  have hlw : (words n).length ≤ 9223372036854775807 := Nat.le_trans ((words_len n 1).2 (by simpa using HN.out)) (by omega)
  have C9 := Lib.hid (same_any R c (words n) 0 w1.heap.size n w2 (W1.out.below h2) hlw h1 (small1 HN.out) (fit_small HN.out).2.symm (fit_small HN.out).1.symm)
  have B2 : Hid (Below w.heap.size w w2) := B1.out.trans (h2.mono B1.out.size)
  clear h1 h2 C8 hlw
  go_wp2_with fail
  refine C9.out.mono ?_
  rintro e w3 ⟨rfl, h3⟩
  have B3 : Hid (Below w.heap.size w w3) := B2.out.trans (h3.mono B2.out.size)
  have D1 := Lib.hid (aright_any a0 cap0 xs w3 (HA.out.below B3.out) LA.out)
  have D2 := Lib.hid (aright_any a1 cap1 ys w3 (HB.out.below B3.out) LB.out)
  clear h3 C9
  by_cases r1 : rt xs = true
  · have r2 : rt ys = false := by have := BAD.out; rw [r1] at this; simpa using this
    rw [r1] at D1
    rw [r2] at D2
    clear r1 r2
    go_wp2_with fail
    refine D1.out.mono ?_
    rintro e w' ⟨rfl, rfl⟩
    go_wp2_with fail
    refine D2.out.mono ?_
    rintro e w' ⟨rfl, rfl⟩
    go_wp2
    go_ret
    exact ⟨rfl, B3.out⟩
  · have r2 : rt xs = false := by simpa using r1
    rw [r2] at D1
    clear r1 r2
    go_wp2_with fail
    refine D1.out.mono ?_
    rintro e w' ⟨rfl, rfl⟩
    go_wp2
    go_ret
    exact ⟨rfl, B3.out⟩
end Go.Proofs.Ytfhbnolppahfhaa
