import Derived.Test.YtnihcpaakbhpcaaIa
/- New Ints: SetUint64, SetInt64, NewInt, sums and products in an Int of their own. -/
namespace Go.Proofs.Ytnihcpaakbhpcaa
open Go.RowKit Go.Deep

theorem below_new {w w' : World} (h : (w.alloc (.cells #[.bool false, .slice none 0 0] 54)).grownBy w' (some w.heap.size)) : Below w.heap.size w w' :=
  below_grown ((Below.refl _ _).alloc (Nat.le_refl _) _) h (by simp) (Nat.le_refl _)
theorem below_hdr (w : World) : Below w.heap.size w (w.alloc (.cells #[.bool false, .slice none 0 0] 54)) := (Below.refl _ _).alloc (Nat.le_refl _) _
theorem newU (n : Nat) (w : World) (hn : n < Bw) :
    Calls Try.prog 31 #[.pointer (some ⟨w.heap.size, 0, none⟩), .int .u64 (n : Int)] (w.alloc (.cells #[.bool false, .slice none 0 0] 54)) fun e w' => e = .returned (.pointer (some ⟨w.heap.size, 0, none⟩)) ∧ IsI w' w.heap.size n ∧ Below w.heap.size w w' := by
  refine (isetU_any w.heap.size n _ (IsI.new w).hd hn).mono ?_
  rintro e w' ⟨rfl, h1, h2⟩
  exact ⟨rfl, h1, below_new h2⟩
theorem newAdd (bx bY : Nat) (X Y : Int) (w : World) (hx : IsI w bx X) (hy : IsI w bY Y) (sx : X.natAbs < Bh ^ 900000) (sy : Y.natAbs < Bh ^ 900000) :
    Calls Try.prog 50 #[.pointer (some ⟨w.heap.size, 0, none⟩), .pointer (some ⟨bx, 0, none⟩), .pointer (some ⟨bY, 0, none⟩)] (w.alloc (.cells #[.bool false, .slice none 0 0] 54)) fun e w' => e = .returned (.pointer (some ⟨w.heap.size, 0, none⟩)) ∧ IsI w' w.heap.size (X + Y) ∧ Below w.heap.size w w' := by
  refine (iadd_any w.heap.size bx bY X Y _ (IsI.new w).hd (hx.below (below_hdr w)) (hy.below (below_hdr w)) sx sy).mono ?_
  rintro e w' ⟨rfl, h1, h2⟩
  exact ⟨rfl, h1, below_new h2⟩
theorem newMul (bx bY : Nat) (X Y : Int) (w : World) (hx : IsI w bx X) (hy : IsI w bY Y) (sx : X.natAbs < Bh ^ 400000) (sy : Y.natAbs < Bh ^ 400000) :
    Calls Try.prog 34 #[.pointer (some ⟨w.heap.size, 0, none⟩), .pointer (some ⟨bx, 0, none⟩), .pointer (some ⟨bY, 0, none⟩)] (w.alloc (.cells #[.bool false, .slice none 0 0] 54)) fun e w' => e = .returned (.pointer (some ⟨w.heap.size, 0, none⟩)) ∧ IsI w' w.heap.size (X * Y) ∧ Below w.heap.size w w' := by
  refine (imul_any w.heap.size bx bY X Y _ (IsI.new w).hd (hx.below (below_hdr w)) (hy.below (below_hdr w)) sx sy).mono ?_
  rintro e w' ⟨rfl, h1, h2⟩
  exact ⟨rfl, h1, below_new h2⟩
set_option maxHeartbeats 400000 in
theorem isetI_any (g n : Nat) (w : World) (h : IsH w g) (hn : n < 9223372036854775808) :
    Calls Try.prog 49 #[.pointer (some ⟨g, 0, none⟩), .int .i64 (n : Int)] w fun e w' => e = .returned (.pointer (some ⟨g, 0, none⟩)) ∧ IsI w' g n ∧ w.grownBy w' (some g) := by
  have C := isetU_any g n w h (by omega)
  obtain ⟨z, hz⟩ : ∃ z : Int, z = (n : Int) := ⟨_, rfl⟩
  have h0 : 0 ≤ z := by omega
  have h1 : z < 9223372036854775808 := by omega
  rw [← hz] at C ⊢
  have C := Lib.hid C
  clear h hz hn
  go_enter Try.func49, Try.ntmps49
  go_wp2_with fail
  refine C.out.mono ?_
  rintro e w' ⟨rfl, h1, h2⟩
  have H1 := Lib.hid h1
  have H2 := Lib.hid h2
  clear h1 h2
  go_wp2
  go_ret
  exact ⟨rfl, H1.out, H2.out⟩

set_option maxHeartbeats 400000 in
theorem newI (n : Nat) (w : World) (hn : n < 9223372036854775808) :
    Calls Try.prog 30 #[.int .i64 (n : Int)] w fun e w' => e = .returned (.pointer (some ⟨w.heap.size, 0, none⟩)) ∧ IsI w' w.heap.size n ∧ Below w.heap.size w w' := by
  have C := Lib.hid (isetI_any w.heap.size n (w.alloc (.cells #[.bool false, .slice none 0 0] 54)) (IsI.new w).hd hn)
  go_enter Try.func30, Try.ntmps30
  go_wp2_with fail
  refine C.out.mono ?_
  rintro e w' ⟨rfl, h1, h2⟩
  have H1 := Lib.hid h1
  have H2 := Lib.hid h2
  clear h1 h2
  go_wp2
  go_ret
  exact ⟨rfl, H1.out, below_new H2.out⟩

end Go.Proofs.Ytnihcpaakbhpcaa

/- Sizes, behind names (cut out of Nb and Da). -/
namespace Go.Proofs.Ytnihcpaakbhpcaa
open Go.RowKit Go.Deep

theorem pow_up {n a b : Nat} (h : n < Bh ^ a) (hab : a ≤ b) : n < Bh ^ b := Nat.lt_of_lt_of_le h (Nat.pow_le_pow_right (by decide) hab)
theorem small_up {n : Nat} (h : n < Bh ^ 400000) : n < Bh ^ 900000 := pow_up (a := 400000) (b := 900000) h (by decide)
theorem small1 {n : Nat} (h : n < Bw) : n < Bh ^ 100000 := pow_up (a := 2) (b := 100000) (by exact h) (by decide)
/-- Sizes, behind names. -/
structure Sz5 (n : Nat) : Prop where
  out : n < Bh ^ 100000
structure Sz4 (n : Nat) : Prop where
  out : n < Bh ^ 400000
structure Sz9 (n : Nat) : Prop where
  out : n < Bh ^ 900000
structure S64 (n : Nat) : Prop where
  out : n < Bw ^ 64
theorem Sz5.four {n : Nat} (h : Sz5 n) : Sz4 n := ⟨pow_up (a := 100000) (b := 400000) h.out (by decide)⟩
theorem Sz5.nine {n : Nat} (h : Sz5 n) : Sz9 n := ⟨pow_up (a := 100000) (b := 900000) h.out (by decide)⟩
theorem sz_word {n : Nat} (h : n < Bw) : Sz5 n := ⟨small1 h⟩
end Go.Proofs.Ytnihcpaakbhpcaa
