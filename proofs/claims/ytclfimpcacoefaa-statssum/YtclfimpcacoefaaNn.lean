/- New Ints: SetUint64, SetInt64, NewInt, sums and products in an Int of their own. -/
import Derived.Test.YtclfimpcacoefaaIa
namespace Go.Proofs.Ytclfimpcacoefaa
open Go.RowKit Go.Deep

theorem below_new {w w' : World} (h : (w.alloc (.cells #[.bool false, .slice none 0 0] 51)).grownBy w' (some w.heap.size)) : Below w.heap.size w w' :=
  below_grown ((Below.refl _ _).alloc (Nat.le_refl _) _) h (by simp) (Nat.le_refl _)
theorem below_hdr (w : World) : Below w.heap.size w (w.alloc (.cells #[.bool false, .slice none 0 0] 51)) := (Below.refl _ _).alloc (Nat.le_refl _) _
theorem newU (n : Nat) (w : World) (hn : n < Bw) :
    Calls Try.prog 43 #[.pointer (some ⟨w.heap.size, 0, none⟩), .int .u64 (n : Int)] (w.alloc (.cells #[.bool false, .slice none 0 0] 51)) fun e w' => e = .returned (.pointer (some ⟨w.heap.size, 0, none⟩)) ∧ IsI w' w.heap.size n ∧ Below w.heap.size w w' := by
  refine (isetU_any w.heap.size n _ (IsI.new w).hd hn).mono ?_
  rintro e w' ⟨rfl, h1, h2⟩
  exact ⟨rfl, h1, below_new h2⟩
theorem newAdd (bx bY : Nat) (X Y : Int) (w : World) (hx : IsI w bx X) (hy : IsI w bY Y) (sx : X.natAbs < Bh ^ 900000) (sy : Y.natAbs < Bh ^ 900000) :
    Calls Try.prog 39 #[.pointer (some ⟨w.heap.size, 0, none⟩), .pointer (some ⟨bx, 0, none⟩), .pointer (some ⟨bY, 0, none⟩)] (w.alloc (.cells #[.bool false, .slice none 0 0] 51)) fun e w' => e = .returned (.pointer (some ⟨w.heap.size, 0, none⟩)) ∧ IsI w' w.heap.size (X + Y) ∧ Below w.heap.size w w' := by
  refine (iadd_any w.heap.size bx bY X Y _ (IsI.new w).hd (hx.below (below_hdr w)) (hy.below (below_hdr w)) sx sy).mono ?_
  rintro e w' ⟨rfl, h1, h2⟩
  exact ⟨rfl, h1, below_new h2⟩
theorem newMul (bx bY : Nat) (X Y : Int) (w : World) (hx : IsI w bx X) (hy : IsI w bY Y) (sx : X.natAbs < Bh ^ 400000) (sy : Y.natAbs < Bh ^ 400000) :
    Calls Try.prog 32 #[.pointer (some ⟨w.heap.size, 0, none⟩), .pointer (some ⟨bx, 0, none⟩), .pointer (some ⟨bY, 0, none⟩)] (w.alloc (.cells #[.bool false, .slice none 0 0] 51)) fun e w' => e = .returned (.pointer (some ⟨w.heap.size, 0, none⟩)) ∧ IsI w' w.heap.size (X * Y) ∧ Below w.heap.size w w' := by
  refine (imul_any w.heap.size bx bY X Y _ (IsI.new w).hd (hx.below (below_hdr w)) (hy.below (below_hdr w)) sx sy).mono ?_
  rintro e w' ⟨rfl, h1, h2⟩
  exact ⟨rfl, h1, below_new h2⟩
set_option maxHeartbeats 400000 in
theorem isetI_any (g n : Nat) (w : World) (h : IsH w g) (hn : n < 9223372036854775808) :
    Calls Try.prog 36 #[.pointer (some ⟨g, 0, none⟩), .int .i64 (n : Int)] w fun e w' => e = .returned (.pointer (some ⟨g, 0, none⟩)) ∧ IsI w' g n ∧ w.grownBy w' (some g) := by
  have C := isetU_any g n w h (by omega)
  obtain ⟨z, hz⟩ : ∃ z : Int, z = (n : Int) := ⟨_, rfl⟩
  have h0 : 0 ≤ z := by omega
  have h1 : z < 9223372036854775808 := by omega
  rw [← hz] at C ⊢
  have C := Lib.hid C
  clear h hz hn
  go_enter Try.func36, Try.ntmps36
  go_wp2_with fail
  refine C.out.mono ?_
  rintro e w' ⟨rfl, h1, h2⟩
  have H1 := Lib.hid h1
  have H2 := Lib.hid h2
  clear h1 h2
  go_wp2
  go_ret
  exact ⟨rfl, H1.out, H2.out⟩

set_option maxHeartbeats 400000 in
theorem newI (n : Nat) (w : World) (hn : n < 9223372036854775808) :
    Calls Try.prog 26 #[.int .i64 (n : Int)] w fun e w' => e = .returned (.pointer (some ⟨w.heap.size, 0, none⟩)) ∧ IsI w' w.heap.size n ∧ Below w.heap.size w w' := by
  have C := Lib.hid (isetI_any w.heap.size n (w.alloc (.cells #[.bool false, .slice none 0 0] 51)) (IsI.new w).hd hn)
  go_enter Try.func26, Try.ntmps26
  go_wp2_with fail
  refine C.out.mono ?_
  rintro e w' ⟨rfl, h1, h2⟩
  have H1 := Lib.hid h1
  have H2 := Lib.hid h2
  clear h1 h2
  go_wp2
  go_ret
  exact ⟨rfl, H1.out, below_new H2.out⟩

end Go.Proofs.Ytclfimpcacoefaa
