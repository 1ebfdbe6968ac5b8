/- New Ints, of any sign: NewInt, Sub, Lsh in an Int of their own; Bit(0). -/
import Derived.Test.YtclfimpcacoefaaNn
import Derived.Test.YtclfimpcacoefaaI7
import Derived.Test.YtclfimpcacoefaaSz
import Derived.Test.YtclfimpcacoefaaI4
import Derived.Test.YtclfimpcacoefaaIs
namespace Go.Proofs.Ytclfimpcacoefaa
open Go.RowKit Go.Deep

theorem IsI.negate {w : World} {g n : Nat} (h : IsI w g (n : Int)) (hn : 0 < n) : IsI (w.setCell ⟨g, 0, none⟩ (.bool true)) g (-(n : Int)) := by
  obtain ⟨A, c, h1, h2, h3⟩ := h
  have e : (-(n : Int)).natAbs = (n : Int).natAbs := by omega
  refine ⟨A, c, ?_, ?_, ?_⟩
  · rw [e, decide_eq_true (show -(n : Int) < 0 by omega)]; exact h1.set0 true
  · rw [e]; exact Wd_only h2 h1 (grown_set (grown_refl _ _) rfl _)
  · rw [e]; exact h3
set_option maxHeartbeats 400000 in
theorem isetI_neg (g n : Nat) (w : World) (h : IsH w g) (h0 : 0 < n) (hn : n ≤ 9223372036854775808) :
    Calls Try.prog 36 #[.pointer (some ⟨g, 0, none⟩), .int .i64 (-(n : Int))] w fun e w' => e = .returned (.pointer (some ⟨g, 0, none⟩)) ∧ IsI w' g (-(n : Int)) ∧ w.grownBy w' (some g) := by
  have C := Lib.hid (isetU_any g n w h (by omega))
  obtain ⟨z, hz⟩ : ∃ z : Int, z = -(n : Int) := ⟨_, rfl⟩
  have hz0 : z < 0 := by omega
  have hz1 : -9223372036854775808 ≤ z := by omega
  obtain ⟨y, hy⟩ : ∃ y : Int, y = z + 18446744073709551616 := ⟨_, rfl⟩
  have e1 : IntKind.u64.wrap z = y := by rw [IntKind.wrap_u64]; omega
  have e2 : IntKind.u64.wrap (-y) = (n : Int) := by rw [IntKind.wrap_u64]; omega
  have HZ := Lib.hid hz
  have H0 := Lib.hid h0
  rw [← hz]
  clear h hz hn hy h0
  go_enter Try.func36, Try.ntmps36
  go_wp2_with fail
  refine C.out.mono ?_
  rintro e w' ⟨rfl, h1, h2⟩
  have HN := Lib.hid (h1.negate H0.out)
  have HG := Lib.hid (grown_set (p := ⟨g, 0, none⟩) h2 rfl (.bool true))
  obtain ⟨A, c, k1, k2, k3⟩ := h1
  have c0 := k1.cell0
  have f0 := k1.frozen 0
  clear h2 k1 k2 k3 C
  go_wp2
  go_ret
  exact ⟨rfl, by rw [HZ.out]; exact HN.out, HG.out⟩
set_option maxHeartbeats 400000 in
theorem newZ (z : Int) (w : World) (h1 : -9223372036854775808 ≤ z) (h2 : z ≤ 9223372036854775807) :
    Calls Try.prog 26 #[.int .i64 z] w fun e w' => e = .returned (.pointer (some ⟨w.heap.size, 0, none⟩)) ∧ IsI w' w.heap.size z ∧ Below w.heap.size w w' := by
  by_cases h0 : 0 ≤ z
  · obtain ⟨n, rfl⟩ := Int.eq_ofNat_of_zero_le h0
    exact newI n w (by omega)
  · obtain ⟨n, hn⟩ : ∃ n : Nat, z = -(n : Int) := ⟨z.natAbs, by omega⟩
    have C := isetI_neg w.heap.size n (w.alloc (.cells #[.bool false, .slice none 0 0] 51)) (IsI.new w).hd (by omega) (by omega)
    rw [← hn] at C
    have C := Lib.hid C
    clear hn
    go_enter Try.func26, Try.ntmps26
    go_wp2_with fail
    refine C.out.mono ?_
    rintro e w' ⟨rfl, h1, h2⟩
    have H1 := Lib.hid h1
    have H2 := Lib.hid h2
    clear h1 h2
    go_wp2
    go_ret
    exact ⟨rfl, H1.out, below_new H2.out⟩
theorem newSub (bx bY : Nat) (X Y : Int) (w : World) (hx : IsI w bx X) (hy : IsI w bY Y) (sx : X.natAbs < Bh ^ 900000) (sy : Y.natAbs < Bh ^ 900000) :
    Calls Try.prog 31 #[.pointer (some ⟨w.heap.size, 0, none⟩), .pointer (some ⟨bx, 0, none⟩), .pointer (some ⟨bY, 0, none⟩)] (w.alloc (.cells #[.bool false, .slice none 0 0] 51)) fun e w' => e = .returned (.pointer (some ⟨w.heap.size, 0, none⟩)) ∧ IsI w' w.heap.size (X - Y) ∧ Below w.heap.size w w' := by
  refine (isub_any w.heap.size bx bY X Y _ (IsI.new w).hd (hx.below (below_hdr w)) (hy.below (below_hdr w)) sx sy).mono ?_
  rintro e w' ⟨rfl, h1, h2⟩
  exact ⟨rfl, h1, below_new h2⟩
theorem newLsh (bx n : Nat) (X : Int) (w : World) (hx : IsI w bx X) (sx : X.natAbs < Bh ^ 400000) (hn : n ≤ 1000000) :
    Calls Try.prog 27 #[.pointer (some ⟨w.heap.size, 0, none⟩), .pointer (some ⟨bx, 0, none⟩), .int .u64 (n : Int)] (w.alloc (.cells #[.bool false, .slice none 0 0] 51)) fun e w' => e = .returned (.pointer (some ⟨w.heap.size, 0, none⟩)) ∧ IsI w' w.heap.size (X * 2 ^ n) ∧ Below w.heap.size w w' := by
  refine (ilsh_any w.heap.size bx n X _ (IsI.new w).hd (hx.below (below_hdr w)) sx hn).mono ?_
  rintro e w' ⟨rfl, h1, h2⟩
  exact ⟨rfl, h1, below_new h2⟩
theorem and_u32' (a b : Nat) (ha : a < 4294967296) (hb : b < 4294967296) : bits .and .u32 (a : Int) (b : Int) = ((a &&& b : Nat) : Int) :=
  (bits_nat .u32 32 (by decide) (fun n h0 h1 => by rw [IntKind.wrap_u32]; omega) a b (by omega) (by omega)).1
theorem and1' (a : Nat) (ha : a < 4294967296) : bits .and .u32 (a : Int) 1 = ((a % 2 : Nat) : Int) := by
  have := and_u32' a 1 ha (by decide)
  rw [Nat.and_one_is_mod] at this
  exact this
theorem words_head {n : Nat} (h : 0 < (H.words n).length) : H.wd (H.words n) 0 % 2 = n % 2 := by
  have h0 : n ≠ 0 := by
    intro e; subst e; rw [H.words_zero] at h; simp at h
  rw [H.words_pos h0, H.wd_cons_zero]
  unfold H.Bw
  omega
set_option maxRecDepth 100000 in
set_option maxHeartbeats 400000 in
theorem ibit0_any (g : Nat) (z : Int) (w : World) (h : IsI w g z) (hs : z.natAbs < Bh ^ 900000) :
    Calls Try.prog 33 #[.pointer (some ⟨g, 0, none⟩), .int .i64 0] w fun e w' => e = .returned (.int .u64 (z % 2)) ∧ Below w.heap.size w w' := by
  obtain ⟨A, c, h1, h2, h3⟩ := h
  have hl := digits_le hs
  have c1 := h1.cell1
  by_cases h0 : (H.words z.natAbs).length = 0
  · have hz : z = 0 := by
      have := (H.words_len z.natAbs 0).1 (by omega)
      simp at this; omega
    subst hz
    rw [h0] at c1
    clear h1 h2 h3 hl hs h0
    go_enter Try.func33, Try.ntmps33
    go_wp2
    go_ret
    exact ⟨rfl, Below.refl _ _⟩
  · have hw := words_head (n := z.natAbs) (by omega)
    obtain ⟨b, off, rfl, _, hc⟩ := h2.2 (by omega)
    have d0 := hc 0 (by omega)
    rw [Nat.add_zero] at d0
    have hx := H.wd_lt h2.1 0
    obtain ⟨m, hm⟩ : ∃ m, m = (H.words z.natAbs).length := ⟨_, rfl⟩
    rw [← hm] at c1 hl h0
    have t1 : decide ((m : Int) ≤ 0) = false := decide_eq_false (by omega)
    have i0 : (0 : Int) < (m : Int) := by omega
    have HZ : Hid (((H.wd (H.words z.natAbs) 0 % 2 : Nat) : Int) = z % 2) := by
      show _ = _
      rw [hw]; omega
    clear h1 h2 h3 hs hc hw hm
    generalize H.wd (H.words z.natAbs) 0 = x at *
    have hx' : x < 4294967296 := hx
    have ea := and1' x hx'
    clear hx
    go_enter Try.func33, Try.ntmps33
    go_wp2
    go_ret
    exact ⟨by rw [← HZ.out]; rfl, Below.refl _ _⟩
end Go.Proofs.Ytclfimpcacoefaa
