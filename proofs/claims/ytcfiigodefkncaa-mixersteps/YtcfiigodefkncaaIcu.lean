import Derived.Test.YtcfiigodefkncaaIb
/- Int.Uint64 (cut out of Ic). -/
namespace Go.Proofs.Ytcfiigodefkncaa
open Go.RowKit Go.Deep

/-- The lowest 64 bits of a row of digits. -/
theorem low64 (xs : List Nat) (hs : H.Sm xs) : H.wd xs 1 * 4294967296 + H.wd xs 0 = H.val xs % 18446744073709551616 := by
  match xs, hs with
  | [], _ => rfl
  | [a], hs =>
    have ha : a < 4294967296 := hs a (by simp)
    simp [H.wd, H.val]; omega
  | a :: b :: r, hs =>
    have ha : a < 4294967296 := hs a (by simp)
    have hb : b < 4294967296 := hs b (by simp)
    simp only [H.wd, H.val, H.Bw, List.getD_cons_succ, List.getD_cons_zero]
    have e : 4294967296 * (b + 4294967296 * H.val r) = 4294967296 * b + 18446744073709551616 * H.val r := by omega
    omega

set_option maxRecDepth 100000 in
set_option maxHeartbeats 1000000 in
theorem iuint_core (bx : Nat) (A : Option Addr) (ca : Nat) (xs : List Nat) (w : World) (x1 : w.cell? ⟨bx, 1, none⟩ = some (.slice A xs.length ca)) (ha : H.Wd w A xs) (hlx : xs.length ≤ 900000) :
    Calls Try.prog 32 #[.pointer (some ⟨bx, 0, none⟩)] w fun e w' => e = .returned (.int .u64 ((H.val xs % 18446744073709551616 : Nat) : Int)) ∧ w = w' := by
  have LO := Lib.hid (low64 xs ha.1)
  have b0 : H.wd xs 0 < 4294967296 := H.wd_lt ha.1 0
  have b1 : H.wd xs 1 < 4294967296 := H.wd_lt ha.1 1
  by_cases h0 : xs.length = 0
  · have z0 : H.wd xs 0 = 0 := H.wd_out (by omega)
    have z1 : H.wd xs 1 = 0 := H.wd_out (by omega)
    have E : Hid ((0 : Int) = ((H.val xs % 18446744073709551616 : Nat) : Int)) := by
      show (0 : Int) = _
      rw [← LO.out, z0, z1]; rfl
    rw [h0] at x1
    clear ha z0 z1 LO b0 b1 h0
    go_enter Try.func32, Try.ntmps32
    go_wp2
    refine wp_loop_rounds 1 ?_
    rw [rounds_succ]
    go_wp2
    go_ret
    exact ⟨retI E.out, rfl⟩
  · obtain ⟨b, off, rfl, _, hc⟩ := ha.2 (by omega)
    have e0 := hc 0 (by omega)
    rw [Nat.add_zero] at e0
    by_cases h1 : xs.length = 1
    · have z1 : H.wd xs 1 = 0 := H.wd_out (by omega)
      have E : Hid ((H.wd xs 0 : Int) = ((H.val xs % 18446744073709551616 : Nat) : Int)) := by
        show (H.wd xs 0 : Int) = _
        rw [← LO.out, z1]; omega
      have hor : bits BinOp.or IntKind.u64 0 (H.wd xs 0 : Int) = (H.wd xs 0 : Int) := by
        have := bits_or_u64_nat 0 (H.wd xs 0) (by omega) (by omega)
        rw [Nat.zero_or] at this
        exact this
      rw [h1] at x1
      clear ha z1 LO hc b1 h0
      go_enter Try.func32, Try.ntmps32
      go_wp2
      refine wp_loop_rounds 2 ?_
      rw [rounds_succ]
      go_wp2
      rw [rounds_succ]
      go_wp2
      go_ret
      exact ⟨retI E.out, rfl⟩
    · have e1 := hc 1 (by omega)
      have E : Hid (((H.wd xs 1 * 4294967296 + H.wd xs 0 : Nat) : Int) = ((H.val xs % 18446744073709551616 : Nat) : Int)) := by
        show ((H.wd xs 1 * 4294967296 + H.wd xs 0 : Nat) : Int) = _
        rw [← LO.out]
      have hor : bits BinOp.or IntKind.u64 0 (H.wd xs 1 : Int) = (H.wd xs 1 : Int) := by
        have := bits_or_u64_nat 0 (H.wd xs 1) (by omega) (by omega)
        rw [Nat.zero_or] at this
        exact this
      have hor2 : bits BinOp.or IntKind.u64 ((H.wd xs 1 : Int) * 4294967296) (H.wd xs 0 : Int) = ((H.wd xs 1 * 4294967296 + H.wd xs 0 : Nat) : Int) := by
        have := bits_or_u64_nat (H.wd xs 1 * 4294967296) (H.wd xs 0) (by omega) (by omega)
        rw [show (4294967296 : Nat) = 2 ^ 32 from rfl, Nat.mul_comm, ← Nat.two_pow_add_eq_or_of_lt (by omega), Nat.mul_comm] at this
        exact this
      obtain ⟨L, hL⟩ : ∃ L, xs.length = L + 2 := ⟨xs.length - 2, by omega⟩
      rw [hL] at x1 hlx
      clear ha LO hc h0 h1 hL
      rcases Nat.eq_zero_or_pos L with rfl | hLp
      · rw [Nat.zero_add] at x1
        go_enter Try.func32, Try.ntmps32
        go_wp2
        refine wp_loop_rounds 3 ?_
        rw [rounds_succ]
        go_wp2
        rw [rounds_succ]
        go_wp2
        rw [rounds_succ]
        go_wp2
        go_ret
        exact ⟨retI E.out, rfl⟩
      · have h2 : (2 : Int) < (L : Int) + 2 := by omega
        go_enter Try.func32, Try.ntmps32
        go_wp2
        refine wp_loop_rounds 3 ?_
        rw [rounds_succ]
        go_wp2
        rw [rounds_succ]
        go_wp2
        rw [rounds_succ]
        go_wp2
        go_ret
        exact ⟨retI E.out, rfl⟩
theorem iuint_any (bx : Nat) (X : Nat) (w : World) (hx : IsI w bx (X : Int)) (sx : X < Bh ^ 900000) :
    Calls Try.prog 32 #[.pointer (some ⟨bx, 0, none⟩)] w fun e w' => e = .returned (.int .u64 ((X % 18446744073709551616 : Nat) : Int)) ∧ w = w' := by
  obtain ⟨A, ca, _, x1, x2, _⟩ := hx.open_
  have := iuint_core bx A ca _ w x1 x2 (digits_le (by simpa using sx))
  rwa [H.val_words, Int.natAbs_natCast] at this
end Go.Proofs.Ytcfiigodefkncaa
