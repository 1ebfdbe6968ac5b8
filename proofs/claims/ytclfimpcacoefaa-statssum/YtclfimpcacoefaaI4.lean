/- Int.Cmp. -/
import Derived.Test.YtclfimpcacoefaaI4c
namespace Go.Proofs.Ytclfimpcacoefaa
open Go.RowKit

/-- Less, equal or greater, of whole numbers. -/
def ordI (x y : Int) : Int := if x < y then -1 else if y < x then 1 else 0

set_option maxHeartbeats 1000000 in
theorem icmp_len (bx bY : Nat) (X Y : Int) (w : World) (hx : IsI w bx X) (hy : IsI w bY Y) (sx : DL X 11000000000000) (sy : DL Y 11000000000000) :
    Calls Try.prog 30 #[.pointer (some ⟨bx, 0, none⟩), .pointer (some ⟨bY, 0, none⟩)] w fun e w' => e = .returned (.int .i64 (ordI X Y)) ∧ Below w.heap.size w w' := by
  obtain ⟨A, ca, x0, _, _, _⟩ := hx.open_
  obtain ⟨B, cb, y0, _, _, _⟩ := hy.open_
  have C1 := Lib.hid (fun W (b : Below w.heap.size w W) => icmpAbs_len bx bY X Y W (hx.below b) (hy.below b) sx sy)
  have C2 := Lib.hid (fun W (b : Below w.heap.size w W) => icmpAbs_len bY bx Y X W (hy.below b) (hx.below b) sy sx)
  clear hx hy sx sy
  by_cases hX : X < 0
  · have dX : decide (X < 0) = true := by simpa using hX
    rw [dX] at x0
    by_cases hY : Y < 0
    · have dY : decide (Y < 0) = true := by simpa using hY
      rw [dY] at y0
      have E : Hid (ord Y.natAbs X.natAbs = ordI X Y) := by
        show ord _ _ = _
        unfold ord ordI
        by_cases h : X < Y
        · rw [if_pos h, if_pos (by omega)]
        · rw [if_neg h, if_neg (by omega)]
          by_cases k : Y < X
          · rw [if_pos k, if_pos (by omega)]
          · rw [if_neg k, if_neg (by omega)]
      clear hX hY dX dY
      go_enter Try.func30, Try.ntmps30
      go_wp2
      go_quiet (fail)
      go_wp2_with fail
      refine (C2.out _ (below_drewN (Below.refl _ _) _)).mono ?_
      rintro e w' ⟨rfl, hB⟩
      have HB := Lib.hid hB
      clear hB
      go_wp2
      go_ret
      exact ⟨retI E.out, (below_drewN (Below.refl _ _) _).trans HB.out⟩
    · have dY : decide (Y < 0) = false := by simpa using hY
      rw [dY] at y0
      have E : Hid (-1 = ordI X Y) := by show (-1 : Int) = _; unfold ordI; rw [if_pos (by omega)]
      clear hX hY dX dY
      go_enter Try.func30, Try.ntmps30
      go_wp2
      go_quiet (fail)
      go_wp2
      go_ret
      exact ⟨retI E.out, below_drewN (Below.refl _ _) _⟩
  · have dX : decide (X < 0) = false := by simpa using hX
    rw [dX] at x0
    by_cases hY : Y < 0
    · have dY : decide (Y < 0) = true := by simpa using hY
      rw [dY] at y0
      have E : Hid (1 = ordI X Y) := by show (1 : Int) = _; unfold ordI; rw [if_neg (by omega), if_pos (by omega)]
      clear hX hY dX dY
      go_enter Try.func30, Try.ntmps30
      go_wp2
      go_quiet (fail)
      go_wp2
      go_ret
      exact ⟨retI E.out, below_drewN (Below.refl _ _) _⟩
    · have dY : decide (Y < 0) = false := by simpa using hY
      rw [dY] at y0
      have E : Hid (ord X.natAbs Y.natAbs = ordI X Y) := by
        show ord _ _ = _
        unfold ord ordI
        by_cases h : X < Y
        · rw [if_pos h, if_pos (by omega)]
        · rw [if_neg h, if_neg (by omega)]
          by_cases k : Y < X
          · rw [if_pos k, if_pos (by omega)]
          · rw [if_neg k, if_neg (by omega)]
      clear hX hY dX dY
      go_enter Try.func30, Try.ntmps30
      go_wp2
      go_quiet (fail)
      go_wp2_with fail
      refine (C1.out _ (below_drewN (Below.refl _ _) _)).mono ?_
      rintro e w' ⟨rfl, hB⟩
      have HB := Lib.hid hB
      clear hB
      go_wp2
      go_ret
      exact ⟨retI E.out, (below_drewN (Below.refl _ _) _).trans HB.out⟩

theorem icmp_any (bx bY : Nat) (X Y : Int) (w : World) (hx : IsI w bx X) (hy : IsI w bY Y) (sx : X.natAbs < Bh ^ 900000) (sy : Y.natAbs < Bh ^ 900000) :
    Calls Try.prog 30 #[.pointer (some ⟨bx, 0, none⟩), .pointer (some ⟨bY, 0, none⟩)] w fun e w' => e = .returned (.int .i64 (ordI X Y)) ∧ Below w.heap.size w w' :=
  icmp_len bx bY X Y w hx hy ((DL.of_pow sx).up (by decide)) ((DL.of_pow sy).up (by decide))
end Go.Proofs.Ytclfimpcacoefaa
