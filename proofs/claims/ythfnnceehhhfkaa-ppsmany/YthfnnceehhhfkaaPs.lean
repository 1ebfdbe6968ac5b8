/- cmp.Less on integers, slices.IsSorted on integers that are sorted. -/
import Derived.Test.YthfnnceehhhfkaaTv
import Derived.Test.YthfnnceehhhfkaaBb
import Derived.Deep.OwnRows
import Derived.Deep.QuietTactic
import Derived.BigQuiet
import Derived.WalkSmall
namespace Go.Proofs.Ythfnnceehhhfkaa
open Go.RowKit Go.Deep

theorem isNaN_any (x : Int) (w : World) : Calls Try.prog 19 #[.int .i64 x] w fun e w' => e = .returned (.bool false) ∧ w' = w := by
  have h : (x != x) = false := by simp
  go_enter Try.func19, Try.ntmps19
  go_wp2
  go_ret
  exact ⟨rfl, rfl⟩
theorem less_any (x y : Int) (w : World) : Calls Try.prog 18 #[.int .i64 x, .int .i64 y] w fun e w' => e = .returned (.bool (decide (x < y))) ∧ w' = w := by
  have C := Lib.hid (isNaN_any x w)
  go_enter Try.func18, Try.ntmps18
  go_wp2_with fail
  refine C.out.mono ?_
  rintro e w1 ⟨rfl, rfl⟩
  go_wp2
  go_ret
  exact ⟨rfl, rfl⟩

set_option maxRecDepth 100000 in
set_option maxHeartbeats 1000000 in
theorem isSorted_any (A : Option Addr) (ca : Nat) (l : List Int) (w : World) (hl : IP w A ca l) (hs : ∀ k, k + 1 < l.length → l.getD k 0 ≤ l.getD (k + 1) 0) :
    Calls Try.prog 15 #[.slice A l.length ca] w fun e w' => e = .returned (.bool true) ∧ Below w.heap.size w w' := by
  have hle := hl.le
  have hcap := hl.cap
  have HL := Lib.hid hl
  have HS := Lib.hid hs
  clear hl hs
  go_enter Try.func15, Try.ntmps15
  go_wp2_with fail
  go_loopw [3] (fun iv wr => ∃ k : Int, -1 ≤ k ∧ k + 1 ≤ (l.length : Int) ∧ iv = .int .i64 k ∧ Below w.heap.size w wr) (fun iv _ => (intOf iv).toNat)
  case atStart => exact ⟨(l.length : Int) - 1, by omega, by omega, by go_num, Below.refl _ _⟩
  case round =>
    obtain ⟨k, hk, hk2, rfl, hB⟩ := hrel
    have HB := Lib.hid hB
    clear hB
    by_cases h0 : 0 < k
    · obtain ⟨j, rfl⟩ : ∃ j : Nat, k = (j : Int) := ⟨k.toNat, by omega⟩
      obtain ⟨i, hi⟩ : ∃ i : Nat, j = i + 1 := ⟨j - 1, by omega⟩
      obtain ⟨b, off, rfl, _, hc⟩ := (HL.out.il.later HB.out).at (by omega)
      have c1 := hc j (by omega)
      have c2 := hc i (by omega)
      have hxy := HS.out i (by omega)
      rw [← hi] at hxy
      generalize l.getD j 0 = x at *
      generalize l.getD i 0 = y at *
      have hd : decide (x < y) = false := by rw [decide_eq_false_iff_not]; omega
      have C := less_any x y
      rw [hd] at C
      have i1 : (j : Int) < (l.length : Int) := by omega
      have i2 : (i : Int) < (l.length : Int) := by omega
      have i4 : IntKind.i64.wrap ((j : Int) - 1) = (i : Int) := by rw [IntKind.wrap_i64]; omega
      have HI := Lib.hid hi
      clear hc hi
      go_wp2_with fail
      go_quiet (first | (go_at_call 18; refine Calls.quiet_of_same (C _)))
      go_wp2
      go_roundw
      case rel => exact ⟨(i : Int), by omega, by have := HI.out; omega, rfl, below_drewN HB.out _⟩
      case measure => have := HI.out; simp [intOf]; omega
    · go_wp2
      go_ret
      exact ⟨rfl, HB.out⟩
end Go.Proofs.Ythfnnceehhhfkaa
