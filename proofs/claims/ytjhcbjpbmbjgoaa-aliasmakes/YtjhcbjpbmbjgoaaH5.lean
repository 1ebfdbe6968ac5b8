/- alias.table's firstHigh. -/
import Derived.Test.YtjhcbjpbmbjgoaaHb
import Derived.Shelf.Abstract
namespace Go.Proofs.Ytjhcbjpbmbjgoaa
open Go.RowKit Go.Deep

theorem enters_high (args : Array Value) (w : World) : (callFunc 38 args).run Try.prog w = .ok (.enter 38 args) w := enters_of Try.func38 (by kernel_rfl) rfl args w
set_option maxRecDepth 100000 in
theorem high1_any (x y s : Int) (g : Nat) (w : World) (hg : w.cell? ⟨g, 0, none⟩ = some (.int .i64 s)) (hlt : g < w.heap.size) :
    Calls Try.prog 38 #[.agg #[.int .i64 x, .int .i64 y], .pointer (some ⟨g, 0, none⟩)] w fun e w' => e = .returned (.bool (decide (s < x))) ∧ Below w.heap.size w w' := by
  have hg2 : (w.alloc (.cells #[.int .i64 x, .int .i64 y] 41)).cell? ⟨g, 0, none⟩ = some (.int .i64 s) := (((Below.refl _ w).alloc (Nat.le_refl _) _).cell (p := ⟨g, 0, none⟩) hlt).trans hg
  have HB : Hid (Below w.heap.size w (w.alloc (.cells #[.int .i64 x, .int .i64 y] 41))) := (Below.refl _ _).alloc (Nat.le_refl _) _
  by_cases h : s < x
  · go_enter Try.func38, Try.ntmps38
    go_wp2
    go_ret
    exact ⟨retB (by simp [h]), HB.out⟩
  · go_enter Try.func38, Try.ntmps38
    go_wp2
    go_ret
    exact ⟨retB (by simp [h]), HB.out⟩

set_option maxRecDepth 100000 in
set_option maxHeartbeats 1000000 in
theorem indexFunc_any (A : Option Addr) (ca : Nat) (S : AT) (s : Int) (g : Nat) (w : World) (hS : AP w A ca S) (hg : w.cell? ⟨g, 0, none⟩ = some (.int .i64 s)) (hlg : g < w.heap.size) :
    Calls Try.prog 37 #[.slice A S.length ca, .func (.func 38) #[] #[.pointer (some ⟨g, 0, none⟩)]] w fun e w' => e = .returned (.int .i64 (hiI s S)) ∧ Below w.heap.size w w' := by
  have hen := enters_high
  have hle := hS.le
  have hcap := hS.cap
  have HS := Lib.hid hS
  have HG := Lib.hid hg
  clear hS hg
  go_enter Try.func37, Try.ntmps37
  go_wp2
  go_loopw [8] (fun iv wr => ∃ k : Nat, k ≤ S.length ∧ iv = .int .i64 k ∧ Below w.heap.size w wr ∧ (∀ j, j < k → highP s S j = false)) (fun iv _ => S.length - (intOf iv).toNat)
  case atStart => exact ⟨0, by omega, rfl, Below.refl _ _, fun j hj => by omega⟩
  case round =>
    obtain ⟨k, hk, rfl, hB, hJ⟩ := hrel
    have HB := Lib.hid hB
    have HJ := Lib.hid hJ
    clear hB hJ
    by_cases hlt : k < S.length
    · obtain ⟨b, off, rfl, _, hcell⟩ := (HS.out.later HB.out).il (by omega)
      obtain ⟨c0, c1⟩ := hcell k hlt
      have CH := Lib.hid (high1_any (lev S k) (too S k) s g wr ((HB.out.cell (p := ⟨g, 0, none⟩) hlg).trans HG.out) (Nat.lt_of_lt_of_le hlg HB.out.size))
      clear hcell
      by_cases hh : s < lev S k
      · have E : Hid (hiI s S = k) := first_hit (by simp [highP, hh]) hlt HJ.out
        rw [decide_eq_true hh] at CH
        generalize lev S k = x at *
        generalize too S k = y at *
        go_wp2_with fail
        refine CH.out.mono ?_
        rintro e w1 ⟨rfl, hb1⟩
        have HB1 := Lib.hid (HB.out.trans (hb1.mono HB.out.size))
        clear hb1 CH
        go_wp2
        go_ret
        exact ⟨retI E.out.symm, HB1.out⟩
      · have E : Hid (∀ j, j < k + 1 → highP s S j = false) := fun j hj => by
          by_cases e : j = k
          · subst e; simp [highP]; omega
          · exact HJ.out j (by omega)
        rw [decide_eq_false hh] at CH
        generalize lev S k = x at *
        generalize too S k = y at *
        go_wp2_with fail
        refine CH.out.mono ?_
        rintro e w1 ⟨rfl, hb1⟩
        have HB1 := Lib.hid (HB.out.trans (hb1.mono HB.out.size))
        clear hb1 CH
        go_wp2
        go_roundw
        case rel => exact ⟨k + 1, by omega, by go_num, HB1.out, E.out⟩
        case measure => simp [intOf]; omega
    · obtain rfl : k = S.length := by omega
      have E : Hid (hiI s S = -1) := first_miss HJ.out
      go_wp2
      go_ret
      exact ⟨retI E.out.symm, HB.out⟩

set_option maxRecDepth 100000 in
set_option maxHeartbeats 1000000 in
theorem firstHigh_any (A : Option Addr) (ca : Nat) (S : AT) (s : Int) (w : World) (hS : AP w A ca S) :
    Calls Try.prog 28 #[.slice A S.length ca, .int .i64 s] w fun e w' => e = .returned (.int .i64 (hiI s S)) ∧ Below w.heap.size w w' := by
  have hmf : ∀ (fn : Fn) (first cap : Array Value) (w : World), (Instr.makeFunc fn first cap).run Try.prog w = .ok (.func fn first cap) w := fun _ _ _ _ => rfl
  have b1 : Below w.heap.size w (w.alloc (.cells #[.int .i64 s] 3)) := (Below.refl _ _).alloc (Nat.le_refl _) _
  have CI := Lib.hid (indexFunc_any A ca S s w.heap.size (w.alloc (.cells #[.int .i64 s] 3)) (hS.later b1) (cell_of_row _ w.heap.size 0 _ 3 (0, 0) (heap_alloc_new w _)) (by simp))
  have HB1 := Lib.hid b1
  clear b1 hS
  go_enter Try.func28, Try.ntmps28
  go_wp2_with fail
  refine CI.out.mono ?_
  rintro e w1 ⟨rfl, hb1⟩
  have HB2 := Lib.hid (HB1.out.trans (hb1.mono HB1.out.size))
  clear hb1 CI
  go_wp2
  go_ret
  exact ⟨rfl, HB2.out⟩
end Go.Proofs.Ytjhcbjpbmbjgoaa
