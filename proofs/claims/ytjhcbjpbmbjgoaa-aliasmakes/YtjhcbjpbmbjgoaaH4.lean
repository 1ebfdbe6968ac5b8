/- alias.table's firstLow. -/
import Derived.Test.YtjhcbjpbmbjgoaaHb
namespace Go.Proofs.Ytjhcbjpbmbjgoaa
open Go.RowKit Go.Deep

set_option maxRecDepth 100000 in
set_option maxHeartbeats 1000000 in
theorem firstLow_any (A : Option Addr) (ca : Nat) (S : AT) (s : Int) (w : World) (hS : AP w A ca S) :
    Calls Try.prog 27 #[.slice A S.length ca, .int .i64 s] w fun e w' => e = .returned (.int .i64 (loI s S)) ∧ Below w.heap.size w w' := by
  have hle := hS.le
  have hcap := hS.cap
  have HS := Lib.hid hS
  clear hS
  go_enter Try.func27, Try.ntmps27
  go_wp2
  go_loopw [9] (fun iv wr => ∃ k : Nat, k ≤ S.length ∧ iv = .int .i64 k ∧ Below w.heap.size w wr ∧ (∀ j, j < k → lowP s S j = false)) (fun iv _ => S.length - (intOf iv).toNat)
  case atStart => exact ⟨0, by omega, rfl, Below.refl _ _, fun j hj => by omega⟩
  case round =>
    obtain ⟨k, hk, rfl, hB, hJ⟩ := hrel
    have HB := Lib.hid hB
    have HJ := Lib.hid hJ
    clear hB hJ
    by_cases hlt : k < S.length
    · obtain ⟨b, off, rfl, _, hcell⟩ := (HS.out.later HB.out).il (by omega)
      obtain ⟨c0, c1⟩ := hcell k hlt
      have HBN : Hid (Below w.heap.size w (wr.alloc (.cells #[.int .i64 (lev S k), .int .i64 (too S k)] 41))) := HB.out.alloc HB.out.size _
      clear hcell
      by_cases ht : too S k = k
      · have htt : (too S k == (k : Int)) = true := by rw [beq_iff_eq]; exact ht
        by_cases hl : lev S k < s
        · have E : Hid (loI s S = k) := first_hit (by simp [lowP, ht, hl]) hlt HJ.out
          have HT := Lib.hid ht
          clear ht
          generalize lev S k = x at *
          generalize too S k = y at *
          go_wp2
          go_ret
          exact ⟨retI E.out.symm, HBN.out⟩
        · have E : Hid (∀ j, j < k + 1 → lowP s S j = false) := fun j hj => by
            by_cases e : j = k
            · subst e; simp [lowP]; intro _; omega
            · exact HJ.out j (by omega)
          have HT := Lib.hid ht
          clear ht
          generalize lev S k = x at *
          generalize too S k = y at *
          go_wp2
          go_roundw
          case rel => exact ⟨k + 1, by omega, by go_num, HBN.out, E.out⟩
          case measure => simp [intOf]; omega
      · have htt : (too S k == (k : Int)) = false := by rw [beq_eq_false_iff_ne]; exact ht
        have E : Hid (∀ j, j < k + 1 → lowP s S j = false) := fun j hj => by
          by_cases e : j = k
          · subst e; simp [lowP]; intro h; exact absurd h ht
          · exact HJ.out j (by omega)
        clear ht
        generalize lev S k = x at *
        generalize too S k = y at *
        go_wp2
        go_roundw
        case rel => exact ⟨k + 1, by omega, by go_num, HBN.out, E.out⟩
        case measure => simp [intOf]; omega
    · obtain rfl : k = S.length := by omega
      have E : Hid (loI s S = -1) := first_miss HJ.out
      go_wp2
      go_ret
      exact ⟨retI E.out.symm, HB.out⟩
end Go.Proofs.Ytjhcbjpbmbjgoaa
