/- alias.Draw. -/
import Derived.Test.YtjhcbjpbmbjgoaaHb
namespace Go.Proofs.Ytjhcbjpbmbjgoaa
open Go.RowKit Go.Deep

set_option maxRecDepth 100000 in
set_option maxHeartbeats 1000000 in
theorem drawA_any (A : Option Addr) (ca : Nat) (S : AT) (p v : Int) (w : World) (hS : AP w A ca S) :
    Calls Try.prog 17 #[.slice A S.length ca, .int .i64 p, .int .i64 v] w fun e w' => e = .returned (ptup (drawA S p v)) ∧ w = w' := by
  have hle := hS.le
  have hcap := hS.cap
  by_cases h0 : p < 0
  · have E : Hid (drawA S p v = (0, 3)) := if_neg (by omega)
    clear hS
    go_enter Try.func17, Try.ntmps17
    go_wp2
    go_ret2
    exact ⟨by rw [E.out]; rfl, rfl⟩
  obtain ⟨i, rfl⟩ : ∃ i : Nat, p = i := ⟨p.toNat, by omega⟩
  by_cases h1 : i < S.length
  · obtain ⟨b, off, rfl, _, hcell⟩ := hS.il (by omega)
    obtain ⟨c0, c1⟩ := hcell i h1
    clear hcell hS
    by_cases h2 : v < lev S i
    · have E : Hid (drawA S i v = ((i : Int), 0)) := by show _ = _; unfold drawA; rw [if_pos (by omega), if_pos (by rw [Int.toNat_natCast]; exact h2)]
      generalize lev S i = x at *
      go_enter Try.func17, Try.ntmps17
      go_wp2
      go_ret2
      exact ⟨by rw [E.out]; rfl, rfl⟩
    · have E : Hid (drawA S i v = (too S i, 0)) := by show _ = _; unfold drawA; rw [if_pos (by omega), if_neg (by rw [Int.toNat_natCast]; exact h2), Int.toNat_natCast]
      generalize lev S i = x at *
      generalize too S i = y at *
      go_enter Try.func17, Try.ntmps17
      go_wp2
      go_ret2
      exact ⟨by rw [E.out]; rfl, rfl⟩
  · have E : Hid (drawA S i v = (0, 3)) := if_neg (by omega)
    clear hS
    go_enter Try.func17, Try.ntmps17
    go_wp2
    go_ret2
    exact ⟨by rw [E.out]; rfl, rfl⟩
end Go.Proofs.Ytjhcbjpbmbjgoaa
