/- lotdrawerref.OAll. -/
import Derived.Test.YtimcbeblmicioaaQm0
import Derived.Deep.QuietTactic
import Derived.BigQuiet
import Derived.WalkSmall
namespace Go.Proofs.Ytimcbeblmicioaa
open Go.RowKit Go.Deep

set_option maxRecDepth 100000 in
set_option maxHeartbeats 1000000 in
theorem oall_any (A : Option Addr) (ca : Nat) (S : List Rk) (w : World) (hS : RP w A ca S) (hg : ∀ r ∈ S, 0 ≤ r.g) (ht : qtot S ≤ 4398046511104) :
    Calls Try.prog 17 #[.slice A S.length ca] w fun e w' => e = .returned (.int .i64 (qtot S)) ∧ Below w.heap.size w w' := by
  have hle := hS.le
  have hcap := hS.cap
  have HS := Lib.hid hS
  have HT := Lib.hid (fun k => qtot_take_le (k := k) hg)
  clear hS hg
  go_enter Try.func17, Try.ntmps17
  go_wp2
  go_loopw [3, 8] (fun sv iv wr => ∃ k : Nat, k ≤ S.length ∧ iv = .int .i64 k ∧ sv = .int .i64 (qtot (S.take k)) ∧ Below w.heap.size w wr) (fun _ iv _ => S.length - (intOf iv).toNat)
  case atStart => exact ⟨0, by omega, rfl, rfl, Below.refl _ _⟩
  case round =>
    obtain ⟨k, hk, rfl, rfl, hB⟩ := hrel
    have HB := Lib.hid hB
    clear hB
    by_cases hlt : k < S.length
    · obtain ⟨b, off, rfl, _, hcell⟩ := (HS.out.later HB.out).il (by omega)
      obtain ⟨c0, c1, c2⟩ := hcell k hlt
      have hs1 := HT.out k
      have hs2 := HT.out (k + 1)
      have E := Lib.hid (qtot_take hlt)
      have hsum : qtot (S.take k) + (rat S k).g ≤ 4398046511104 := by rw [← E.out]; omega
      have hsum2 : 0 ≤ qtot (S.take k) + (rat S k).g := by rw [← E.out]; omega
      have hki : (k : Int) < (S.length : Int) := by omega
      have HB2 := Lib.hid (HB.out.alloc HB.out.size (.cells #[.int .i64 (rat S k).n, .int .i64 (rat S k).g, .int .i64 (rat S k).m] 33))
      clear hcell hs2
      generalize qtot (S.take k) = s at *
      generalize (rat S k).n = x at *
      generalize (rat S k).g = y at *
      generalize (rat S k).m = z at *
      go_wp2
      go_roundw
      case rel => exact ⟨k + 1, by omega, by go_num, by rw [E.out], HB2.out⟩
      case measure => simp [intOf]; omega
    · obtain rfl : k = S.length := by omega
      rw [List.take_length]
      go_wp2
      go_ret
      exact ⟨rfl, HB.out⟩
end Go.Proofs.Ytimcbeblmicioaa
