/- math/bits.Mul of 1 and a small number. -/
import Derived.Test.YtjhcbjpbmbjgoaaBb
import Derived.Laws.Bits64b
namespace Go.Proofs.Ytjhcbjpbmbjgoaa
open Go.RowKit

set_option maxHeartbeats 1000000 in
theorem mul64_one (n : Nat) (hn : n ≤ 1000) (w : World) :
    Calls Try.prog 40 #[.int .u64 1, .int .u64 (n : Int)] w fun e w' => e = .returned (.tuple #[.int .u64 0, .int .u64 (n : Int)]) ∧ w = w' := by
  have b1 : bits .and .u64 1 4294967295 = 1 := and32 1 (by omega)
  have b0 : bits .and .u64 0 4294967295 = 0 := and32 0 (by omega)
  have bn : bits .and .u64 (n : Int) 4294967295 = (n : Int) := by rw [and32 n (by omega)]; omega
  have dn : (n : Int) / 4294967296 = 0 := by omega
  have wn : IntKind.u64.wrap (n : Int) = (n : Int) := noWrap n (by omega)
  have w0 : IntKind.u64.wrap 0 = 0 := noWrap 0 (by omega)
  go_enter Try.func40, Try.ntmps40
  go_wp2
  go_ret2
  exact ⟨rfl, rfl⟩
set_option maxHeartbeats 1000000 in
theorem mul_one_any (n : Nat) (hn : n ≤ 1000) (w : World) :
    Calls Try.prog 32 #[.int .u64 1, .int .u64 (n : Int)] w fun e w' => e = .returned (.tuple #[.int .u64 0, .int .u64 (n : Int)]) ∧ w = w' := by
  have C := Lib.hid (mul64_one n hn w)
  go_enter Try.func32, Try.ntmps32
  go_wp2_with fail
  refine C.out.mono ?_
  rintro e w1 ⟨rfl, rfl⟩
  clear C
  go_wp2
  go_ret2
  exact ⟨rfl, rfl⟩
end Go.Proofs.Ytjhcbjpbmbjgoaa
