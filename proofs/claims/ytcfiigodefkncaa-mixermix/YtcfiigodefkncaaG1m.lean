/- Operations on words; bottom.Mix. -/
import Derived.Test.YtcfiigodefkncaaGa
import Derived.LoopN
import Derived.Laws.Bits64
namespace Go.Proofs.Ytcfiigodefkncaa
open Go.RowKit Go.Deep

theorem shr_w (x : W64) (k : Nat) (p : Int) (hp : p = (2 ^ k : Nat)) : ((x.toNat : Nat) : Int) / p = ((x >>> k).toNat : Int) := by
  subst hp
  rw [BitVec.toNat_ushiftRight, Nat.shiftRight_eq_div_pow]
  rfl
theorem xor_w (x y : W64) : bits .xor .u64 (x.toNat : Int) (y.toNat : Int) = ((x ^^^ y).toNat : Int) := by
  rw [bits_xor_u64_nat _ _ x.isLt y.isLt, BitVec.toNat_xor]
theorem and_w (x y : W64) : bits .and .u64 (x.toNat : Int) (y.toNat : Int) = ((x &&& y).toNat : Int) := by
  rw [bits_and_u64_nat _ _ x.isLt y.isLt, BitVec.toNat_and]
theorem mul_w (x y : W64) : IntKind.u64.wrap ((x.toNat : Int) * (y.toNat : Int)) = ((x * y).toNat : Int) := by
  rw [IntKind.wrap_u64, BitVec.toNat_mul]
  omega
theorem shx_w (x : W64) (k : Nat) (p : Int) (hp : p = (2 ^ k : Nat)) : bits .xor .u64 (x.toNat : Int) ((x.toNat : Int) / p) = ((shx k x).toNat : Int) := by
  rw [shr_w x k p hp, xor_w]; rfl
theorem mulK_w (x c : W64) (C : Int) (hC : C = (c.toNat : Int)) : IntKind.u64.wrap ((x.toNat : Int) * C) = ((x * c).toNat : Int) := by
  rw [hC, mul_w]

set_option maxRecDepth 100000 in
set_option maxHeartbeats 1000000 in
theorem mix_any (x : W64) (w : World) : Calls Try.prog 22 #[.int .u64 (x.toNat : Int)] w fun e w' => e = .returned (.int .u64 ((mix x).toNat : Int)) ∧ w' = w := by
  have e1 := shx_w x 30 1073741824 rfl
  have e2 := mulK_w (shx 30 x) K1 13787848793156543929 rfl
  obtain ⟨y, hy⟩ : ∃ y, shx 30 x * K1 = y := ⟨_, rfl⟩
  rw [hy] at e2
  have e3 := shx_w y 27 134217728 rfl
  have e4 := mulK_w (shx 27 y) K2 10723151780598845931 rfl
  obtain ⟨z, hz⟩ : ∃ z, shx 27 y * K2 = z := ⟨_, rfl⟩
  rw [hz] at e4
  have e5 := shx_w z 31 2147483648 rfl
  have HE : Hid (mix x = shx 31 z) := by show _ = _; unfold mix; rw [hy, hz]
  rw [HE.out]
  clear hy hz
  go_enter Try.func22, Try.ntmps22
  go_wp2
  go_ret
  exact ⟨rfl, rfl⟩
end Go.Proofs.Ytcfiigodefkncaa
