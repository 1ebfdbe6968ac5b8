/- Where slices.Compact at integers lies in this program. -/
import Derived.Shelf.SlicesE.Compact
import Derived.Test.YtclfimpcacoefaaB0
namespace Go.Proofs.Ytclfimpcacoefaa
open Go.Shelf

def shCompactI_ren : Go.Shelf.Ren := ⟨fun | 43 => 22 | n => n, fun | 22 => 22 | 23 => 3 | 3 => 3 | 4 => 4 | 0 => 0 | n => n, fun | n => n⟩
theorem shCompactI : Go.Proofs.SlLaysE.n43 Try.prog shCompactI_ren := {
  mixed := by kernel_rfl
  f43 := ⟨Try.f22.name, by decide, Try.func22.trans (congrArg some (by kernel_rfl))⟩
  t0 := Try.underlying0
  a0 := Try.isAgg0
  z0 := Try.sizeOf0
  v0 := Try.zeroValue0
  t3 := Try.underlying3
  a3 := Try.isAgg3
  z3 := Try.sizeOf3
  v3 := Try.zeroValue3
  t4 := Try.underlying4
  a4 := Try.isAgg4
  z4 := Try.sizeOf4
  v4 := Try.zeroValue4
  t22 := Try.underlying22
  a22 := Try.isAgg22
  z22 := Try.sizeOf22
  v22 := Try.zeroValue22
  a23 := Try.isAgg3
  z23 := Try.sizeOf3 }
end Go.Proofs.Ytclfimpcacoefaa
