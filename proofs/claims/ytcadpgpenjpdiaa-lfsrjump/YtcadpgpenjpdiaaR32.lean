/- The opening of a uint32 argument. -/
import Derived.Test.YtcadpgpenjpdiaaB0
import Derived.OpenShut
namespace Go.Proofs.Ytcadpgpenjpdiaa
open Go.RowKit

theorem u32_of {n : Int} (h : (Lit.int .u32 n).wf = true) : ∃ X : Nat, n = (X : Int) ∧ X < 4294967296 := by
  have hw := bounds_u32 h
  exact ⟨n.toNat, by omega, by omega⟩
end Go.Proofs.Ytcadpgpenjpdiaa
