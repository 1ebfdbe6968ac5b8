/-
  No cell of these rows narrows 'for every input' (looked for: loops, veiled, ifaces, maps, wideKeys, modest, calm, conditions, laid).
  DERIVED. THE GIVEN ROWS OF THIS SEAT. 6 by the template 'for every input the law returns true; each argument reads behind the call as it read before'; 0 by the template 'total and deterministic' (their statements: YtbchdnmpohnkiaaTotals.lean).
  GIVEN WITH THE SEED: the statements are not yours to turn. If you find one false, say at which input.
  Laid BY PROGRAM, IN A SANDBOX (cutbox-rows.mjs): the forced cells as the released guide's own fill.sh prints them over the translation f05224eaa8e17acd… (all of the seat's roots in one cut). By AI agents, Wed Nov 11 2026. No macro, syntax, notation, axiom, sorry.
-/
import Derived.Test.YtbchdnmpohnkiaaChecked
import GoSem.Claim
import GoSem.ClaimJoined
import GoSem.ClaimMapViews
import Derived.JoinedTies
import Derived.KernelRfl
namespace Go.Proofs.Ytbchdnmpohnkiaa
/- THE CELL 'sum', in the pinned program and in every row, IS THE sha256 OF THE DUMP (.gsa) THAT YtbchdnmpohnkiaaProg.lean LOADS. Nothing in Lean hashes anything: it is a label: what it is worth is what the hold of that sum in a sandbox is worth. -/
noncomputable def Try.pinned : Pinned := { name := "ytbchdnmpohnkiaa", sum := "f05224eaa8e17acd793807550cbd3fc7f92ba130d9e54cadb9060e3ac7dd007c", checked := Try.checked }
namespace Rows
def none {H : Type} : Left H := { results := [], args := [] }

/-- 'lotdrawerlaw.PermDeals': WHATEVER THE INPUT: true; the input reads as it did. -/
def permDealsSpec : ChangeSpec := { name := "permDeals", fn := fun _ => fun
  | [d1, d2, d3] => { results := [.lit (.bool true)], args := [d1, d2, d3] }
  | _ => none }
def permDealsRow : OpenClaim := { program := "ytbchdnmpohnkiaa", sum := "f05224eaa8e17acd793807550cbd3fc7f92ba130d9e54cadb9060e3ac7dd007c", func := "lotdrawer/lotdrawerlaw.PermDeals", spec := "permDeals", unfollowed := true, recurses := true, apart := false }
def PermDealsSaid : Prop := permDealsRow.holds Try.pinned (OpenSpec.ofChange permDealsSpec)

/-- ITS FALSE NEIGHBOUR: 'it returns false'. Refute it at one input. -/
def permDealsWrong : ChangeSpec := { name := "permDeals", fn := fun _ => fun
  | [d1, d2, d3] => { results := [.lit (.bool false)], args := [d1, d2, d3] }
  | _ => none }
def PermDealsWrongFalsely : Prop := permDealsRow.holds Try.pinned (OpenSpec.ofChange permDealsWrong)

/-- 'lotdrawerlaw.PermRanks': WHATEVER THE INPUT: true; the input reads as it did. -/
def permRanksSpec : ChangeSpec := { name := "permRanks", fn := fun _ => fun
  | [d1, d2, d3] => { results := [.lit (.bool true)], args := [d1, d2, d3] }
  | _ => none }
def permRanksRow : OpenClaim := { program := "ytbchdnmpohnkiaa", sum := "f05224eaa8e17acd793807550cbd3fc7f92ba130d9e54cadb9060e3ac7dd007c", func := "lotdrawer/lotdrawerlaw.PermRanks", spec := "permRanks", recurses := true, apart := false }
def PermRanksSaid : Prop := permRanksRow.holds Try.pinned (OpenSpec.ofChange permRanksSpec)

/-- ITS FALSE NEIGHBOUR: 'it returns false'. Refute it at one input. -/
def permRanksWrong : ChangeSpec := { name := "permRanks", fn := fun _ => fun
  | [d1, d2, d3] => { results := [.lit (.bool false)], args := [d1, d2, d3] }
  | _ => none }
def PermRanksWrongFalsely : Prop := permRanksRow.holds Try.pinned (OpenSpec.ofChange permRanksWrong)

/-- 'lotdrawerkeep.PermEach': WHATEVER THE INPUT: true; the input reads as it did. -/
def permEachSpec : ChangeSpec := { name := "permEach", fn := fun _ => fun
  | [d] => { results := [.lit (.bool true)], args := [d] }
  | _ => none }
def permEachRow : OpenClaim := { program := "ytbchdnmpohnkiaa", sum := "f05224eaa8e17acd793807550cbd3fc7f92ba130d9e54cadb9060e3ac7dd007c", func := "lotdrawer/lotdrawerkeep.PermEach", spec := "permEach", unfollowed := true, recurses := true, apart := false }
def PermEachSaid : Prop := permEachRow.holds Try.pinned (OpenSpec.ofChange permEachSpec)

/-- ITS FALSE NEIGHBOUR: 'it returns false'. Refute it at one input. -/
def permEachWrong : ChangeSpec := { name := "permEach", fn := fun _ => fun
  | [d] => { results := [.lit (.bool false)], args := [d] }
  | _ => none }
def PermEachWrongFalsely : Prop := permEachRow.holds Try.pinned (OpenSpec.ofChange permEachWrong)

/-- 'lotdrawerkeep.PermBack': WHATEVER THE INPUT: true; the input reads as it did. -/
def permBackSpec : ChangeSpec := { name := "permBack", fn := fun _ => fun
  | [d1, d2, d3] => { results := [.lit (.bool true)], args := [d1, d2, d3] }
  | _ => none }
def permBackRow : OpenClaim := { program := "ytbchdnmpohnkiaa", sum := "f05224eaa8e17acd793807550cbd3fc7f92ba130d9e54cadb9060e3ac7dd007c", func := "lotdrawer/lotdrawerkeep.PermBack", spec := "permBack", unfollowed := true, recurses := true, apart := false }
def PermBackSaid : Prop := permBackRow.holds Try.pinned (OpenSpec.ofChange permBackSpec)

/-- ITS FALSE NEIGHBOUR: 'it returns false'. Refute it at one input. -/
def permBackWrong : ChangeSpec := { name := "permBack", fn := fun _ => fun
  | [d1, d2, d3] => { results := [.lit (.bool false)], args := [d1, d2, d3] }
  | _ => none }
def PermBackWrongFalsely : Prop := permBackRow.holds Try.pinned (OpenSpec.ofChange permBackWrong)

/-- 'lotdrawerkeep.PermGroup': WHATEVER THE INPUT: true; the input reads as it did. -/
def permGroupSpec : ChangeSpec := { name := "permGroup", fn := fun _ => fun
  | [d1, d2, d3] => { results := [.lit (.bool true)], args := [d1, d2, d3] }
  | _ => none }
def permGroupRow : OpenClaim := { program := "ytbchdnmpohnkiaa", sum := "f05224eaa8e17acd793807550cbd3fc7f92ba130d9e54cadb9060e3ac7dd007c", func := "lotdrawer/lotdrawerkeep.PermGroup", spec := "permGroup", unfollowed := true, recurses := true, apart := false }
def PermGroupSaid : Prop := permGroupRow.holds Try.pinned (OpenSpec.ofChange permGroupSpec)

/-- ITS FALSE NEIGHBOUR: 'it returns false'. Refute it at one input. -/
def permGroupWrong : ChangeSpec := { name := "permGroup", fn := fun _ => fun
  | [d1, d2, d3] => { results := [.lit (.bool false)], args := [d1, d2, d3] }
  | _ => none }
def PermGroupWrongFalsely : Prop := permGroupRow.holds Try.pinned (OpenSpec.ofChange permGroupWrong)

/-- 'lotdrawerkeep.PermPairs': WHATEVER THE INPUT: true; the input reads as it did. -/
def permPairsSpec : ChangeSpec := { name := "permPairs", fn := fun _ => fun
  | [d1, d2] => { results := [.lit (.bool true)], args := [d1, d2] }
  | _ => none }
def permPairsRow : OpenClaim := { program := "ytbchdnmpohnkiaa", sum := "f05224eaa8e17acd793807550cbd3fc7f92ba130d9e54cadb9060e3ac7dd007c", func := "lotdrawer/lotdrawerkeep.PermPairs", spec := "permPairs", unfollowed := true, recurses := true, apart := false }
def PermPairsSaid : Prop := permPairsRow.holds Try.pinned (OpenSpec.ofChange permPairsSpec)

/-- ITS FALSE NEIGHBOUR: 'it returns false'. Refute it at one input. -/
def permPairsWrong : ChangeSpec := { name := "permPairs", fn := fun _ => fun
  | [d1, d2] => { results := [.lit (.bool false)], args := [d1, d2] }
  | _ => none }
def PermPairsWrongFalsely : Prop := permPairsRow.holds Try.pinned (OpenSpec.ofChange permPairsWrong)

/- THE SECOND FORM. 'bulk': how many values and letters a reading holds, each counted each time it is reached (what is shared counts as often as it is met; a slice's spare places count too). A statement '..UptoSaid' is the law's where the arguments, and the package variables that the reading takes, are together of bulk at most 1048576: NARROWER than '..Said'. Prove '..Said' where nothing that the law and all that it calls make is longer than what came in: it says more and counts as full. Else prove '..UptoSaid'. A law counts once. -/
mutual
def uptoBulk {H : Type} : DataW H → Nat
  | .lit (.string bytes) => bytes.length + 1
  | .lit _ => 1
  | .nil => 1
  | .ptr d => uptoBulk d + 1
  | .slice elems spare => uptoBulkAll elems + uptoBulkAll spare + 1
  | .agg parts => uptoBulkAll parts + 1
  | .iface _ d => uptoBulk d + 1
  | .map entries => uptoBulkEntries entries + 1
  | .held _ => 1
def uptoBulkAll {H : Type} : List (DataW H) → Nat
  | [] => 0
  | d :: r => uptoBulk d + uptoBulkAll r
def uptoBulkEntries {H : Type} : List (Lit × DataW H) → Nat
  | [] => 0
  | x :: r => uptoBulkEntry x + uptoBulkEntries r
def uptoBulkEntry {H : Type} : Lit × DataW H → Nat
  | (.string bytes, d) => bytes.length + uptoBulk d + 1
  | (_, d) => uptoBulk d + 1
 end
def uptoSmall : (H : Type) → List (DataW H) → Bool := fun _ ds => decide (uptoBulkAll ds ≤ 1048576)
def OpenSpec.upto (s : _root_.Go.ChangeSpec) : _root_.Go.OpenSpec := { _root_.Go.OpenSpec.ofChange s with cond := some uptoSmall }

/-- 'lotdrawerlaw.PermDeals', WHERE WHAT IT READS IS OF BULK AT MOST 1048576: true; the input reads as it did. -/
def permDealsUptoRow : OpenClaim := { program := "ytbchdnmpohnkiaa", sum := "f05224eaa8e17acd793807550cbd3fc7f92ba130d9e54cadb9060e3ac7dd007c", func := "lotdrawer/lotdrawerlaw.PermDeals", spec := "permDeals", unfollowed := true, recurses := true, apart := false, narrowed := true }
def PermDealsUptoSaid : Prop := permDealsUptoRow.holds Try.pinned (OpenSpec.upto permDealsSpec)

/-- 'lotdrawerlaw.PermRanks', WHERE WHAT IT READS IS OF BULK AT MOST 1048576: true; the input reads as it did. -/
def permRanksUptoRow : OpenClaim := { program := "ytbchdnmpohnkiaa", sum := "f05224eaa8e17acd793807550cbd3fc7f92ba130d9e54cadb9060e3ac7dd007c", func := "lotdrawer/lotdrawerlaw.PermRanks", spec := "permRanks", recurses := true, apart := false, narrowed := true }
def PermRanksUptoSaid : Prop := permRanksUptoRow.holds Try.pinned (OpenSpec.upto permRanksSpec)

/-- 'lotdrawerkeep.PermEach', WHERE WHAT IT READS IS OF BULK AT MOST 1048576: true; the input reads as it did. -/
def permEachUptoRow : OpenClaim := { program := "ytbchdnmpohnkiaa", sum := "f05224eaa8e17acd793807550cbd3fc7f92ba130d9e54cadb9060e3ac7dd007c", func := "lotdrawer/lotdrawerkeep.PermEach", spec := "permEach", unfollowed := true, recurses := true, apart := false, narrowed := true }
def PermEachUptoSaid : Prop := permEachUptoRow.holds Try.pinned (OpenSpec.upto permEachSpec)

/-- 'lotdrawerkeep.PermBack', WHERE WHAT IT READS IS OF BULK AT MOST 1048576: true; the input reads as it did. -/
def permBackUptoRow : OpenClaim := { program := "ytbchdnmpohnkiaa", sum := "f05224eaa8e17acd793807550cbd3fc7f92ba130d9e54cadb9060e3ac7dd007c", func := "lotdrawer/lotdrawerkeep.PermBack", spec := "permBack", unfollowed := true, recurses := true, apart := false, narrowed := true }
def PermBackUptoSaid : Prop := permBackUptoRow.holds Try.pinned (OpenSpec.upto permBackSpec)

/-- 'lotdrawerkeep.PermGroup', WHERE WHAT IT READS IS OF BULK AT MOST 1048576: true; the input reads as it did. -/
def permGroupUptoRow : OpenClaim := { program := "ytbchdnmpohnkiaa", sum := "f05224eaa8e17acd793807550cbd3fc7f92ba130d9e54cadb9060e3ac7dd007c", func := "lotdrawer/lotdrawerkeep.PermGroup", spec := "permGroup", unfollowed := true, recurses := true, apart := false, narrowed := true }
def PermGroupUptoSaid : Prop := permGroupUptoRow.holds Try.pinned (OpenSpec.upto permGroupSpec)

/-- 'lotdrawerkeep.PermPairs', WHERE WHAT IT READS IS OF BULK AT MOST 1048576: true; the input reads as it did. -/
def permPairsUptoRow : OpenClaim := { program := "ytbchdnmpohnkiaa", sum := "f05224eaa8e17acd793807550cbd3fc7f92ba130d9e54cadb9060e3ac7dd007c", func := "lotdrawer/lotdrawerkeep.PermPairs", spec := "permPairs", unfollowed := true, recurses := true, apart := false, narrowed := true }
def PermPairsUptoSaid : Prop := permPairsUptoRow.holds Try.pinned (OpenSpec.upto permPairsSpec)

end Rows
end Go.Proofs.Ytbchdnmpohnkiaa
