/-
  No cell of these rows narrows 'for every input' (looked for: loops, veiled, ifaces, maps, wideKeys, modest, calm, conditions, laid).
  DERIVED. THE GIVEN ROWS OF THIS SEAT. 4 by the template 'for every input the law returns true; each argument reads behind the call as it read before'; 0 by the template 'total and deterministic' (their statements: YtgmbhlkjnamjhaaTotals.lean).
  GIVEN WITH THE SEED: the statements are not yours to turn. If you find one false, say at which input.
  Laid BY PROGRAM, IN A SANDBOX (cutbox-rows.mjs): the forced cells as the released guide's own fill.sh prints them over the translation f97c7a71c89ef828… (all of the seat's roots in one cut). By AI agents, Wed Nov 11 2026. No macro, syntax, notation, axiom, sorry.
-/
import Derived.Test.YtgmbhlkjnamjhaaChecked
import GoSem.Claim
import GoSem.ClaimJoined
import GoSem.ClaimMapViews
import Derived.JoinedTies
import Derived.KernelRfl
namespace Go.Proofs.Ytgmbhlkjnamjhaa
/- THE CELL 'sum', in the pinned program and in every row, IS THE sha256 OF THE DUMP (.gsa) THAT YtgmbhlkjnamjhaaProg.lean LOADS. Nothing in Lean hashes anything: it is a label: what it is worth is what the hold of that sum in a sandbox is worth. -/
noncomputable def Try.pinned : Pinned := { name := "ytgmbhlkjnamjhaa", sum := "f97c7a71c89ef8283d5e68a3840b950efc373d1903ba5ca5638d9ee1cf143dfa", checked := Try.checked }
namespace Rows
def none {H : Type} : Left H := { results := [], args := [] }

/-- 'lotdrawerlaw.JoinPools': WHATEVER THE INPUT: true; the input reads as it did. -/
def joinPoolsSpec : ChangeSpec := { name := "joinPools", fn := fun _ => fun
  | [d1, d2, d3, d4, d5, d6, d7, d8] => { results := [.lit (.bool true)], args := [d1, d2, d3, d4, d5, d6, d7, d8] }
  | _ => none }
def joinPoolsRow : OpenClaim := { program := "ytgmbhlkjnamjhaa", sum := "f97c7a71c89ef8283d5e68a3840b950efc373d1903ba5ca5638d9ee1cf143dfa", func := "lotdrawer/lotdrawerlaw.JoinPools", spec := "joinPools", apart := false }
def JoinPoolsSaid : Prop := joinPoolsRow.holds Try.pinned (OpenSpec.ofChange joinPoolsSpec)

/-- ITS FALSE NEIGHBOUR: 'it returns false'. Refute it at one input. -/
def joinPoolsWrong : ChangeSpec := { name := "joinPools", fn := fun _ => fun
  | [d1, d2, d3, d4, d5, d6, d7, d8] => { results := [.lit (.bool false)], args := [d1, d2, d3, d4, d5, d6, d7, d8] }
  | _ => none }
def JoinPoolsWrongFalsely : Prop := joinPoolsRow.holds Try.pinned (OpenSpec.ofChange joinPoolsWrong)

/-- 'lotdrawerkeep.JoinEven': WHATEVER THE INPUT: true; the input reads as it did. -/
def joinEvenSpec : ChangeSpec := { name := "joinEven", fn := fun _ => fun
  | [d1, d2, d3] => { results := [.lit (.bool true)], args := [d1, d2, d3] }
  | _ => none }
def joinEvenRow : OpenClaim := { program := "ytgmbhlkjnamjhaa", sum := "f97c7a71c89ef8283d5e68a3840b950efc373d1903ba5ca5638d9ee1cf143dfa", func := "lotdrawer/lotdrawerkeep.JoinEven", spec := "joinEven", recurses := true, apart := false }
def JoinEvenSaid : Prop := joinEvenRow.holds Try.pinned (OpenSpec.ofChange joinEvenSpec)

/-- ITS FALSE NEIGHBOUR: 'it returns false'. Refute it at one input. -/
def joinEvenWrong : ChangeSpec := { name := "joinEven", fn := fun _ => fun
  | [d1, d2, d3] => { results := [.lit (.bool false)], args := [d1, d2, d3] }
  | _ => none }
def JoinEvenWrongFalsely : Prop := joinEvenRow.holds Try.pinned (OpenSpec.ofChange joinEvenWrong)

/-- 'lotdrawerkeep.JoinCount': WHATEVER THE INPUT: true; the input reads as it did. -/
def joinCountSpec : ChangeSpec := { name := "joinCount", fn := fun _ => fun
  | [d1, d2, d3] => { results := [.lit (.bool true)], args := [d1, d2, d3] }
  | _ => none }
def joinCountRow : OpenClaim := { program := "ytgmbhlkjnamjhaa", sum := "f97c7a71c89ef8283d5e68a3840b950efc373d1903ba5ca5638d9ee1cf143dfa", func := "lotdrawer/lotdrawerkeep.JoinCount", spec := "joinCount", apart := false }
def JoinCountSaid : Prop := joinCountRow.holds Try.pinned (OpenSpec.ofChange joinCountSpec)

/-- ITS FALSE NEIGHBOUR: 'it returns false'. Refute it at one input. -/
def joinCountWrong : ChangeSpec := { name := "joinCount", fn := fun _ => fun
  | [d1, d2, d3] => { results := [.lit (.bool false)], args := [d1, d2, d3] }
  | _ => none }
def JoinCountWrongFalsely : Prop := joinCountRow.holds Try.pinned (OpenSpec.ofChange joinCountWrong)

/-- 'lotdrawerkeep.JoinNone': WHATEVER THE INPUT: true; the input reads as it did. -/
def joinNoneSpec : ChangeSpec := { name := "joinNone", fn := fun _ => fun
  | [d1, d2, d3, d4] => { results := [.lit (.bool true)], args := [d1, d2, d3, d4] }
  | _ => none }
def joinNoneRow : OpenClaim := { program := "ytgmbhlkjnamjhaa", sum := "f97c7a71c89ef8283d5e68a3840b950efc373d1903ba5ca5638d9ee1cf143dfa", func := "lotdrawer/lotdrawerkeep.JoinNone", spec := "joinNone", apart := false }
def JoinNoneSaid : Prop := joinNoneRow.holds Try.pinned (OpenSpec.ofChange joinNoneSpec)

/-- ITS FALSE NEIGHBOUR: 'it returns false'. Refute it at one input. -/
def joinNoneWrong : ChangeSpec := { name := "joinNone", fn := fun _ => fun
  | [d1, d2, d3, d4] => { results := [.lit (.bool false)], args := [d1, d2, d3, d4] }
  | _ => none }
def JoinNoneWrongFalsely : Prop := joinNoneRow.holds Try.pinned (OpenSpec.ofChange joinNoneWrong)

/- THE SECOND FORM. 'bulk': how many values and letters a reading holds, each counted each time it is reached (what is shared counts as often as it is met; a slice's spare places count too). A statement '..UptoSaid' is the law's where the arguments, and the package variables that the reading takes, are together of bulk at most 1048576: NARROWER than '..Said'. Prove '..Said' where nothing that the law and all that it calls make is longer than what came in: it says more and counts as full. Else prove '..UptoSaid'. A law counts once. -/
mutual
def uptoBulk {H : Type} : DataW H → Nat
  | .lit (.string bytes) => bytes.length + 1
  | .lit _ => 1
  | .nil => 1
  | .ptr d => uptoBulk d + 1
  | .slice elems spare => uptoBulkAll elems + uptoBulkAll spare + 1
  | .agg parts => uptoBulkAll parts + 1
  | .iface _ d => uptoBulk d + 1
  | .map entries => uptoBulkEntries entries + 1
  | .held _ => 1
def uptoBulkAll {H : Type} : List (DataW H) → Nat
  | [] => 0
  | d :: r => uptoBulk d + uptoBulkAll r
def uptoBulkEntries {H : Type} : List (Lit × DataW H) → Nat
  | [] => 0
  | x :: r => uptoBulkEntry x + uptoBulkEntries r
def uptoBulkEntry {H : Type} : Lit × DataW H → Nat
  | (.string bytes, d) => bytes.length + uptoBulk d + 1
  | (_, d) => uptoBulk d + 1
 end
def uptoSmall : (H : Type) → List (DataW H) → Bool := fun _ ds => decide (uptoBulkAll ds ≤ 1048576)
def OpenSpec.upto (s : _root_.Go.ChangeSpec) : _root_.Go.OpenSpec := { _root_.Go.OpenSpec.ofChange s with cond := some uptoSmall }

/-- 'lotdrawerlaw.JoinPools', WHERE WHAT IT READS IS OF BULK AT MOST 1048576: true; the input reads as it did. -/
def joinPoolsUptoRow : OpenClaim := { program := "ytgmbhlkjnamjhaa", sum := "f97c7a71c89ef8283d5e68a3840b950efc373d1903ba5ca5638d9ee1cf143dfa", func := "lotdrawer/lotdrawerlaw.JoinPools", spec := "joinPools", apart := false, narrowed := true }
def JoinPoolsUptoSaid : Prop := joinPoolsUptoRow.holds Try.pinned (OpenSpec.upto joinPoolsSpec)

/-- 'lotdrawerkeep.JoinEven', WHERE WHAT IT READS IS OF BULK AT MOST 1048576: true; the input reads as it did. -/
def joinEvenUptoRow : OpenClaim := { program := "ytgmbhlkjnamjhaa", sum := "f97c7a71c89ef8283d5e68a3840b950efc373d1903ba5ca5638d9ee1cf143dfa", func := "lotdrawer/lotdrawerkeep.JoinEven", spec := "joinEven", recurses := true, apart := false, narrowed := true }
def JoinEvenUptoSaid : Prop := joinEvenUptoRow.holds Try.pinned (OpenSpec.upto joinEvenSpec)

/-- 'lotdrawerkeep.JoinCount', WHERE WHAT IT READS IS OF BULK AT MOST 1048576: true; the input reads as it did. -/
def joinCountUptoRow : OpenClaim := { program := "ytgmbhlkjnamjhaa", sum := "f97c7a71c89ef8283d5e68a3840b950efc373d1903ba5ca5638d9ee1cf143dfa", func := "lotdrawer/lotdrawerkeep.JoinCount", spec := "joinCount", apart := false, narrowed := true }
def JoinCountUptoSaid : Prop := joinCountUptoRow.holds Try.pinned (OpenSpec.upto joinCountSpec)

/-- 'lotdrawerkeep.JoinNone', WHERE WHAT IT READS IS OF BULK AT MOST 1048576: true; the input reads as it did. -/
def joinNoneUptoRow : OpenClaim := { program := "ytgmbhlkjnamjhaa", sum := "f97c7a71c89ef8283d5e68a3840b950efc373d1903ba5ca5638d9ee1cf143dfa", func := "lotdrawer/lotdrawerkeep.JoinNone", spec := "joinNone", apart := false, narrowed := true }
def JoinNoneUptoSaid : Prop := joinNoneUptoRow.holds Try.pinned (OpenSpec.upto joinNoneSpec)

end Rows
end Go.Proofs.Ytgmbhlkjnamjhaa
