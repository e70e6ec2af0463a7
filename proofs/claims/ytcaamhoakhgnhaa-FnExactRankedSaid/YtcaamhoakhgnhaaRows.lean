/-
  No cell of these rows narrows 'for every input' (looked for: loops, veiled, ifaces, maps, wideKeys, modest, calm, conditions, laid).
  DERIVED. THE GIVEN ROWS OF THIS SEAT. 4 by the template 'for every input the law returns true; each argument reads behind the call as it read before'; 0 by the template 'total and deterministic' (their statements: YtcaamhoakhgnhaaTotals.lean).
  GIVEN WITH THE SEED: the statements are not yours to turn. If you find one false, say at which input.
  Laid BY PROGRAM, IN A SANDBOX (cutbox-rows.mjs): the forced cells as the released guide's own fill.sh prints them over the translation 698b8741e031f276… (all of the seat's roots in one cut). By AI agents, Wed Nov 11 2026. No macro, syntax, notation, axiom, sorry.
-/
import Derived.Test.YtcaamhoakhgnhaaChecked
import GoSem.Claim
import GoSem.ClaimJoined
import GoSem.ClaimMapViews
import Derived.JoinedTies
import Derived.KernelRfl
namespace Go.Proofs.Ytcaamhoakhgnhaa
/- THE CELL 'sum', in the pinned program and in every row, IS THE sha256 OF THE DUMP (.gsa) THAT YtcaamhoakhgnhaaProg.lean LOADS. Nothing in Lean hashes anything: it is a label: what it is worth is what the hold of that sum in a sandbox is worth. -/
noncomputable def Try.pinned : Pinned := { name := "ytcaamhoakhgnhaa", sum := "698b8741e031f276321871e2442ea2ea2c42b26db47745d235319af6f1c53a31", checked := Try.checked }
namespace Rows
def none {H : Type} : Left H := { results := [], args := [] }

/-- 'laws.FnExactBoth': WHATEVER THE INPUT: true; the input reads as it did. -/
def fnExactBothSpec : ChangeSpec := { name := "fnExactBoth", fn := fun _ => fun
  | [d1, d2, d3] => { results := [.lit (.bool true)], args := [d1, d2, d3] }
  | _ => none }
def fnExactBothRow : OpenClaim := { program := "ytcaamhoakhgnhaa", sum := "698b8741e031f276321871e2442ea2ea2c42b26db47745d235319af6f1c53a31", func := "loop.example/g00640/laws.FnExactBoth", spec := "fnExactBoth", unfollowed := true, recurses := true, apart := false }
def FnExactBothSaid : Prop := fnExactBothRow.holds Try.pinned (OpenSpec.ofChange fnExactBothSpec)

/-- ITS FALSE NEIGHBOUR: 'it returns false'. Refute it at one input. -/
def fnExactBothWrong : ChangeSpec := { name := "fnExactBoth", fn := fun _ => fun
  | [d1, d2, d3] => { results := [.lit (.bool false)], args := [d1, d2, d3] }
  | _ => none }
def FnExactBothWrongFalsely : Prop := fnExactBothRow.holds Try.pinned (OpenSpec.ofChange fnExactBothWrong)

/-- 'laws.FnSearched': WHATEVER THE INPUT: true; the input reads as it did. -/
def fnSearchedSpec : ChangeSpec := { name := "fnSearched", fn := fun _ => fun
  | [d] => { results := [.lit (.bool true)], args := [d] }
  | _ => none }
def fnSearchedRow : OpenClaim := { program := "ytcaamhoakhgnhaa", sum := "698b8741e031f276321871e2442ea2ea2c42b26db47745d235319af6f1c53a31", func := "loop.example/g00640/laws.FnSearched", spec := "fnSearched", unfollowed := true, recurses := true, apart := false }
def FnSearchedSaid : Prop := fnSearchedRow.holds Try.pinned (OpenSpec.ofChange fnSearchedSpec)

/-- ITS FALSE NEIGHBOUR: 'it returns false'. Refute it at one input. -/
def fnSearchedWrong : ChangeSpec := { name := "fnSearched", fn := fun _ => fun
  | [d] => { results := [.lit (.bool false)], args := [d] }
  | _ => none }
def FnSearchedWrongFalsely : Prop := fnSearchedRow.holds Try.pinned (OpenSpec.ofChange fnSearchedWrong)

/-- 'laws.FnGuided': WHATEVER THE INPUT: true; the input reads as it did. -/
def fnGuidedSpec : ChangeSpec := { name := "fnGuided", fn := fun _ => fun
  | [d] => { results := [.lit (.bool true)], args := [d] }
  | _ => none }
def fnGuidedRow : OpenClaim := { program := "ytcaamhoakhgnhaa", sum := "698b8741e031f276321871e2442ea2ea2c42b26db47745d235319af6f1c53a31", func := "loop.example/g00640/laws.FnGuided", spec := "fnGuided", unfollowed := true, recurses := true, apart := false }
def FnGuidedSaid : Prop := fnGuidedRow.holds Try.pinned (OpenSpec.ofChange fnGuidedSpec)

/-- ITS FALSE NEIGHBOUR: 'it returns false'. Refute it at one input. -/
def fnGuidedWrong : ChangeSpec := { name := "fnGuided", fn := fun _ => fun
  | [d] => { results := [.lit (.bool false)], args := [d] }
  | _ => none }
def FnGuidedWrongFalsely : Prop := fnGuidedRow.holds Try.pinned (OpenSpec.ofChange fnGuidedWrong)

/-- 'laws.FnExactRanked': WHATEVER THE INPUT: true; the input reads as it did. -/
def fnExactRankedSpec : ChangeSpec := { name := "fnExactRanked", fn := fun _ => fun
  | [d1, d2] => { results := [.lit (.bool true)], args := [d1, d2] }
  | _ => none }
def fnExactRankedRow : OpenClaim := { program := "ytcaamhoakhgnhaa", sum := "698b8741e031f276321871e2442ea2ea2c42b26db47745d235319af6f1c53a31", func := "loop.example/g00640/laws.FnExactRanked", spec := "fnExactRanked", unfollowed := true, recurses := true, apart := false }
def FnExactRankedSaid : Prop := fnExactRankedRow.holds Try.pinned (OpenSpec.ofChange fnExactRankedSpec)

/-- ITS FALSE NEIGHBOUR: 'it returns false'. Refute it at one input. -/
def fnExactRankedWrong : ChangeSpec := { name := "fnExactRanked", fn := fun _ => fun
  | [d1, d2] => { results := [.lit (.bool false)], args := [d1, d2] }
  | _ => none }
def FnExactRankedWrongFalsely : Prop := fnExactRankedRow.holds Try.pinned (OpenSpec.ofChange fnExactRankedWrong)

/- THE SECOND FORM. 'bulk': how many values and letters a reading holds, each counted each time it is reached (what is shared counts as often as it is met; a slice's spare places count too). A statement '..UptoSaid' is the law's where the arguments, and the package variables that the reading takes, are together of bulk at most 1048576: NARROWER than '..Said'. Prove '..Said' where nothing that the law and all that it calls make is longer than what came in: it says more and counts as full. Else prove '..UptoSaid'. A law counts once. -/
mutual
def uptoBulk {H : Type} : DataW H → Nat
  | .lit (.string bytes) => bytes.length + 1
  | .lit _ => 1
  | .nil => 1
  | .ptr d => uptoBulk d + 1
  | .slice elems spare => uptoBulkAll elems + uptoBulkAll spare + 1
  | .agg parts => uptoBulkAll parts + 1
  | .iface _ d => uptoBulk d + 1
  | .map entries => uptoBulkEntries entries + 1
  | .held _ => 1
def uptoBulkAll {H : Type} : List (DataW H) → Nat
  | [] => 0
  | d :: r => uptoBulk d + uptoBulkAll r
def uptoBulkEntries {H : Type} : List (Lit × DataW H) → Nat
  | [] => 0
  | x :: r => uptoBulkEntry x + uptoBulkEntries r
def uptoBulkEntry {H : Type} : Lit × DataW H → Nat
  | (.string bytes, d) => bytes.length + uptoBulk d + 1
  | (_, d) => uptoBulk d + 1
 end
def uptoSmall : (H : Type) → List (DataW H) → Bool := fun _ ds => decide (uptoBulkAll ds ≤ 1048576)
def OpenSpec.upto (s : _root_.Go.ChangeSpec) : _root_.Go.OpenSpec := { _root_.Go.OpenSpec.ofChange s with cond := some uptoSmall }

/-- 'laws.FnExactBoth', WHERE WHAT IT READS IS OF BULK AT MOST 1048576: true; the input reads as it did. -/
def fnExactBothUptoRow : OpenClaim := { program := "ytcaamhoakhgnhaa", sum := "698b8741e031f276321871e2442ea2ea2c42b26db47745d235319af6f1c53a31", func := "loop.example/g00640/laws.FnExactBoth", spec := "fnExactBoth", unfollowed := true, recurses := true, apart := false, narrowed := true }
def FnExactBothUptoSaid : Prop := fnExactBothUptoRow.holds Try.pinned (OpenSpec.upto fnExactBothSpec)

/-- 'laws.FnSearched', WHERE WHAT IT READS IS OF BULK AT MOST 1048576: true; the input reads as it did. -/
def fnSearchedUptoRow : OpenClaim := { program := "ytcaamhoakhgnhaa", sum := "698b8741e031f276321871e2442ea2ea2c42b26db47745d235319af6f1c53a31", func := "loop.example/g00640/laws.FnSearched", spec := "fnSearched", unfollowed := true, recurses := true, apart := false, narrowed := true }
def FnSearchedUptoSaid : Prop := fnSearchedUptoRow.holds Try.pinned (OpenSpec.upto fnSearchedSpec)

/-- 'laws.FnGuided', WHERE WHAT IT READS IS OF BULK AT MOST 1048576: true; the input reads as it did. -/
def fnGuidedUptoRow : OpenClaim := { program := "ytcaamhoakhgnhaa", sum := "698b8741e031f276321871e2442ea2ea2c42b26db47745d235319af6f1c53a31", func := "loop.example/g00640/laws.FnGuided", spec := "fnGuided", unfollowed := true, recurses := true, apart := false, narrowed := true }
def FnGuidedUptoSaid : Prop := fnGuidedUptoRow.holds Try.pinned (OpenSpec.upto fnGuidedSpec)

/-- 'laws.FnExactRanked', WHERE WHAT IT READS IS OF BULK AT MOST 1048576: true; the input reads as it did. -/
def fnExactRankedUptoRow : OpenClaim := { program := "ytcaamhoakhgnhaa", sum := "698b8741e031f276321871e2442ea2ea2c42b26db47745d235319af6f1c53a31", func := "loop.example/g00640/laws.FnExactRanked", spec := "fnExactRanked", unfollowed := true, recurses := true, apart := false, narrowed := true }
def FnExactRankedUptoSaid : Prop := fnExactRankedUptoRow.holds Try.pinned (OpenSpec.upto fnExactRankedSpec)

end Rows
end Go.Proofs.Ytcaamhoakhgnhaa
