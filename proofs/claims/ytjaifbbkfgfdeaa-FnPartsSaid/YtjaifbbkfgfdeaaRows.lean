/-
  No cell of these rows narrows 'for every input' (looked for: loops, veiled, ifaces, maps, wideKeys, modest, calm, conditions, laid).
  DERIVED. THE GIVEN ROWS OF THIS SEAT. 7 by the template 'for every input the law returns true; each argument reads behind the call as it read before'; 0 by the template 'total and deterministic' (their statements: YtjaifbbkfgfdeaaTotals.lean).
  GIVEN WITH THE SEED: the statements are not yours to turn. If you find one false, say at which input.
  Laid BY PROGRAM, IN A SANDBOX (cutbox-rows.mjs): the forced cells as the released guide's own fill.sh prints them over the translation 2fe9f9c09c600c8b… (all of the seat's roots in one cut). By AI agents, Wed Nov 11 2026. No macro, syntax, notation, axiom, sorry.
-/
import Derived.Test.YtjaifbbkfgfdeaaChecked
import GoSem.Claim
import GoSem.ClaimJoined
import GoSem.ClaimMapViews
import Derived.JoinedTies
import Derived.KernelRfl
namespace Go.Proofs.Ytjaifbbkfgfdeaa
/- THE CELL 'sum', in the pinned program and in every row, IS THE sha256 OF THE DUMP (.gsa) THAT YtjaifbbkfgfdeaaProg.lean LOADS. Nothing in Lean hashes anything: it is a label: what it is worth is what the hold of that sum in a sandbox is worth. -/
noncomputable def Try.pinned : Pinned := { name := "ytjaifbbkfgfdeaa", sum := "2fe9f9c09c600c8baea0283121ff637cbe64d125c9eb4fb0025c7f5b1d0313ed", checked := Try.checked }
namespace Rows
def none {H : Type} : Left H := { results := [], args := [] }

/-- 'laws.FnDistances': WHATEVER THE INPUT: true; the input reads as it did. -/
def fnDistancesSpec : ChangeSpec := { name := "fnDistances", fn := fun _ => fun
  | [d] => { results := [.lit (.bool true)], args := [d] }
  | _ => none }
def fnDistancesRow : OpenClaim := { program := "ytjaifbbkfgfdeaa", sum := "2fe9f9c09c600c8baea0283121ff637cbe64d125c9eb4fb0025c7f5b1d0313ed", func := "loop.example/g00640/laws.FnDistances", spec := "fnDistances", unfollowed := true, recurses := true, apart := false }
def FnDistancesSaid : Prop := fnDistancesRow.holds Try.pinned (OpenSpec.ofChange fnDistancesSpec)

/-- ITS FALSE NEIGHBOUR: 'it returns false'. Refute it at one input. -/
def fnDistancesWrong : ChangeSpec := { name := "fnDistances", fn := fun _ => fun
  | [d] => { results := [.lit (.bool false)], args := [d] }
  | _ => none }
def FnDistancesWrongFalsely : Prop := fnDistancesRow.holds Try.pinned (OpenSpec.ofChange fnDistancesWrong)

/-- 'laws.FnParts': WHATEVER THE INPUT: true; the input reads as it did. -/
def fnPartsSpec : ChangeSpec := { name := "fnParts", fn := fun _ => fun
  | [d] => { results := [.lit (.bool true)], args := [d] }
  | _ => none }
def fnPartsRow : OpenClaim := { program := "ytjaifbbkfgfdeaa", sum := "2fe9f9c09c600c8baea0283121ff637cbe64d125c9eb4fb0025c7f5b1d0313ed", func := "loop.example/g00640/laws.FnParts", spec := "fnParts", unfollowed := true, recurses := true, apart := false }
def FnPartsSaid : Prop := fnPartsRow.holds Try.pinned (OpenSpec.ofChange fnPartsSpec)

/-- ITS FALSE NEIGHBOUR: 'it returns false'. Refute it at one input. -/
def fnPartsWrong : ChangeSpec := { name := "fnParts", fn := fun _ => fun
  | [d] => { results := [.lit (.bool false)], args := [d] }
  | _ => none }
def FnPartsWrongFalsely : Prop := fnPartsRow.holds Try.pinned (OpenSpec.ofChange fnPartsWrong)

/-- 'laws.FnExactDistFrom': WHATEVER THE INPUT: true; the input reads as it did. -/
def fnExactDistFromSpec : ChangeSpec := { name := "fnExactDistFrom", fn := fun _ => fun
  | [d1, d2] => { results := [.lit (.bool true)], args := [d1, d2] }
  | _ => none }
def fnExactDistFromRow : OpenClaim := { program := "ytjaifbbkfgfdeaa", sum := "2fe9f9c09c600c8baea0283121ff637cbe64d125c9eb4fb0025c7f5b1d0313ed", func := "loop.example/g00640/laws.FnExactDistFrom", spec := "fnExactDistFrom", apart := false }
def FnExactDistFromSaid : Prop := fnExactDistFromRow.holds Try.pinned (OpenSpec.ofChange fnExactDistFromSpec)

/-- ITS FALSE NEIGHBOUR: 'it returns false'. Refute it at one input. -/
def fnExactDistFromWrong : ChangeSpec := { name := "fnExactDistFrom", fn := fun _ => fun
  | [d1, d2] => { results := [.lit (.bool false)], args := [d1, d2] }
  | _ => none }
def FnExactDistFromWrongFalsely : Prop := fnExactDistFromRow.holds Try.pinned (OpenSpec.ofChange fnExactDistFromWrong)

/-- 'laws.FnExactDistTo': WHATEVER THE INPUT: true; the input reads as it did. -/
def fnExactDistToSpec : ChangeSpec := { name := "fnExactDistTo", fn := fun _ => fun
  | [d1, d2] => { results := [.lit (.bool true)], args := [d1, d2] }
  | _ => none }
def fnExactDistToRow : OpenClaim := { program := "ytjaifbbkfgfdeaa", sum := "2fe9f9c09c600c8baea0283121ff637cbe64d125c9eb4fb0025c7f5b1d0313ed", func := "loop.example/g00640/laws.FnExactDistTo", spec := "fnExactDistTo", unfollowed := true, recurses := true, apart := false }
def FnExactDistToSaid : Prop := fnExactDistToRow.holds Try.pinned (OpenSpec.ofChange fnExactDistToSpec)

/-- ITS FALSE NEIGHBOUR: 'it returns false'. Refute it at one input. -/
def fnExactDistToWrong : ChangeSpec := { name := "fnExactDistTo", fn := fun _ => fun
  | [d1, d2] => { results := [.lit (.bool false)], args := [d1, d2] }
  | _ => none }
def FnExactDistToWrongFalsely : Prop := fnExactDistToRow.holds Try.pinned (OpenSpec.ofChange fnExactDistToWrong)

/-- 'laws.FnExactBetween': WHATEVER THE INPUT: true; the input reads as it did. -/
def fnExactBetweenSpec : ChangeSpec := { name := "fnExactBetween", fn := fun _ => fun
  | [d1, d2, d3] => { results := [.lit (.bool true)], args := [d1, d2, d3] }
  | _ => none }
def fnExactBetweenRow : OpenClaim := { program := "ytjaifbbkfgfdeaa", sum := "2fe9f9c09c600c8baea0283121ff637cbe64d125c9eb4fb0025c7f5b1d0313ed", func := "loop.example/g00640/laws.FnExactBetween", spec := "fnExactBetween", apart := false }
def FnExactBetweenSaid : Prop := fnExactBetweenRow.holds Try.pinned (OpenSpec.ofChange fnExactBetweenSpec)

/-- ITS FALSE NEIGHBOUR: 'it returns false'. Refute it at one input. -/
def fnExactBetweenWrong : ChangeSpec := { name := "fnExactBetween", fn := fun _ => fun
  | [d1, d2, d3] => { results := [.lit (.bool false)], args := [d1, d2, d3] }
  | _ => none }
def FnExactBetweenWrongFalsely : Prop := fnExactBetweenRow.holds Try.pinned (OpenSpec.ofChange fnExactBetweenWrong)

/-- 'laws.FnExactParts': WHATEVER THE INPUT: true; the input reads as it did. -/
def fnExactPartsSpec : ChangeSpec := { name := "fnExactParts", fn := fun _ => fun
  | [d] => { results := [.lit (.bool true)], args := [d] }
  | _ => none }
def fnExactPartsRow : OpenClaim := { program := "ytjaifbbkfgfdeaa", sum := "2fe9f9c09c600c8baea0283121ff637cbe64d125c9eb4fb0025c7f5b1d0313ed", func := "loop.example/g00640/laws.FnExactParts", spec := "fnExactParts", unfollowed := true, recurses := true, apart := false }
def FnExactPartsSaid : Prop := fnExactPartsRow.holds Try.pinned (OpenSpec.ofChange fnExactPartsSpec)

/-- ITS FALSE NEIGHBOUR: 'it returns false'. Refute it at one input. -/
def fnExactPartsWrong : ChangeSpec := { name := "fnExactParts", fn := fun _ => fun
  | [d] => { results := [.lit (.bool false)], args := [d] }
  | _ => none }
def FnExactPartsWrongFalsely : Prop := fnExactPartsRow.holds Try.pinned (OpenSpec.ofChange fnExactPartsWrong)

/-- 'laws.FnExactSameDists': WHATEVER THE INPUT: true; the input reads as it did. -/
def fnExactSameDistsSpec : ChangeSpec := { name := "fnExactSameDists", fn := fun _ => fun
  | [d1, d2] => { results := [.lit (.bool true)], args := [d1, d2] }
  | _ => none }
def fnExactSameDistsRow : OpenClaim := { program := "ytjaifbbkfgfdeaa", sum := "2fe9f9c09c600c8baea0283121ff637cbe64d125c9eb4fb0025c7f5b1d0313ed", func := "loop.example/g00640/laws.FnExactSameDists", spec := "fnExactSameDists", apart := false }
def FnExactSameDistsSaid : Prop := fnExactSameDistsRow.holds Try.pinned (OpenSpec.ofChange fnExactSameDistsSpec)

/-- ITS FALSE NEIGHBOUR: 'it returns false'. Refute it at one input. -/
def fnExactSameDistsWrong : ChangeSpec := { name := "fnExactSameDists", fn := fun _ => fun
  | [d1, d2] => { results := [.lit (.bool false)], args := [d1, d2] }
  | _ => none }
def FnExactSameDistsWrongFalsely : Prop := fnExactSameDistsRow.holds Try.pinned (OpenSpec.ofChange fnExactSameDistsWrong)

/- THE SECOND FORM. 'bulk': how many values and letters a reading holds, each counted each time it is reached (what is shared counts as often as it is met; a slice's spare places count too). A statement '..UptoSaid' is the law's where the arguments, and the package variables that the reading takes, are together of bulk at most 1048576: NARROWER than '..Said'. Prove '..Said' where nothing that the law and all that it calls make is longer than what came in: it says more and counts as full. Else prove '..UptoSaid'. A law counts once. -/
mutual
def uptoBulk {H : Type} : DataW H → Nat
  | .lit (.string bytes) => bytes.length + 1
  | .lit _ => 1
  | .nil => 1
  | .ptr d => uptoBulk d + 1
  | .slice elems spare => uptoBulkAll elems + uptoBulkAll spare + 1
  | .agg parts => uptoBulkAll parts + 1
  | .iface _ d => uptoBulk d + 1
  | .map entries => uptoBulkEntries entries + 1
  | .held _ => 1
def uptoBulkAll {H : Type} : List (DataW H) → Nat
  | [] => 0
  | d :: r => uptoBulk d + uptoBulkAll r
def uptoBulkEntries {H : Type} : List (Lit × DataW H) → Nat
  | [] => 0
  | x :: r => uptoBulkEntry x + uptoBulkEntries r
def uptoBulkEntry {H : Type} : Lit × DataW H → Nat
  | (.string bytes, d) => bytes.length + uptoBulk d + 1
  | (_, d) => uptoBulk d + 1
 end
def uptoSmall : (H : Type) → List (DataW H) → Bool := fun _ ds => decide (uptoBulkAll ds ≤ 1048576)
def OpenSpec.upto (s : _root_.Go.ChangeSpec) : _root_.Go.OpenSpec := { _root_.Go.OpenSpec.ofChange s with cond := some uptoSmall }

/-- 'laws.FnDistances', WHERE WHAT IT READS IS OF BULK AT MOST 1048576: true; the input reads as it did. -/
def fnDistancesUptoRow : OpenClaim := { program := "ytjaifbbkfgfdeaa", sum := "2fe9f9c09c600c8baea0283121ff637cbe64d125c9eb4fb0025c7f5b1d0313ed", func := "loop.example/g00640/laws.FnDistances", spec := "fnDistances", unfollowed := true, recurses := true, apart := false, narrowed := true }
def FnDistancesUptoSaid : Prop := fnDistancesUptoRow.holds Try.pinned (OpenSpec.upto fnDistancesSpec)

/-- 'laws.FnParts', WHERE WHAT IT READS IS OF BULK AT MOST 1048576: true; the input reads as it did. -/
def fnPartsUptoRow : OpenClaim := { program := "ytjaifbbkfgfdeaa", sum := "2fe9f9c09c600c8baea0283121ff637cbe64d125c9eb4fb0025c7f5b1d0313ed", func := "loop.example/g00640/laws.FnParts", spec := "fnParts", unfollowed := true, recurses := true, apart := false, narrowed := true }
def FnPartsUptoSaid : Prop := fnPartsUptoRow.holds Try.pinned (OpenSpec.upto fnPartsSpec)

/-- 'laws.FnExactDistFrom', WHERE WHAT IT READS IS OF BULK AT MOST 1048576: true; the input reads as it did. -/
def fnExactDistFromUptoRow : OpenClaim := { program := "ytjaifbbkfgfdeaa", sum := "2fe9f9c09c600c8baea0283121ff637cbe64d125c9eb4fb0025c7f5b1d0313ed", func := "loop.example/g00640/laws.FnExactDistFrom", spec := "fnExactDistFrom", apart := false, narrowed := true }
def FnExactDistFromUptoSaid : Prop := fnExactDistFromUptoRow.holds Try.pinned (OpenSpec.upto fnExactDistFromSpec)

/-- 'laws.FnExactDistTo', WHERE WHAT IT READS IS OF BULK AT MOST 1048576: true; the input reads as it did. -/
def fnExactDistToUptoRow : OpenClaim := { program := "ytjaifbbkfgfdeaa", sum := "2fe9f9c09c600c8baea0283121ff637cbe64d125c9eb4fb0025c7f5b1d0313ed", func := "loop.example/g00640/laws.FnExactDistTo", spec := "fnExactDistTo", unfollowed := true, recurses := true, apart := false, narrowed := true }
def FnExactDistToUptoSaid : Prop := fnExactDistToUptoRow.holds Try.pinned (OpenSpec.upto fnExactDistToSpec)

/-- 'laws.FnExactBetween', WHERE WHAT IT READS IS OF BULK AT MOST 1048576: true; the input reads as it did. -/
def fnExactBetweenUptoRow : OpenClaim := { program := "ytjaifbbkfgfdeaa", sum := "2fe9f9c09c600c8baea0283121ff637cbe64d125c9eb4fb0025c7f5b1d0313ed", func := "loop.example/g00640/laws.FnExactBetween", spec := "fnExactBetween", apart := false, narrowed := true }
def FnExactBetweenUptoSaid : Prop := fnExactBetweenUptoRow.holds Try.pinned (OpenSpec.upto fnExactBetweenSpec)

/-- 'laws.FnExactParts', WHERE WHAT IT READS IS OF BULK AT MOST 1048576: true; the input reads as it did. -/
def fnExactPartsUptoRow : OpenClaim := { program := "ytjaifbbkfgfdeaa", sum := "2fe9f9c09c600c8baea0283121ff637cbe64d125c9eb4fb0025c7f5b1d0313ed", func := "loop.example/g00640/laws.FnExactParts", spec := "fnExactParts", unfollowed := true, recurses := true, apart := false, narrowed := true }
def FnExactPartsUptoSaid : Prop := fnExactPartsUptoRow.holds Try.pinned (OpenSpec.upto fnExactPartsSpec)

/-- 'laws.FnExactSameDists', WHERE WHAT IT READS IS OF BULK AT MOST 1048576: true; the input reads as it did. -/
def fnExactSameDistsUptoRow : OpenClaim := { program := "ytjaifbbkfgfdeaa", sum := "2fe9f9c09c600c8baea0283121ff637cbe64d125c9eb4fb0025c7f5b1d0313ed", func := "loop.example/g00640/laws.FnExactSameDists", spec := "fnExactSameDists", apart := false, narrowed := true }
def FnExactSameDistsUptoSaid : Prop := fnExactSameDistsUptoRow.holds Try.pinned (OpenSpec.upto fnExactSameDistsSpec)

end Rows
end Go.Proofs.Ytjaifbbkfgfdeaa
