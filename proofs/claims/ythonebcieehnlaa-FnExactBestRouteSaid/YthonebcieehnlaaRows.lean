/-
  No cell of these rows narrows 'for every input' (looked for: loops, veiled, ifaces, maps, wideKeys, modest, calm, conditions, laid).
  DERIVED. THE GIVEN ROWS OF THIS SEAT. 7 by the template 'for every input the law returns true; each argument reads behind the call as it read before'; 0 by the template 'total and deterministic' (their statements: YthonebcieehnlaaTotals.lean).
  GIVEN WITH THE SEED: the statements are not yours to turn. If you find one false, say at which input.
  Laid BY PROGRAM, IN A SANDBOX (cutbox-rows.mjs): the forced cells as the released guide's own fill.sh prints them over the translation 2f61cabe14c70b7f… (all of the seat's roots in one cut). By AI agents, Wed Nov 11 2026. No macro, syntax, notation, axiom, sorry.
-/
import Derived.Test.YthonebcieehnlaaChecked
import GoSem.Claim
import GoSem.ClaimJoined
import GoSem.ClaimMapViews
import Derived.JoinedTies
import Derived.KernelRfl
namespace Go.Proofs.Ythonebcieehnlaa
/- THE CELL 'sum', in the pinned program and in every row, IS THE sha256 OF THE DUMP (.gsa) THAT YthonebcieehnlaaProg.lean LOADS. Nothing in Lean hashes anything: it is a label: what it is worth is what the hold of that sum in a sandbox is worth. -/
noncomputable def Try.pinned : Pinned := { name := "ythonebcieehnlaa", sum := "2f61cabe14c70b7ffe4274fdb1dd603f0d79a5ba7033c00fc55127f23a962c44", checked := Try.checked }
namespace Rows
def none {H : Type} : Left H := { results := [], args := [] }

/-- 'laws.FnRoutes': WHATEVER THE INPUT: true; the input reads as it did. -/
def fnRoutesSpec : ChangeSpec := { name := "fnRoutes", fn := fun _ => fun
  | [d] => { results := [.lit (.bool true)], args := [d] }
  | _ => none }
def fnRoutesRow : OpenClaim := { program := "ythonebcieehnlaa", sum := "2f61cabe14c70b7ffe4274fdb1dd603f0d79a5ba7033c00fc55127f23a962c44", func := "loop.example/g00640/laws.FnRoutes", spec := "fnRoutes", unfollowed := true, recurses := true, apart := false }
def FnRoutesSaid : Prop := fnRoutesRow.holds Try.pinned (OpenSpec.ofChange fnRoutesSpec)

/-- ITS FALSE NEIGHBOUR: 'it returns false'. Refute it at one input. -/
def fnRoutesWrong : ChangeSpec := { name := "fnRoutes", fn := fun _ => fun
  | [d] => { results := [.lit (.bool false)], args := [d] }
  | _ => none }
def FnRoutesWrongFalsely : Prop := fnRoutesRow.holds Try.pinned (OpenSpec.ofChange fnRoutesWrong)

/-- 'laws.FnLinked': WHATEVER THE INPUT: true; the input reads as it did. -/
def fnLinkedSpec : ChangeSpec := { name := "fnLinked", fn := fun _ => fun
  | [d] => { results := [.lit (.bool true)], args := [d] }
  | _ => none }
def fnLinkedRow : OpenClaim := { program := "ythonebcieehnlaa", sum := "2f61cabe14c70b7ffe4274fdb1dd603f0d79a5ba7033c00fc55127f23a962c44", func := "loop.example/g00640/laws.FnLinked", spec := "fnLinked", unfollowed := true, recurses := true, apart := false }
def FnLinkedSaid : Prop := fnLinkedRow.holds Try.pinned (OpenSpec.ofChange fnLinkedSpec)

/-- ITS FALSE NEIGHBOUR: 'it returns false'. Refute it at one input. -/
def fnLinkedWrong : ChangeSpec := { name := "fnLinked", fn := fun _ => fun
  | [d] => { results := [.lit (.bool false)], args := [d] }
  | _ => none }
def FnLinkedWrongFalsely : Prop := fnLinkedRow.holds Try.pinned (OpenSpec.ofChange fnLinkedWrong)

/-- 'laws.FnExactRouteOk': WHATEVER THE INPUT: true; the input reads as it did. -/
def fnExactRouteOkSpec : ChangeSpec := { name := "fnExactRouteOk", fn := fun _ => fun
  | [d1, d2] => { results := [.lit (.bool true)], args := [d1, d2] }
  | _ => none }
def fnExactRouteOkRow : OpenClaim := { program := "ythonebcieehnlaa", sum := "2f61cabe14c70b7ffe4274fdb1dd603f0d79a5ba7033c00fc55127f23a962c44", func := "loop.example/g00640/laws.FnExactRouteOk", spec := "fnExactRouteOk", unfollowed := true, recurses := true, apart := false }
def FnExactRouteOkSaid : Prop := fnExactRouteOkRow.holds Try.pinned (OpenSpec.ofChange fnExactRouteOkSpec)

/-- ITS FALSE NEIGHBOUR: 'it returns false'. Refute it at one input. -/
def fnExactRouteOkWrong : ChangeSpec := { name := "fnExactRouteOk", fn := fun _ => fun
  | [d1, d2] => { results := [.lit (.bool false)], args := [d1, d2] }
  | _ => none }
def FnExactRouteOkWrongFalsely : Prop := fnExactRouteOkRow.holds Try.pinned (OpenSpec.ofChange fnExactRouteOkWrong)

/-- 'laws.FnExactRouteLen': WHATEVER THE INPUT: true; the input reads as it did. -/
def fnExactRouteLenSpec : ChangeSpec := { name := "fnExactRouteLen", fn := fun _ => fun
  | [d1, d2] => { results := [.lit (.bool true)], args := [d1, d2] }
  | _ => none }
def fnExactRouteLenRow : OpenClaim := { program := "ythonebcieehnlaa", sum := "2f61cabe14c70b7ffe4274fdb1dd603f0d79a5ba7033c00fc55127f23a962c44", func := "loop.example/g00640/laws.FnExactRouteLen", spec := "fnExactRouteLen", unfollowed := true, recurses := true, apart := false }
def FnExactRouteLenSaid : Prop := fnExactRouteLenRow.holds Try.pinned (OpenSpec.ofChange fnExactRouteLenSpec)

/-- ITS FALSE NEIGHBOUR: 'it returns false'. Refute it at one input. -/
def fnExactRouteLenWrong : ChangeSpec := { name := "fnExactRouteLen", fn := fun _ => fun
  | [d1, d2] => { results := [.lit (.bool false)], args := [d1, d2] }
  | _ => none }
def FnExactRouteLenWrongFalsely : Prop := fnExactRouteLenRow.holds Try.pinned (OpenSpec.ofChange fnExactRouteLenWrong)

/-- 'laws.FnExactBestRoute': WHATEVER THE INPUT: true; the input reads as it did. -/
def fnExactBestRouteSpec : ChangeSpec := { name := "fnExactBestRoute", fn := fun _ => fun
  | [d1, d2, d3] => { results := [.lit (.bool true)], args := [d1, d2, d3] }
  | _ => none }
def fnExactBestRouteRow : OpenClaim := { program := "ythonebcieehnlaa", sum := "2f61cabe14c70b7ffe4274fdb1dd603f0d79a5ba7033c00fc55127f23a962c44", func := "loop.example/g00640/laws.FnExactBestRoute", spec := "fnExactBestRoute", unfollowed := true, recurses := true, apart := false }
def FnExactBestRouteSaid : Prop := fnExactBestRouteRow.holds Try.pinned (OpenSpec.ofChange fnExactBestRouteSpec)

/-- ITS FALSE NEIGHBOUR: 'it returns false'. Refute it at one input. -/
def fnExactBestRouteWrong : ChangeSpec := { name := "fnExactBestRoute", fn := fun _ => fun
  | [d1, d2, d3] => { results := [.lit (.bool false)], args := [d1, d2, d3] }
  | _ => none }
def FnExactBestRouteWrongFalsely : Prop := fnExactBestRouteRow.holds Try.pinned (OpenSpec.ofChange fnExactBestRouteWrong)

/-- 'laws.FnExactRouteArcs': WHATEVER THE INPUT: true; the input reads as it did. -/
def fnExactRouteArcsSpec : ChangeSpec := { name := "fnExactRouteArcs", fn := fun _ => fun
  | [d1, d2] => { results := [.lit (.bool true)], args := [d1, d2] }
  | _ => none }
def fnExactRouteArcsRow : OpenClaim := { program := "ythonebcieehnlaa", sum := "2f61cabe14c70b7ffe4274fdb1dd603f0d79a5ba7033c00fc55127f23a962c44", func := "loop.example/g00640/laws.FnExactRouteArcs", spec := "fnExactRouteArcs", unfollowed := true, recurses := true, apart := false }
def FnExactRouteArcsSaid : Prop := fnExactRouteArcsRow.holds Try.pinned (OpenSpec.ofChange fnExactRouteArcsSpec)

/-- ITS FALSE NEIGHBOUR: 'it returns false'. Refute it at one input. -/
def fnExactRouteArcsWrong : ChangeSpec := { name := "fnExactRouteArcs", fn := fun _ => fun
  | [d1, d2] => { results := [.lit (.bool false)], args := [d1, d2] }
  | _ => none }
def FnExactRouteArcsWrongFalsely : Prop := fnExactRouteArcsRow.holds Try.pinned (OpenSpec.ofChange fnExactRouteArcsWrong)

/-- 'laws.FnExactLinked': WHATEVER THE INPUT: true; the input reads as it did. -/
def fnExactLinkedSpec : ChangeSpec := { name := "fnExactLinked", fn := fun _ => fun
  | [d1, d2] => { results := [.lit (.bool true)], args := [d1, d2] }
  | _ => none }
def fnExactLinkedRow : OpenClaim := { program := "ythonebcieehnlaa", sum := "2f61cabe14c70b7ffe4274fdb1dd603f0d79a5ba7033c00fc55127f23a962c44", func := "loop.example/g00640/laws.FnExactLinked", spec := "fnExactLinked", apart := false }
def FnExactLinkedSaid : Prop := fnExactLinkedRow.holds Try.pinned (OpenSpec.ofChange fnExactLinkedSpec)

/-- ITS FALSE NEIGHBOUR: 'it returns false'. Refute it at one input. -/
def fnExactLinkedWrong : ChangeSpec := { name := "fnExactLinked", fn := fun _ => fun
  | [d1, d2] => { results := [.lit (.bool false)], args := [d1, d2] }
  | _ => none }
def FnExactLinkedWrongFalsely : Prop := fnExactLinkedRow.holds Try.pinned (OpenSpec.ofChange fnExactLinkedWrong)

/- THE SECOND FORM. 'bulk': how many values and letters a reading holds, each counted each time it is reached (what is shared counts as often as it is met; a slice's spare places count too). A statement '..UptoSaid' is the law's where the arguments, and the package variables that the reading takes, are together of bulk at most 1048576: NARROWER than '..Said'. Prove '..Said' where nothing that the law and all that it calls make is longer than what came in: it says more and counts as full. Else prove '..UptoSaid'. A law counts once. -/
mutual
def uptoBulk {H : Type} : DataW H → Nat
  | .lit (.string bytes) => bytes.length + 1
  | .lit _ => 1
  | .nil => 1
  | .ptr d => uptoBulk d + 1
  | .slice elems spare => uptoBulkAll elems + uptoBulkAll spare + 1
  | .agg parts => uptoBulkAll parts + 1
  | .iface _ d => uptoBulk d + 1
  | .map entries => uptoBulkEntries entries + 1
  | .held _ => 1
def uptoBulkAll {H : Type} : List (DataW H) → Nat
  | [] => 0
  | d :: r => uptoBulk d + uptoBulkAll r
def uptoBulkEntries {H : Type} : List (Lit × DataW H) → Nat
  | [] => 0
  | x :: r => uptoBulkEntry x + uptoBulkEntries r
def uptoBulkEntry {H : Type} : Lit × DataW H → Nat
  | (.string bytes, d) => bytes.length + uptoBulk d + 1
  | (_, d) => uptoBulk d + 1
 end
def uptoSmall : (H : Type) → List (DataW H) → Bool := fun _ ds => decide (uptoBulkAll ds ≤ 1048576)
def OpenSpec.upto (s : _root_.Go.ChangeSpec) : _root_.Go.OpenSpec := { _root_.Go.OpenSpec.ofChange s with cond := some uptoSmall }

/-- 'laws.FnRoutes', WHERE WHAT IT READS IS OF BULK AT MOST 1048576: true; the input reads as it did. -/
def fnRoutesUptoRow : OpenClaim := { program := "ythonebcieehnlaa", sum := "2f61cabe14c70b7ffe4274fdb1dd603f0d79a5ba7033c00fc55127f23a962c44", func := "loop.example/g00640/laws.FnRoutes", spec := "fnRoutes", unfollowed := true, recurses := true, apart := false, narrowed := true }
def FnRoutesUptoSaid : Prop := fnRoutesUptoRow.holds Try.pinned (OpenSpec.upto fnRoutesSpec)

/-- 'laws.FnLinked', WHERE WHAT IT READS IS OF BULK AT MOST 1048576: true; the input reads as it did. -/
def fnLinkedUptoRow : OpenClaim := { program := "ythonebcieehnlaa", sum := "2f61cabe14c70b7ffe4274fdb1dd603f0d79a5ba7033c00fc55127f23a962c44", func := "loop.example/g00640/laws.FnLinked", spec := "fnLinked", unfollowed := true, recurses := true, apart := false, narrowed := true }
def FnLinkedUptoSaid : Prop := fnLinkedUptoRow.holds Try.pinned (OpenSpec.upto fnLinkedSpec)

/-- 'laws.FnExactRouteOk', WHERE WHAT IT READS IS OF BULK AT MOST 1048576: true; the input reads as it did. -/
def fnExactRouteOkUptoRow : OpenClaim := { program := "ythonebcieehnlaa", sum := "2f61cabe14c70b7ffe4274fdb1dd603f0d79a5ba7033c00fc55127f23a962c44", func := "loop.example/g00640/laws.FnExactRouteOk", spec := "fnExactRouteOk", unfollowed := true, recurses := true, apart := false, narrowed := true }
def FnExactRouteOkUptoSaid : Prop := fnExactRouteOkUptoRow.holds Try.pinned (OpenSpec.upto fnExactRouteOkSpec)

/-- 'laws.FnExactRouteLen', WHERE WHAT IT READS IS OF BULK AT MOST 1048576: true; the input reads as it did. -/
def fnExactRouteLenUptoRow : OpenClaim := { program := "ythonebcieehnlaa", sum := "2f61cabe14c70b7ffe4274fdb1dd603f0d79a5ba7033c00fc55127f23a962c44", func := "loop.example/g00640/laws.FnExactRouteLen", spec := "fnExactRouteLen", unfollowed := true, recurses := true, apart := false, narrowed := true }
def FnExactRouteLenUptoSaid : Prop := fnExactRouteLenUptoRow.holds Try.pinned (OpenSpec.upto fnExactRouteLenSpec)

/-- 'laws.FnExactBestRoute', WHERE WHAT IT READS IS OF BULK AT MOST 1048576: true; the input reads as it did. -/
def fnExactBestRouteUptoRow : OpenClaim := { program := "ythonebcieehnlaa", sum := "2f61cabe14c70b7ffe4274fdb1dd603f0d79a5ba7033c00fc55127f23a962c44", func := "loop.example/g00640/laws.FnExactBestRoute", spec := "fnExactBestRoute", unfollowed := true, recurses := true, apart := false, narrowed := true }
def FnExactBestRouteUptoSaid : Prop := fnExactBestRouteUptoRow.holds Try.pinned (OpenSpec.upto fnExactBestRouteSpec)

/-- 'laws.FnExactRouteArcs', WHERE WHAT IT READS IS OF BULK AT MOST 1048576: true; the input reads as it did. -/
def fnExactRouteArcsUptoRow : OpenClaim := { program := "ythonebcieehnlaa", sum := "2f61cabe14c70b7ffe4274fdb1dd603f0d79a5ba7033c00fc55127f23a962c44", func := "loop.example/g00640/laws.FnExactRouteArcs", spec := "fnExactRouteArcs", unfollowed := true, recurses := true, apart := false, narrowed := true }
def FnExactRouteArcsUptoSaid : Prop := fnExactRouteArcsUptoRow.holds Try.pinned (OpenSpec.upto fnExactRouteArcsSpec)

/-- 'laws.FnExactLinked', WHERE WHAT IT READS IS OF BULK AT MOST 1048576: true; the input reads as it did. -/
def fnExactLinkedUptoRow : OpenClaim := { program := "ythonebcieehnlaa", sum := "2f61cabe14c70b7ffe4274fdb1dd603f0d79a5ba7033c00fc55127f23a962c44", func := "loop.example/g00640/laws.FnExactLinked", spec := "fnExactLinked", apart := false, narrowed := true }
def FnExactLinkedUptoSaid : Prop := fnExactLinkedUptoRow.holds Try.pinned (OpenSpec.upto fnExactLinkedSpec)

end Rows
end Go.Proofs.Ythonebcieehnlaa
