/-
  No cell of these rows narrows 'for every input' (looked for: loops, veiled, ifaces, maps, wideKeys, modest, calm, conditions, laid).
  DERIVED. THE GIVEN ROWS OF THIS SEAT. 5 by the template 'for every input the law returns true; each argument reads behind the call as it read before'; 0 by the template 'total and deterministic' (their statements: YtagaildnfbegkabTotals.lean).
  GIVEN WITH THE SEED: the statements are not yours to turn. If you find one false, say at which input.
  Laid BY PROGRAM, IN A SANDBOX (cutbox-rows.mjs): the forced cells as the released guide's own fill.sh prints them over the translation 510b682323c3004e… (all of the seat's roots in one cut). By AI agents, Wed Nov 11 2026. No macro, syntax, notation, axiom, sorry.
-/
import Derived.Test.YtagaildnfbegkabChecked
import GoSem.Claim
import GoSem.ClaimJoined
import GoSem.ClaimMapViews
import Derived.JoinedTies
import Derived.KernelRfl
namespace Go.Proofs.Ytagaildnfbegkab
/- THE CELL 'sum', in the pinned program and in every row, IS THE sha256 OF THE DUMP (.gsa) THAT YtagaildnfbegkabProg.lean LOADS. Nothing in Lean hashes anything: it is a label: what it is worth is what the hold of that sum in a sandbox is worth. -/
noncomputable def Try.pinned : Pinned := { name := "ytagaildnfbegkab", sum := "510b682323c3004ed99e3b0f037c2e6683f348943630f1b7784d03b52b34803c", checked := Try.checked }
namespace Rows
def none {H : Type} : Left H := { results := [], args := [] }

/-- 'laws.FnExactQuery': WHATEVER THE INPUT: true; the input reads as it did. -/
def fnExactQuerySpec : ChangeSpec := { name := "fnExactQuery", fn := fun _ => fun
  | [d1, d2, d3] => { results := [.lit (.bool true)], args := [d1, d2, d3] }
  | _ => none }
def fnExactQueryRow : OpenClaim := { program := "ytagaildnfbegkab", sum := "510b682323c3004ed99e3b0f037c2e6683f348943630f1b7784d03b52b34803c", func := "loop.example/g00640/laws.FnExactQuery", spec := "fnExactQuery", unfollowed := true, recurses := true, plainKeys := false, apart := false }
def FnExactQuerySaid : Prop := fnExactQueryRow.holds Try.pinned (OpenSpec.ofChange fnExactQuerySpec)

/-- ITS FALSE NEIGHBOUR: 'it returns false'. Refute it at one input. -/
def fnExactQueryWrong : ChangeSpec := { name := "fnExactQuery", fn := fun _ => fun
  | [d1, d2, d3] => { results := [.lit (.bool false)], args := [d1, d2, d3] }
  | _ => none }
def FnExactQueryWrongFalsely : Prop := fnExactQueryRow.holds Try.pinned (OpenSpec.ofChange fnExactQueryWrong)

/-- 'laws.FnExactUnpackArc': WHATEVER THE INPUT: true; the input reads as it did. -/
def fnExactUnpackArcSpec : ChangeSpec := { name := "fnExactUnpackArc", fn := fun _ => fun
  | [d1, d2, d3] => { results := [.lit (.bool true)], args := [d1, d2, d3] }
  | _ => none }
def fnExactUnpackArcRow : OpenClaim := { program := "ytagaildnfbegkab", sum := "510b682323c3004ed99e3b0f037c2e6683f348943630f1b7784d03b52b34803c", func := "loop.example/g00640/laws.FnExactUnpackArc", spec := "fnExactUnpackArc", recurses := true, plainKeys := false, apart := false }
def FnExactUnpackArcSaid : Prop := fnExactUnpackArcRow.holds Try.pinned (OpenSpec.ofChange fnExactUnpackArcSpec)

/-- ITS FALSE NEIGHBOUR: 'it returns false'. Refute it at one input. -/
def fnExactUnpackArcWrong : ChangeSpec := { name := "fnExactUnpackArc", fn := fun _ => fun
  | [d1, d2, d3] => { results := [.lit (.bool false)], args := [d1, d2, d3] }
  | _ => none }
def FnExactUnpackArcWrongFalsely : Prop := fnExactUnpackArcRow.holds Try.pinned (OpenSpec.ofChange fnExactUnpackArcWrong)

/-- 'laws.FnExactHierRoute': WHATEVER THE INPUT: true; the input reads as it did. -/
def fnExactHierRouteSpec : ChangeSpec := { name := "fnExactHierRoute", fn := fun _ => fun
  | [d1, d2, d3] => { results := [.lit (.bool true)], args := [d1, d2, d3] }
  | _ => none }
def fnExactHierRouteRow : OpenClaim := { program := "ytagaildnfbegkab", sum := "510b682323c3004ed99e3b0f037c2e6683f348943630f1b7784d03b52b34803c", func := "loop.example/g00640/laws.FnExactHierRoute", spec := "fnExactHierRoute", unfollowed := true, recurses := true, plainKeys := false, apart := false }
def FnExactHierRouteSaid : Prop := fnExactHierRouteRow.holds Try.pinned (OpenSpec.ofChange fnExactHierRouteSpec)

/-- ITS FALSE NEIGHBOUR: 'it returns false'. Refute it at one input. -/
def fnExactHierRouteWrong : ChangeSpec := { name := "fnExactHierRoute", fn := fun _ => fun
  | [d1, d2, d3] => { results := [.lit (.bool false)], args := [d1, d2, d3] }
  | _ => none }
def FnExactHierRouteWrongFalsely : Prop := fnExactHierRouteRow.holds Try.pinned (OpenSpec.ofChange fnExactHierRouteWrong)

/-- 'laws.FnExactBuckets': WHATEVER THE INPUT: true; the input reads as it did. -/
def fnExactBucketsSpec : ChangeSpec := { name := "fnExactBuckets", fn := fun _ => fun
  | [d1, d2] => { results := [.lit (.bool true)], args := [d1, d2] }
  | _ => none }
def fnExactBucketsRow : OpenClaim := { program := "ytagaildnfbegkab", sum := "510b682323c3004ed99e3b0f037c2e6683f348943630f1b7784d03b52b34803c", func := "loop.example/g00640/laws.FnExactBuckets", spec := "fnExactBuckets", unfollowed := true, recurses := true, plainKeys := false, apart := false }
def FnExactBucketsSaid : Prop := fnExactBucketsRow.holds Try.pinned (OpenSpec.ofChange fnExactBucketsSpec)

/-- ITS FALSE NEIGHBOUR: 'it returns false'. Refute it at one input. -/
def fnExactBucketsWrong : ChangeSpec := { name := "fnExactBuckets", fn := fun _ => fun
  | [d1, d2] => { results := [.lit (.bool false)], args := [d1, d2] }
  | _ => none }
def FnExactBucketsWrongFalsely : Prop := fnExactBucketsRow.holds Try.pinned (OpenSpec.ofChange fnExactBucketsWrong)

/-- 'laws.FnExactTable': WHATEVER THE INPUT: true; the input reads as it did. -/
def fnExactTableSpec : ChangeSpec := { name := "fnExactTable", fn := fun _ => fun
  | [d1, d2, d3] => { results := [.lit (.bool true)], args := [d1, d2, d3] }
  | _ => none }
def fnExactTableRow : OpenClaim := { program := "ytagaildnfbegkab", sum := "510b682323c3004ed99e3b0f037c2e6683f348943630f1b7784d03b52b34803c", func := "loop.example/g00640/laws.FnExactTable", spec := "fnExactTable", unfollowed := true, recurses := true, plainKeys := false, apart := false }
def FnExactTableSaid : Prop := fnExactTableRow.holds Try.pinned (OpenSpec.ofChange fnExactTableSpec)

/-- ITS FALSE NEIGHBOUR: 'it returns false'. Refute it at one input. -/
def fnExactTableWrong : ChangeSpec := { name := "fnExactTable", fn := fun _ => fun
  | [d1, d2, d3] => { results := [.lit (.bool false)], args := [d1, d2, d3] }
  | _ => none }
def FnExactTableWrongFalsely : Prop := fnExactTableRow.holds Try.pinned (OpenSpec.ofChange fnExactTableWrong)

/- THE SECOND FORM. 'bulk': how many values and letters a reading holds, each counted each time it is reached (what is shared counts as often as it is met; a slice's spare places count too). A statement '..UptoSaid' is the law's where the arguments, and the package variables that the reading takes, are together of bulk at most 1048576: NARROWER than '..Said'. Prove '..Said' where nothing that the law and all that it calls make is longer than what came in: it says more and counts as full. Else prove '..UptoSaid'. A law counts once. -/
mutual
def uptoBulk {H : Type} : DataW H → Nat
  | .lit (.string bytes) => bytes.length + 1
  | .lit _ => 1
  | .nil => 1
  | .ptr d => uptoBulk d + 1
  | .slice elems spare => uptoBulkAll elems + uptoBulkAll spare + 1
  | .agg parts => uptoBulkAll parts + 1
  | .iface _ d => uptoBulk d + 1
  | .map entries => uptoBulkEntries entries + 1
  | .held _ => 1
def uptoBulkAll {H : Type} : List (DataW H) → Nat
  | [] => 0
  | d :: r => uptoBulk d + uptoBulkAll r
def uptoBulkEntries {H : Type} : List (Lit × DataW H) → Nat
  | [] => 0
  | x :: r => uptoBulkEntry x + uptoBulkEntries r
def uptoBulkEntry {H : Type} : Lit × DataW H → Nat
  | (.string bytes, d) => bytes.length + uptoBulk d + 1
  | (_, d) => uptoBulk d + 1
 end
def uptoSmall : (H : Type) → List (DataW H) → Bool := fun _ ds => decide (uptoBulkAll ds ≤ 1048576)
def OpenSpec.upto (s : _root_.Go.ChangeSpec) : _root_.Go.OpenSpec := { _root_.Go.OpenSpec.ofChange s with cond := some uptoSmall }

/-- 'laws.FnExactQuery', WHERE WHAT IT READS IS OF BULK AT MOST 1048576: true; the input reads as it did. -/
def fnExactQueryUptoRow : OpenClaim := { program := "ytagaildnfbegkab", sum := "510b682323c3004ed99e3b0f037c2e6683f348943630f1b7784d03b52b34803c", func := "loop.example/g00640/laws.FnExactQuery", spec := "fnExactQuery", unfollowed := true, recurses := true, plainKeys := false, apart := false, narrowed := true }
def FnExactQueryUptoSaid : Prop := fnExactQueryUptoRow.holds Try.pinned (OpenSpec.upto fnExactQuerySpec)

/-- 'laws.FnExactUnpackArc', WHERE WHAT IT READS IS OF BULK AT MOST 1048576: true; the input reads as it did. -/
def fnExactUnpackArcUptoRow : OpenClaim := { program := "ytagaildnfbegkab", sum := "510b682323c3004ed99e3b0f037c2e6683f348943630f1b7784d03b52b34803c", func := "loop.example/g00640/laws.FnExactUnpackArc", spec := "fnExactUnpackArc", recurses := true, plainKeys := false, apart := false, narrowed := true }
def FnExactUnpackArcUptoSaid : Prop := fnExactUnpackArcUptoRow.holds Try.pinned (OpenSpec.upto fnExactUnpackArcSpec)

/-- 'laws.FnExactHierRoute', WHERE WHAT IT READS IS OF BULK AT MOST 1048576: true; the input reads as it did. -/
def fnExactHierRouteUptoRow : OpenClaim := { program := "ytagaildnfbegkab", sum := "510b682323c3004ed99e3b0f037c2e6683f348943630f1b7784d03b52b34803c", func := "loop.example/g00640/laws.FnExactHierRoute", spec := "fnExactHierRoute", unfollowed := true, recurses := true, plainKeys := false, apart := false, narrowed := true }
def FnExactHierRouteUptoSaid : Prop := fnExactHierRouteUptoRow.holds Try.pinned (OpenSpec.upto fnExactHierRouteSpec)

/-- 'laws.FnExactBuckets', WHERE WHAT IT READS IS OF BULK AT MOST 1048576: true; the input reads as it did. -/
def fnExactBucketsUptoRow : OpenClaim := { program := "ytagaildnfbegkab", sum := "510b682323c3004ed99e3b0f037c2e6683f348943630f1b7784d03b52b34803c", func := "loop.example/g00640/laws.FnExactBuckets", spec := "fnExactBuckets", unfollowed := true, recurses := true, plainKeys := false, apart := false, narrowed := true }
def FnExactBucketsUptoSaid : Prop := fnExactBucketsUptoRow.holds Try.pinned (OpenSpec.upto fnExactBucketsSpec)

/-- 'laws.FnExactTable', WHERE WHAT IT READS IS OF BULK AT MOST 1048576: true; the input reads as it did. -/
def fnExactTableUptoRow : OpenClaim := { program := "ytagaildnfbegkab", sum := "510b682323c3004ed99e3b0f037c2e6683f348943630f1b7784d03b52b34803c", func := "loop.example/g00640/laws.FnExactTable", spec := "fnExactTable", unfollowed := true, recurses := true, plainKeys := false, apart := false, narrowed := true }
def FnExactTableUptoSaid : Prop := fnExactTableUptoRow.holds Try.pinned (OpenSpec.upto fnExactTableSpec)

end Rows
end Go.Proofs.Ytagaildnfbegkab
