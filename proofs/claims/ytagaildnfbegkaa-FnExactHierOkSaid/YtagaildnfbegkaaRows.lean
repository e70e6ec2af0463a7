/-
  No cell of these rows narrows 'for every input' (looked for: loops, veiled, ifaces, maps, wideKeys, modest, calm, conditions, laid).
  DERIVED. THE GIVEN ROWS OF THIS SEAT. 4 by the template 'for every input the law returns true; each argument reads behind the call as it read before'; 0 by the template 'total and deterministic' (their statements: YtagaildnfbegkaaTotals.lean).
  GIVEN WITH THE SEED: the statements are not yours to turn. If you find one false, say at which input.
  Laid BY PROGRAM, IN A SANDBOX (cutbox-rows.mjs): the forced cells as the released guide's own fill.sh prints them over the translation 5b0d61e553c5e5f0… (all of the seat's roots in one cut). By AI agents, Wed Nov 11 2026. No macro, syntax, notation, axiom, sorry.
-/
import Derived.Test.YtagaildnfbegkaaChecked
import GoSem.Claim
import GoSem.ClaimJoined
import GoSem.ClaimMapViews
import Derived.JoinedTies
import Derived.KernelRfl
namespace Go.Proofs.Ytagaildnfbegkaa
/- THE CELL 'sum', in the pinned program and in every row, IS THE sha256 OF THE DUMP (.gsa) THAT YtagaildnfbegkaaProg.lean LOADS. Nothing in Lean hashes anything: it is a label: what it is worth is what the hold of that sum in a sandbox is worth. -/
noncomputable def Try.pinned : Pinned := { name := "ytagaildnfbegkaa", sum := "5b0d61e553c5e5f0c8a00ebb5b0828b47ab65906976a689ec525000146c07114", checked := Try.checked }
namespace Rows
def none {H : Type} : Left H := { results := [], args := [] }

/-- 'laws.FnTables': WHATEVER THE INPUT: true; the input reads as it did. -/
def fnTablesSpec : ChangeSpec := { name := "fnTables", fn := fun _ => fun
  | [d] => { results := [.lit (.bool true)], args := [d] }
  | _ => none }
def fnTablesRow : OpenClaim := { program := "ytagaildnfbegkaa", sum := "5b0d61e553c5e5f0c8a00ebb5b0828b47ab65906976a689ec525000146c07114", func := "loop.example/g00640/laws.FnTables", spec := "fnTables", unfollowed := true, recurses := true, apart := false }
def FnTablesSaid : Prop := fnTablesRow.holds Try.pinned (OpenSpec.ofChange fnTablesSpec)

/-- ITS FALSE NEIGHBOUR: 'it returns false'. Refute it at one input. -/
def fnTablesWrong : ChangeSpec := { name := "fnTables", fn := fun _ => fun
  | [d] => { results := [.lit (.bool false)], args := [d] }
  | _ => none }
def FnTablesWrongFalsely : Prop := fnTablesRow.holds Try.pinned (OpenSpec.ofChange fnTablesWrong)

/-- 'laws.FnExactHierOk': WHATEVER THE INPUT: true; the input reads as it did. -/
def fnExactHierOkSpec : ChangeSpec := { name := "fnExactHierOk", fn := fun _ => fun
  | [d1, d2] => { results := [.lit (.bool true)], args := [d1, d2] }
  | _ => none }
def fnExactHierOkRow : OpenClaim := { program := "ytagaildnfbegkaa", sum := "5b0d61e553c5e5f0c8a00ebb5b0828b47ab65906976a689ec525000146c07114", func := "loop.example/g00640/laws.FnExactHierOk", spec := "fnExactHierOk", unfollowed := true, recurses := true, apart := false }
def FnExactHierOkSaid : Prop := fnExactHierOkRow.holds Try.pinned (OpenSpec.ofChange fnExactHierOkSpec)

/-- ITS FALSE NEIGHBOUR: 'it returns false'. Refute it at one input. -/
def fnExactHierOkWrong : ChangeSpec := { name := "fnExactHierOk", fn := fun _ => fun
  | [d1, d2] => { results := [.lit (.bool false)], args := [d1, d2] }
  | _ => none }
def FnExactHierOkWrongFalsely : Prop := fnExactHierOkRow.holds Try.pinned (OpenSpec.ofChange fnExactHierOkWrong)

/-- 'laws.FnExactUps': WHATEVER THE INPUT: true; the input reads as it did. -/
def fnExactUpsSpec : ChangeSpec := { name := "fnExactUps", fn := fun _ => fun
  | [d1, d2] => { results := [.lit (.bool true)], args := [d1, d2] }
  | _ => none }
def fnExactUpsRow : OpenClaim := { program := "ytagaildnfbegkaa", sum := "5b0d61e553c5e5f0c8a00ebb5b0828b47ab65906976a689ec525000146c07114", func := "loop.example/g00640/laws.FnExactUps", spec := "fnExactUps", unfollowed := true, recurses := true, apart := false }
def FnExactUpsSaid : Prop := fnExactUpsRow.holds Try.pinned (OpenSpec.ofChange fnExactUpsSpec)

/-- ITS FALSE NEIGHBOUR: 'it returns false'. Refute it at one input. -/
def fnExactUpsWrong : ChangeSpec := { name := "fnExactUps", fn := fun _ => fun
  | [d1, d2] => { results := [.lit (.bool false)], args := [d1, d2] }
  | _ => none }
def FnExactUpsWrongFalsely : Prop := fnExactUpsRow.holds Try.pinned (OpenSpec.ofChange fnExactUpsWrong)

/-- 'laws.FnExactDowns': WHATEVER THE INPUT: true; the input reads as it did. -/
def fnExactDownsSpec : ChangeSpec := { name := "fnExactDowns", fn := fun _ => fun
  | [d1, d2] => { results := [.lit (.bool true)], args := [d1, d2] }
  | _ => none }
def fnExactDownsRow : OpenClaim := { program := "ytagaildnfbegkaa", sum := "5b0d61e553c5e5f0c8a00ebb5b0828b47ab65906976a689ec525000146c07114", func := "loop.example/g00640/laws.FnExactDowns", spec := "fnExactDowns", unfollowed := true, recurses := true, apart := false }
def FnExactDownsSaid : Prop := fnExactDownsRow.holds Try.pinned (OpenSpec.ofChange fnExactDownsSpec)

/-- ITS FALSE NEIGHBOUR: 'it returns false'. Refute it at one input. -/
def fnExactDownsWrong : ChangeSpec := { name := "fnExactDowns", fn := fun _ => fun
  | [d1, d2] => { results := [.lit (.bool false)], args := [d1, d2] }
  | _ => none }
def FnExactDownsWrongFalsely : Prop := fnExactDownsRow.holds Try.pinned (OpenSpec.ofChange fnExactDownsWrong)

/- THE SECOND FORM. 'bulk': how many values and letters a reading holds, each counted each time it is reached (what is shared counts as often as it is met; a slice's spare places count too). A statement '..UptoSaid' is the law's where the arguments, and the package variables that the reading takes, are together of bulk at most 1048576: NARROWER than '..Said'. Prove '..Said' where nothing that the law and all that it calls make is longer than what came in: it says more and counts as full. Else prove '..UptoSaid'. A law counts once. -/
mutual
def uptoBulk {H : Type} : DataW H → Nat
  | .lit (.string bytes) => bytes.length + 1
  | .lit _ => 1
  | .nil => 1
  | .ptr d => uptoBulk d + 1
  | .slice elems spare => uptoBulkAll elems + uptoBulkAll spare + 1
  | .agg parts => uptoBulkAll parts + 1
  | .iface _ d => uptoBulk d + 1
  | .map entries => uptoBulkEntries entries + 1
  | .held _ => 1
def uptoBulkAll {H : Type} : List (DataW H) → Nat
  | [] => 0
  | d :: r => uptoBulk d + uptoBulkAll r
def uptoBulkEntries {H : Type} : List (Lit × DataW H) → Nat
  | [] => 0
  | x :: r => uptoBulkEntry x + uptoBulkEntries r
def uptoBulkEntry {H : Type} : Lit × DataW H → Nat
  | (.string bytes, d) => bytes.length + uptoBulk d + 1
  | (_, d) => uptoBulk d + 1
 end
def uptoSmall : (H : Type) → List (DataW H) → Bool := fun _ ds => decide (uptoBulkAll ds ≤ 1048576)
def OpenSpec.upto (s : _root_.Go.ChangeSpec) : _root_.Go.OpenSpec := { _root_.Go.OpenSpec.ofChange s with cond := some uptoSmall }

/-- 'laws.FnTables', WHERE WHAT IT READS IS OF BULK AT MOST 1048576: true; the input reads as it did. -/
def fnTablesUptoRow : OpenClaim := { program := "ytagaildnfbegkaa", sum := "5b0d61e553c5e5f0c8a00ebb5b0828b47ab65906976a689ec525000146c07114", func := "loop.example/g00640/laws.FnTables", spec := "fnTables", unfollowed := true, recurses := true, apart := false, narrowed := true }
def FnTablesUptoSaid : Prop := fnTablesUptoRow.holds Try.pinned (OpenSpec.upto fnTablesSpec)

/-- 'laws.FnExactHierOk', WHERE WHAT IT READS IS OF BULK AT MOST 1048576: true; the input reads as it did. -/
def fnExactHierOkUptoRow : OpenClaim := { program := "ytagaildnfbegkaa", sum := "5b0d61e553c5e5f0c8a00ebb5b0828b47ab65906976a689ec525000146c07114", func := "loop.example/g00640/laws.FnExactHierOk", spec := "fnExactHierOk", unfollowed := true, recurses := true, apart := false, narrowed := true }
def FnExactHierOkUptoSaid : Prop := fnExactHierOkUptoRow.holds Try.pinned (OpenSpec.upto fnExactHierOkSpec)

/-- 'laws.FnExactUps', WHERE WHAT IT READS IS OF BULK AT MOST 1048576: true; the input reads as it did. -/
def fnExactUpsUptoRow : OpenClaim := { program := "ytagaildnfbegkaa", sum := "5b0d61e553c5e5f0c8a00ebb5b0828b47ab65906976a689ec525000146c07114", func := "loop.example/g00640/laws.FnExactUps", spec := "fnExactUps", unfollowed := true, recurses := true, apart := false, narrowed := true }
def FnExactUpsUptoSaid : Prop := fnExactUpsUptoRow.holds Try.pinned (OpenSpec.upto fnExactUpsSpec)

/-- 'laws.FnExactDowns', WHERE WHAT IT READS IS OF BULK AT MOST 1048576: true; the input reads as it did. -/
def fnExactDownsUptoRow : OpenClaim := { program := "ytagaildnfbegkaa", sum := "5b0d61e553c5e5f0c8a00ebb5b0828b47ab65906976a689ec525000146c07114", func := "loop.example/g00640/laws.FnExactDowns", spec := "fnExactDowns", unfollowed := true, recurses := true, apart := false, narrowed := true }
def FnExactDownsUptoSaid : Prop := fnExactDownsUptoRow.holds Try.pinned (OpenSpec.upto fnExactDownsSpec)

end Rows
end Go.Proofs.Ytagaildnfbegkaa
