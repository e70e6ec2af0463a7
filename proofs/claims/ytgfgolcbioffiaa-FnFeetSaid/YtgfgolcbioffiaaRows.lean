/-
  No cell of these rows narrows 'for every input' (looked for: loops, veiled, ifaces, maps, wideKeys, modest, calm, conditions, laid).
  DERIVED. THE GIVEN ROWS OF THIS SEAT. 7 by the template 'for every input the law returns true; each argument reads behind the call as it read before'; 0 by the template 'total and deterministic' (their statements: YtgfgolcbioffiaaTotals.lean).
  GIVEN WITH THE SEED: the statements are not yours to turn. If you find one false, say at which input.
  Laid BY PROGRAM, IN A SANDBOX (cutbox-rows.mjs): the forced cells as the released guide's own fill.sh prints them over the translation 83177859acb545d2… (all of the seat's roots in one cut). By AI agents, Wed Nov 11 2026. No macro, syntax, notation, axiom, sorry.
-/
import Derived.Test.YtgfgolcbioffiaaChecked
import GoSem.Claim
import GoSem.ClaimJoined
import GoSem.ClaimMapViews
import Derived.JoinedTies
import Derived.KernelRfl
namespace Go.Proofs.Ytgfgolcbioffiaa
/- THE CELL 'sum', in the pinned program and in every row, IS THE sha256 OF THE DUMP (.gsa) THAT YtgfgolcbioffiaaProg.lean LOADS. Nothing in Lean hashes anything: it is a label: what it is worth is what the hold of that sum in a sandbox is worth. -/
noncomputable def Try.pinned : Pinned := { name := "ytgfgolcbioffiaa", sum := "83177859acb545d2efaee5436d365f92cfb34e7b632c7f465691376db9e267dd", checked := Try.checked }
namespace Rows
def none {H : Type} : Left H := { results := [], args := [] }

/-- 'laws.FnFeet': WHATEVER THE INPUT: true; the input reads as it did. -/
def fnFeetSpec : ChangeSpec := { name := "fnFeet", fn := fun _ => fun
  | [d] => { results := [.lit (.bool true)], args := [d] }
  | _ => none }
def fnFeetRow : OpenClaim := { program := "ytgfgolcbioffiaa", sum := "83177859acb545d2efaee5436d365f92cfb34e7b632c7f465691376db9e267dd", func := "loop.example/g00640/laws.FnFeet", spec := "fnFeet", apart := false }
def FnFeetSaid : Prop := fnFeetRow.holds Try.pinned (OpenSpec.ofChange fnFeetSpec)

/-- ITS FALSE NEIGHBOUR: 'it returns false'. Refute it at one input. -/
def fnFeetWrong : ChangeSpec := { name := "fnFeet", fn := fun _ => fun
  | [d] => { results := [.lit (.bool false)], args := [d] }
  | _ => none }
def FnFeetWrongFalsely : Prop := fnFeetRow.holds Try.pinned (OpenSpec.ofChange fnFeetWrong)

/-- 'laws.FnFar': WHATEVER THE INPUT: true; the input reads as it did. -/
def fnFarSpec : ChangeSpec := { name := "fnFar", fn := fun _ => fun
  | [d1, d2] => { results := [.lit (.bool true)], args := [d1, d2] }
  | _ => none }
def fnFarRow : OpenClaim := { program := "ytgfgolcbioffiaa", sum := "83177859acb545d2efaee5436d365f92cfb34e7b632c7f465691376db9e267dd", func := "loop.example/g00640/laws.FnFar", spec := "fnFar", apart := false }
def FnFarSaid : Prop := fnFarRow.holds Try.pinned (OpenSpec.ofChange fnFarSpec)

/-- ITS FALSE NEIGHBOUR: 'it returns false'. Refute it at one input. -/
def fnFarWrong : ChangeSpec := { name := "fnFar", fn := fun _ => fun
  | [d1, d2] => { results := [.lit (.bool false)], args := [d1, d2] }
  | _ => none }
def FnFarWrongFalsely : Prop := fnFarRow.holds Try.pinned (OpenSpec.ofChange fnFarWrong)

/-- 'laws.FnExactPtOk': WHATEVER THE INPUT: true; the input reads as it did. -/
def fnExactPtOkSpec : ChangeSpec := { name := "fnExactPtOk", fn := fun _ => fun
  | [d] => { results := [.lit (.bool true)], args := [d] }
  | _ => none }
def fnExactPtOkRow : OpenClaim := { program := "ytgfgolcbioffiaa", sum := "83177859acb545d2efaee5436d365f92cfb34e7b632c7f465691376db9e267dd", func := "loop.example/g00640/laws.FnExactPtOk", spec := "fnExactPtOk", apart := false }
def FnExactPtOkSaid : Prop := fnExactPtOkRow.holds Try.pinned (OpenSpec.ofChange fnExactPtOkSpec)

/-- ITS FALSE NEIGHBOUR: 'it returns false'. Refute it at one input. -/
def fnExactPtOkWrong : ChangeSpec := { name := "fnExactPtOk", fn := fun _ => fun
  | [d] => { results := [.lit (.bool false)], args := [d] }
  | _ => none }
def FnExactPtOkWrongFalsely : Prop := fnExactPtOkRow.holds Try.pinned (OpenSpec.ofChange fnExactPtOkWrong)

/-- 'laws.FnExactDist2': WHATEVER THE INPUT: true; the input reads as it did. -/
def fnExactDist2Spec : ChangeSpec := { name := "fnExactDist2", fn := fun _ => fun
  | [d1, d2] => { results := [.lit (.bool true)], args := [d1, d2] }
  | _ => none }
def fnExactDist2Row : OpenClaim := { program := "ytgfgolcbioffiaa", sum := "83177859acb545d2efaee5436d365f92cfb34e7b632c7f465691376db9e267dd", func := "loop.example/g00640/laws.FnExactDist2", spec := "fnExactDist2", apart := false }
def FnExactDist2Said : Prop := fnExactDist2Row.holds Try.pinned (OpenSpec.ofChange fnExactDist2Spec)

/-- ITS FALSE NEIGHBOUR: 'it returns false'. Refute it at one input. -/
def fnExactDist2Wrong : ChangeSpec := { name := "fnExactDist2", fn := fun _ => fun
  | [d1, d2] => { results := [.lit (.bool false)], args := [d1, d2] }
  | _ => none }
def FnExactDist2WrongFalsely : Prop := fnExactDist2Row.holds Try.pinned (OpenSpec.ofChange fnExactDist2Wrong)

/-- 'laws.FnExactDistOf': WHATEVER THE INPUT: true; the input reads as it did. -/
def fnExactDistOfSpec : ChangeSpec := { name := "fnExactDistOf", fn := fun _ => fun
  | [d1, d2] => { results := [.lit (.bool true)], args := [d1, d2] }
  | _ => none }
def fnExactDistOfRow : OpenClaim := { program := "ytgfgolcbioffiaa", sum := "83177859acb545d2efaee5436d365f92cfb34e7b632c7f465691376db9e267dd", func := "loop.example/g00640/laws.FnExactDistOf", spec := "fnExactDistOf", apart := false }
def FnExactDistOfSaid : Prop := fnExactDistOfRow.holds Try.pinned (OpenSpec.ofChange fnExactDistOfSpec)

/-- ITS FALSE NEIGHBOUR: 'it returns false'. Refute it at one input. -/
def fnExactDistOfWrong : ChangeSpec := { name := "fnExactDistOf", fn := fun _ => fun
  | [d1, d2] => { results := [.lit (.bool false)], args := [d1, d2] }
  | _ => none }
def FnExactDistOfWrongFalsely : Prop := fnExactDistOfRow.holds Try.pinned (OpenSpec.ofChange fnExactDistOfWrong)

/-- 'laws.FnExactFoot': WHATEVER THE INPUT: true; the input reads as it did. -/
def fnExactFootSpec : ChangeSpec := { name := "fnExactFoot", fn := fun _ => fun
  | [d1, d2, d3] => { results := [.lit (.bool true)], args := [d1, d2, d3] }
  | _ => none }
def fnExactFootRow : OpenClaim := { program := "ytgfgolcbioffiaa", sum := "83177859acb545d2efaee5436d365f92cfb34e7b632c7f465691376db9e267dd", func := "loop.example/g00640/laws.FnExactFoot", spec := "fnExactFoot", apart := false }
def FnExactFootSaid : Prop := fnExactFootRow.holds Try.pinned (OpenSpec.ofChange fnExactFootSpec)

/-- ITS FALSE NEIGHBOUR: 'it returns false'. Refute it at one input. -/
def fnExactFootWrong : ChangeSpec := { name := "fnExactFoot", fn := fun _ => fun
  | [d1, d2, d3] => { results := [.lit (.bool false)], args := [d1, d2, d3] }
  | _ => none }
def FnExactFootWrongFalsely : Prop := fnExactFootRow.holds Try.pinned (OpenSpec.ofChange fnExactFootWrong)

/-- 'laws.FnExactAlong': WHATEVER THE INPUT: true; the input reads as it did. -/
def fnExactAlongSpec : ChangeSpec := { name := "fnExactAlong", fn := fun _ => fun
  | [d1, d2, d3, d4] => { results := [.lit (.bool true)], args := [d1, d2, d3, d4] }
  | _ => none }
def fnExactAlongRow : OpenClaim := { program := "ytgfgolcbioffiaa", sum := "83177859acb545d2efaee5436d365f92cfb34e7b632c7f465691376db9e267dd", func := "loop.example/g00640/laws.FnExactAlong", spec := "fnExactAlong", apart := false }
def FnExactAlongSaid : Prop := fnExactAlongRow.holds Try.pinned (OpenSpec.ofChange fnExactAlongSpec)

/-- ITS FALSE NEIGHBOUR: 'it returns false'. Refute it at one input. -/
def fnExactAlongWrong : ChangeSpec := { name := "fnExactAlong", fn := fun _ => fun
  | [d1, d2, d3, d4] => { results := [.lit (.bool false)], args := [d1, d2, d3, d4] }
  | _ => none }
def FnExactAlongWrongFalsely : Prop := fnExactAlongRow.holds Try.pinned (OpenSpec.ofChange fnExactAlongWrong)

/- THE SECOND FORM. 'bulk': how many values and letters a reading holds, each counted each time it is reached (what is shared counts as often as it is met; a slice's spare places count too). A statement '..UptoSaid' is the law's where the arguments, and the package variables that the reading takes, are together of bulk at most 1048576: NARROWER than '..Said'. Prove '..Said' where nothing that the law and all that it calls make is longer than what came in: it says more and counts as full. Else prove '..UptoSaid'. A law counts once. -/
mutual
def uptoBulk {H : Type} : DataW H → Nat
  | .lit (.string bytes) => bytes.length + 1
  | .lit _ => 1
  | .nil => 1
  | .ptr d => uptoBulk d + 1
  | .slice elems spare => uptoBulkAll elems + uptoBulkAll spare + 1
  | .agg parts => uptoBulkAll parts + 1
  | .iface _ d => uptoBulk d + 1
  | .map entries => uptoBulkEntries entries + 1
  | .held _ => 1
def uptoBulkAll {H : Type} : List (DataW H) → Nat
  | [] => 0
  | d :: r => uptoBulk d + uptoBulkAll r
def uptoBulkEntries {H : Type} : List (Lit × DataW H) → Nat
  | [] => 0
  | x :: r => uptoBulkEntry x + uptoBulkEntries r
def uptoBulkEntry {H : Type} : Lit × DataW H → Nat
  | (.string bytes, d) => bytes.length + uptoBulk d + 1
  | (_, d) => uptoBulk d + 1
 end
def uptoSmall : (H : Type) → List (DataW H) → Bool := fun _ ds => decide (uptoBulkAll ds ≤ 1048576)
def OpenSpec.upto (s : _root_.Go.ChangeSpec) : _root_.Go.OpenSpec := { _root_.Go.OpenSpec.ofChange s with cond := some uptoSmall }

/-- 'laws.FnFeet', WHERE WHAT IT READS IS OF BULK AT MOST 1048576: true; the input reads as it did. -/
def fnFeetUptoRow : OpenClaim := { program := "ytgfgolcbioffiaa", sum := "83177859acb545d2efaee5436d365f92cfb34e7b632c7f465691376db9e267dd", func := "loop.example/g00640/laws.FnFeet", spec := "fnFeet", apart := false, narrowed := true }
def FnFeetUptoSaid : Prop := fnFeetUptoRow.holds Try.pinned (OpenSpec.upto fnFeetSpec)

/-- 'laws.FnFar', WHERE WHAT IT READS IS OF BULK AT MOST 1048576: true; the input reads as it did. -/
def fnFarUptoRow : OpenClaim := { program := "ytgfgolcbioffiaa", sum := "83177859acb545d2efaee5436d365f92cfb34e7b632c7f465691376db9e267dd", func := "loop.example/g00640/laws.FnFar", spec := "fnFar", apart := false, narrowed := true }
def FnFarUptoSaid : Prop := fnFarUptoRow.holds Try.pinned (OpenSpec.upto fnFarSpec)

/-- 'laws.FnExactPtOk', WHERE WHAT IT READS IS OF BULK AT MOST 1048576: true; the input reads as it did. -/
def fnExactPtOkUptoRow : OpenClaim := { program := "ytgfgolcbioffiaa", sum := "83177859acb545d2efaee5436d365f92cfb34e7b632c7f465691376db9e267dd", func := "loop.example/g00640/laws.FnExactPtOk", spec := "fnExactPtOk", apart := false, narrowed := true }
def FnExactPtOkUptoSaid : Prop := fnExactPtOkUptoRow.holds Try.pinned (OpenSpec.upto fnExactPtOkSpec)

/-- 'laws.FnExactDist2', WHERE WHAT IT READS IS OF BULK AT MOST 1048576: true; the input reads as it did. -/
def fnExactDist2UptoRow : OpenClaim := { program := "ytgfgolcbioffiaa", sum := "83177859acb545d2efaee5436d365f92cfb34e7b632c7f465691376db9e267dd", func := "loop.example/g00640/laws.FnExactDist2", spec := "fnExactDist2", apart := false, narrowed := true }
def FnExactDist2UptoSaid : Prop := fnExactDist2UptoRow.holds Try.pinned (OpenSpec.upto fnExactDist2Spec)

/-- 'laws.FnExactDistOf', WHERE WHAT IT READS IS OF BULK AT MOST 1048576: true; the input reads as it did. -/
def fnExactDistOfUptoRow : OpenClaim := { program := "ytgfgolcbioffiaa", sum := "83177859acb545d2efaee5436d365f92cfb34e7b632c7f465691376db9e267dd", func := "loop.example/g00640/laws.FnExactDistOf", spec := "fnExactDistOf", apart := false, narrowed := true }
def FnExactDistOfUptoSaid : Prop := fnExactDistOfUptoRow.holds Try.pinned (OpenSpec.upto fnExactDistOfSpec)

/-- 'laws.FnExactFoot', WHERE WHAT IT READS IS OF BULK AT MOST 1048576: true; the input reads as it did. -/
def fnExactFootUptoRow : OpenClaim := { program := "ytgfgolcbioffiaa", sum := "83177859acb545d2efaee5436d365f92cfb34e7b632c7f465691376db9e267dd", func := "loop.example/g00640/laws.FnExactFoot", spec := "fnExactFoot", apart := false, narrowed := true }
def FnExactFootUptoSaid : Prop := fnExactFootUptoRow.holds Try.pinned (OpenSpec.upto fnExactFootSpec)

/-- 'laws.FnExactAlong', WHERE WHAT IT READS IS OF BULK AT MOST 1048576: true; the input reads as it did. -/
def fnExactAlongUptoRow : OpenClaim := { program := "ytgfgolcbioffiaa", sum := "83177859acb545d2efaee5436d365f92cfb34e7b632c7f465691376db9e267dd", func := "loop.example/g00640/laws.FnExactAlong", spec := "fnExactAlong", apart := false, narrowed := true }
def FnExactAlongUptoSaid : Prop := fnExactAlongUptoRow.holds Try.pinned (OpenSpec.upto fnExactAlongSpec)

end Rows
end Go.Proofs.Ytgfgolcbioffiaa
