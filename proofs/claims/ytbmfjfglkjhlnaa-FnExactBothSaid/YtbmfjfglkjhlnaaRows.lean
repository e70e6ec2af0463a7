/-
  No cell of these rows narrows 'for every input' (looked for: loops, veiled, ifaces, maps, wideKeys, modest, calm, conditions, laid).
  DERIVED. THE GIVEN ROWS OF THIS SEAT. 10 by the template 'for every input the law returns true; each argument reads behind the call as it read before'; 0 by the template 'total and deterministic' (their statements: YtbmfjfglkjhlnaaTotals.lean).
  GIVEN WITH THE SEED: the statements are not yours to turn. If you find one false, say at which input.
  Laid BY PROGRAM, IN A SANDBOX (cutbox-rows.mjs): the forced cells as the released guide's own fill.sh prints them over the translation 30e77f1861080d6b… (all of the seat's roots in one cut). By AI agents, Wed Nov 11 2026. No macro, syntax, notation, axiom, sorry.
-/
import Derived.Test.YtbmfjfglkjhlnaaChecked
import GoSem.Claim
import GoSem.ClaimJoined
import GoSem.ClaimMapViews
import Derived.JoinedTies
import Derived.KernelRfl
namespace Go.Proofs.Ytbmfjfglkjhlnaa
/- THE CELL 'sum', in the pinned program and in every row, IS THE sha256 OF THE DUMP (.gsa) THAT YtbmfjfglkjhlnaaProg.lean LOADS. Nothing in Lean hashes anything: it is a label: what it is worth is what the hold of that sum in a sandbox is worth. -/
noncomputable def Try.pinned : Pinned := { name := "ytbmfjfglkjhlnaa", sum := "30e77f1861080d6b07d0e6ea4c7d596ab616000ebf8ec4e57716121a1f22e618", checked := Try.checked }
namespace Rows
def none {H : Type} : Left H := { results := [], args := [] }

/-- 'laws.FnExactSearch': WHATEVER THE INPUT: true; the input reads as it did. -/
def fnExactSearchSpec : ChangeSpec := { name := "fnExactSearch", fn := fun _ => fun
  | [d1, d2, d3] => { results := [.lit (.bool true)], args := [d1, d2, d3] }
  | _ => none }
def fnExactSearchRow : OpenClaim := { program := "ytbmfjfglkjhlnaa", sum := "30e77f1861080d6b07d0e6ea4c7d596ab616000ebf8ec4e57716121a1f22e618", func := "loop.example/g00640/laws.FnExactSearch", spec := "fnExactSearch", unfollowed := true, recurses := true, apart := false }
def FnExactSearchSaid : Prop := fnExactSearchRow.holds Try.pinned (OpenSpec.ofChange fnExactSearchSpec)

/-- ITS FALSE NEIGHBOUR: 'it returns false'. Refute it at one input. -/
def fnExactSearchWrong : ChangeSpec := { name := "fnExactSearch", fn := fun _ => fun
  | [d1, d2, d3] => { results := [.lit (.bool false)], args := [d1, d2, d3] }
  | _ => none }
def FnExactSearchWrongFalsely : Prop := fnExactSearchRow.holds Try.pinned (OpenSpec.ofChange fnExactSearchWrong)

/-- 'laws.FnExactBoth': WHATEVER THE INPUT: true; the input reads as it did. -/
def fnExactBothSpec : ChangeSpec := { name := "fnExactBoth", fn := fun _ => fun
  | [d1, d2, d3] => { results := [.lit (.bool true)], args := [d1, d2, d3] }
  | _ => none }
def fnExactBothRow : OpenClaim := { program := "ytbmfjfglkjhlnaa", sum := "30e77f1861080d6b07d0e6ea4c7d596ab616000ebf8ec4e57716121a1f22e618", func := "loop.example/g00640/laws.FnExactBoth", spec := "fnExactBoth", unfollowed := true, recurses := true, apart := false }
def FnExactBothSaid : Prop := fnExactBothRow.holds Try.pinned (OpenSpec.ofChange fnExactBothSpec)

/-- ITS FALSE NEIGHBOUR: 'it returns false'. Refute it at one input. -/
def fnExactBothWrong : ChangeSpec := { name := "fnExactBoth", fn := fun _ => fun
  | [d1, d2, d3] => { results := [.lit (.bool false)], args := [d1, d2, d3] }
  | _ => none }
def FnExactBothWrongFalsely : Prop := fnExactBothRow.holds Try.pinned (OpenSpec.ofChange fnExactBothWrong)

/-- 'laws.FnSearched': WHATEVER THE INPUT: true; the input reads as it did. -/
def fnSearchedSpec : ChangeSpec := { name := "fnSearched", fn := fun _ => fun
  | [d] => { results := [.lit (.bool true)], args := [d] }
  | _ => none }
def fnSearchedRow : OpenClaim := { program := "ytbmfjfglkjhlnaa", sum := "30e77f1861080d6b07d0e6ea4c7d596ab616000ebf8ec4e57716121a1f22e618", func := "loop.example/g00640/laws.FnSearched", spec := "fnSearched", unfollowed := true, recurses := true, apart := false }
def FnSearchedSaid : Prop := fnSearchedRow.holds Try.pinned (OpenSpec.ofChange fnSearchedSpec)

/-- ITS FALSE NEIGHBOUR: 'it returns false'. Refute it at one input. -/
def fnSearchedWrong : ChangeSpec := { name := "fnSearched", fn := fun _ => fun
  | [d] => { results := [.lit (.bool false)], args := [d] }
  | _ => none }
def FnSearchedWrongFalsely : Prop := fnSearchedRow.holds Try.pinned (OpenSpec.ofChange fnSearchedWrong)

/-- 'laws.FnExactGuided': WHATEVER THE INPUT: true; the input reads as it did. -/
def fnExactGuidedSpec : ChangeSpec := { name := "fnExactGuided", fn := fun _ => fun
  | [d1, d2, d3, d4] => { results := [.lit (.bool true)], args := [d1, d2, d3, d4] }
  | _ => none }
def fnExactGuidedRow : OpenClaim := { program := "ytbmfjfglkjhlnaa", sum := "30e77f1861080d6b07d0e6ea4c7d596ab616000ebf8ec4e57716121a1f22e618", func := "loop.example/g00640/laws.FnExactGuided", spec := "fnExactGuided", unfollowed := true, recurses := true, apart := false }
def FnExactGuidedSaid : Prop := fnExactGuidedRow.holds Try.pinned (OpenSpec.ofChange fnExactGuidedSpec)

/-- ITS FALSE NEIGHBOUR: 'it returns false'. Refute it at one input. -/
def fnExactGuidedWrong : ChangeSpec := { name := "fnExactGuided", fn := fun _ => fun
  | [d1, d2, d3, d4] => { results := [.lit (.bool false)], args := [d1, d2, d3, d4] }
  | _ => none }
def FnExactGuidedWrongFalsely : Prop := fnExactGuidedRow.holds Try.pinned (OpenSpec.ofChange fnExactGuidedWrong)

/-- 'laws.FnExactMarkPot': WHATEVER THE INPUT: true; the input reads as it did. -/
def fnExactMarkPotSpec : ChangeSpec := { name := "fnExactMarkPot", fn := fun _ => fun
  | [d1, d2, d3] => { results := [.lit (.bool true)], args := [d1, d2, d3] }
  | _ => none }
def fnExactMarkPotRow : OpenClaim := { program := "ytbmfjfglkjhlnaa", sum := "30e77f1861080d6b07d0e6ea4c7d596ab616000ebf8ec4e57716121a1f22e618", func := "loop.example/g00640/laws.FnExactMarkPot", spec := "fnExactMarkPot", unfollowed := true, recurses := true, apart := false }
def FnExactMarkPotSaid : Prop := fnExactMarkPotRow.holds Try.pinned (OpenSpec.ofChange fnExactMarkPotSpec)

/-- ITS FALSE NEIGHBOUR: 'it returns false'. Refute it at one input. -/
def fnExactMarkPotWrong : ChangeSpec := { name := "fnExactMarkPot", fn := fun _ => fun
  | [d1, d2, d3] => { results := [.lit (.bool false)], args := [d1, d2, d3] }
  | _ => none }
def FnExactMarkPotWrongFalsely : Prop := fnExactMarkPotRow.holds Try.pinned (OpenSpec.ofChange fnExactMarkPotWrong)

/-- 'laws.FnExactFarMarks': WHATEVER THE INPUT: true; the input reads as it did. -/
def fnExactFarMarksSpec : ChangeSpec := { name := "fnExactFarMarks", fn := fun _ => fun
  | [d1, d2] => { results := [.lit (.bool true)], args := [d1, d2] }
  | _ => none }
def fnExactFarMarksRow : OpenClaim := { program := "ytbmfjfglkjhlnaa", sum := "30e77f1861080d6b07d0e6ea4c7d596ab616000ebf8ec4e57716121a1f22e618", func := "loop.example/g00640/laws.FnExactFarMarks", spec := "fnExactFarMarks", apart := false }
def FnExactFarMarksSaid : Prop := fnExactFarMarksRow.holds Try.pinned (OpenSpec.ofChange fnExactFarMarksSpec)

/-- ITS FALSE NEIGHBOUR: 'it returns false'. Refute it at one input. -/
def fnExactFarMarksWrong : ChangeSpec := { name := "fnExactFarMarks", fn := fun _ => fun
  | [d1, d2] => { results := [.lit (.bool false)], args := [d1, d2] }
  | _ => none }
def FnExactFarMarksWrongFalsely : Prop := fnExactFarMarksRow.holds Try.pinned (OpenSpec.ofChange fnExactFarMarksWrong)

/-- 'laws.FnMarks': WHATEVER THE INPUT: true; the input reads as it did. -/
def fnMarksSpec : ChangeSpec := { name := "fnMarks", fn := fun _ => fun
  | [d] => { results := [.lit (.bool true)], args := [d] }
  | _ => none }
def fnMarksRow : OpenClaim := { program := "ytbmfjfglkjhlnaa", sum := "30e77f1861080d6b07d0e6ea4c7d596ab616000ebf8ec4e57716121a1f22e618", func := "loop.example/g00640/laws.FnMarks", spec := "fnMarks", unfollowed := true, recurses := true, apart := false }
def FnMarksSaid : Prop := fnMarksRow.holds Try.pinned (OpenSpec.ofChange fnMarksSpec)

/-- ITS FALSE NEIGHBOUR: 'it returns false'. Refute it at one input. -/
def fnMarksWrong : ChangeSpec := { name := "fnMarks", fn := fun _ => fun
  | [d] => { results := [.lit (.bool false)], args := [d] }
  | _ => none }
def FnMarksWrongFalsely : Prop := fnMarksRow.holds Try.pinned (OpenSpec.ofChange fnMarksWrong)

/-- 'laws.FnFarMarks': WHATEVER THE INPUT: true; the input reads as it did. -/
def fnFarMarksSpec : ChangeSpec := { name := "fnFarMarks", fn := fun _ => fun
  | [d] => { results := [.lit (.bool true)], args := [d] }
  | _ => none }
def fnFarMarksRow : OpenClaim := { program := "ytbmfjfglkjhlnaa", sum := "30e77f1861080d6b07d0e6ea4c7d596ab616000ebf8ec4e57716121a1f22e618", func := "loop.example/g00640/laws.FnFarMarks", spec := "fnFarMarks", apart := false }
def FnFarMarksSaid : Prop := fnFarMarksRow.holds Try.pinned (OpenSpec.ofChange fnFarMarksSpec)

/-- ITS FALSE NEIGHBOUR: 'it returns false'. Refute it at one input. -/
def fnFarMarksWrong : ChangeSpec := { name := "fnFarMarks", fn := fun _ => fun
  | [d] => { results := [.lit (.bool false)], args := [d] }
  | _ => none }
def FnFarMarksWrongFalsely : Prop := fnFarMarksRow.holds Try.pinned (OpenSpec.ofChange fnFarMarksWrong)

/-- 'laws.FnGuided': WHATEVER THE INPUT: true; the input reads as it did. -/
def fnGuidedSpec : ChangeSpec := { name := "fnGuided", fn := fun _ => fun
  | [d] => { results := [.lit (.bool true)], args := [d] }
  | _ => none }
def fnGuidedRow : OpenClaim := { program := "ytbmfjfglkjhlnaa", sum := "30e77f1861080d6b07d0e6ea4c7d596ab616000ebf8ec4e57716121a1f22e618", func := "loop.example/g00640/laws.FnGuided", spec := "fnGuided", unfollowed := true, recurses := true, apart := false }
def FnGuidedSaid : Prop := fnGuidedRow.holds Try.pinned (OpenSpec.ofChange fnGuidedSpec)

/-- ITS FALSE NEIGHBOUR: 'it returns false'. Refute it at one input. -/
def fnGuidedWrong : ChangeSpec := { name := "fnGuided", fn := fun _ => fun
  | [d] => { results := [.lit (.bool false)], args := [d] }
  | _ => none }
def FnGuidedWrongFalsely : Prop := fnGuidedRow.holds Try.pinned (OpenSpec.ofChange fnGuidedWrong)

/-- 'laws.FnExactLone': WHATEVER THE INPUT: true; the input reads as it did. -/
def fnExactLoneSpec : ChangeSpec := { name := "fnExactLone", fn := fun _ => fun
  | [d1, d2] => { results := [.lit (.bool true)], args := [d1, d2] }
  | _ => none }
def fnExactLoneRow : OpenClaim := { program := "ytbmfjfglkjhlnaa", sum := "30e77f1861080d6b07d0e6ea4c7d596ab616000ebf8ec4e57716121a1f22e618", func := "loop.example/g00640/laws.FnExactLone", spec := "fnExactLone", unfollowed := true, recurses := true, apart := false }
def FnExactLoneSaid : Prop := fnExactLoneRow.holds Try.pinned (OpenSpec.ofChange fnExactLoneSpec)

/-- ITS FALSE NEIGHBOUR: 'it returns false'. Refute it at one input. -/
def fnExactLoneWrong : ChangeSpec := { name := "fnExactLone", fn := fun _ => fun
  | [d1, d2] => { results := [.lit (.bool false)], args := [d1, d2] }
  | _ => none }
def FnExactLoneWrongFalsely : Prop := fnExactLoneRow.holds Try.pinned (OpenSpec.ofChange fnExactLoneWrong)

/- THE SECOND FORM. 'bulk': how many values and letters a reading holds, each counted each time it is reached (what is shared counts as often as it is met; a slice's spare places count too). A statement '..UptoSaid' is the law's where the arguments, and the package variables that the reading takes, are together of bulk at most 1048576: NARROWER than '..Said'. Prove '..Said' where nothing that the law and all that it calls make is longer than what came in: it says more and counts as full. Else prove '..UptoSaid'. A law counts once. -/
mutual
def uptoBulk {H : Type} : DataW H → Nat
  | .lit (.string bytes) => bytes.length + 1
  | .lit _ => 1
  | .nil => 1
  | .ptr d => uptoBulk d + 1
  | .slice elems spare => uptoBulkAll elems + uptoBulkAll spare + 1
  | .agg parts => uptoBulkAll parts + 1
  | .iface _ d => uptoBulk d + 1
  | .map entries => uptoBulkEntries entries + 1
  | .held _ => 1
def uptoBulkAll {H : Type} : List (DataW H) → Nat
  | [] => 0
  | d :: r => uptoBulk d + uptoBulkAll r
def uptoBulkEntries {H : Type} : List (Lit × DataW H) → Nat
  | [] => 0
  | x :: r => uptoBulkEntry x + uptoBulkEntries r
def uptoBulkEntry {H : Type} : Lit × DataW H → Nat
  | (.string bytes, d) => bytes.length + uptoBulk d + 1
  | (_, d) => uptoBulk d + 1
 end
def uptoSmall : (H : Type) → List (DataW H) → Bool := fun _ ds => decide (uptoBulkAll ds ≤ 1048576)
def OpenSpec.upto (s : _root_.Go.ChangeSpec) : _root_.Go.OpenSpec := { _root_.Go.OpenSpec.ofChange s with cond := some uptoSmall }

/-- 'laws.FnExactSearch', WHERE WHAT IT READS IS OF BULK AT MOST 1048576: true; the input reads as it did. -/
def fnExactSearchUptoRow : OpenClaim := { program := "ytbmfjfglkjhlnaa", sum := "30e77f1861080d6b07d0e6ea4c7d596ab616000ebf8ec4e57716121a1f22e618", func := "loop.example/g00640/laws.FnExactSearch", spec := "fnExactSearch", unfollowed := true, recurses := true, apart := false, narrowed := true }
def FnExactSearchUptoSaid : Prop := fnExactSearchUptoRow.holds Try.pinned (OpenSpec.upto fnExactSearchSpec)

/-- 'laws.FnExactBoth', WHERE WHAT IT READS IS OF BULK AT MOST 1048576: true; the input reads as it did. -/
def fnExactBothUptoRow : OpenClaim := { program := "ytbmfjfglkjhlnaa", sum := "30e77f1861080d6b07d0e6ea4c7d596ab616000ebf8ec4e57716121a1f22e618", func := "loop.example/g00640/laws.FnExactBoth", spec := "fnExactBoth", unfollowed := true, recurses := true, apart := false, narrowed := true }
def FnExactBothUptoSaid : Prop := fnExactBothUptoRow.holds Try.pinned (OpenSpec.upto fnExactBothSpec)

/-- 'laws.FnSearched', WHERE WHAT IT READS IS OF BULK AT MOST 1048576: true; the input reads as it did. -/
def fnSearchedUptoRow : OpenClaim := { program := "ytbmfjfglkjhlnaa", sum := "30e77f1861080d6b07d0e6ea4c7d596ab616000ebf8ec4e57716121a1f22e618", func := "loop.example/g00640/laws.FnSearched", spec := "fnSearched", unfollowed := true, recurses := true, apart := false, narrowed := true }
def FnSearchedUptoSaid : Prop := fnSearchedUptoRow.holds Try.pinned (OpenSpec.upto fnSearchedSpec)

/-- 'laws.FnExactGuided', WHERE WHAT IT READS IS OF BULK AT MOST 1048576: true; the input reads as it did. -/
def fnExactGuidedUptoRow : OpenClaim := { program := "ytbmfjfglkjhlnaa", sum := "30e77f1861080d6b07d0e6ea4c7d596ab616000ebf8ec4e57716121a1f22e618", func := "loop.example/g00640/laws.FnExactGuided", spec := "fnExactGuided", unfollowed := true, recurses := true, apart := false, narrowed := true }
def FnExactGuidedUptoSaid : Prop := fnExactGuidedUptoRow.holds Try.pinned (OpenSpec.upto fnExactGuidedSpec)

/-- 'laws.FnExactMarkPot', WHERE WHAT IT READS IS OF BULK AT MOST 1048576: true; the input reads as it did. -/
def fnExactMarkPotUptoRow : OpenClaim := { program := "ytbmfjfglkjhlnaa", sum := "30e77f1861080d6b07d0e6ea4c7d596ab616000ebf8ec4e57716121a1f22e618", func := "loop.example/g00640/laws.FnExactMarkPot", spec := "fnExactMarkPot", unfollowed := true, recurses := true, apart := false, narrowed := true }
def FnExactMarkPotUptoSaid : Prop := fnExactMarkPotUptoRow.holds Try.pinned (OpenSpec.upto fnExactMarkPotSpec)

/-- 'laws.FnExactFarMarks', WHERE WHAT IT READS IS OF BULK AT MOST 1048576: true; the input reads as it did. -/
def fnExactFarMarksUptoRow : OpenClaim := { program := "ytbmfjfglkjhlnaa", sum := "30e77f1861080d6b07d0e6ea4c7d596ab616000ebf8ec4e57716121a1f22e618", func := "loop.example/g00640/laws.FnExactFarMarks", spec := "fnExactFarMarks", apart := false, narrowed := true }
def FnExactFarMarksUptoSaid : Prop := fnExactFarMarksUptoRow.holds Try.pinned (OpenSpec.upto fnExactFarMarksSpec)

/-- 'laws.FnMarks', WHERE WHAT IT READS IS OF BULK AT MOST 1048576: true; the input reads as it did. -/
def fnMarksUptoRow : OpenClaim := { program := "ytbmfjfglkjhlnaa", sum := "30e77f1861080d6b07d0e6ea4c7d596ab616000ebf8ec4e57716121a1f22e618", func := "loop.example/g00640/laws.FnMarks", spec := "fnMarks", unfollowed := true, recurses := true, apart := false, narrowed := true }
def FnMarksUptoSaid : Prop := fnMarksUptoRow.holds Try.pinned (OpenSpec.upto fnMarksSpec)

/-- 'laws.FnFarMarks', WHERE WHAT IT READS IS OF BULK AT MOST 1048576: true; the input reads as it did. -/
def fnFarMarksUptoRow : OpenClaim := { program := "ytbmfjfglkjhlnaa", sum := "30e77f1861080d6b07d0e6ea4c7d596ab616000ebf8ec4e57716121a1f22e618", func := "loop.example/g00640/laws.FnFarMarks", spec := "fnFarMarks", apart := false, narrowed := true }
def FnFarMarksUptoSaid : Prop := fnFarMarksUptoRow.holds Try.pinned (OpenSpec.upto fnFarMarksSpec)

/-- 'laws.FnGuided', WHERE WHAT IT READS IS OF BULK AT MOST 1048576: true; the input reads as it did. -/
def fnGuidedUptoRow : OpenClaim := { program := "ytbmfjfglkjhlnaa", sum := "30e77f1861080d6b07d0e6ea4c7d596ab616000ebf8ec4e57716121a1f22e618", func := "loop.example/g00640/laws.FnGuided", spec := "fnGuided", unfollowed := true, recurses := true, apart := false, narrowed := true }
def FnGuidedUptoSaid : Prop := fnGuidedUptoRow.holds Try.pinned (OpenSpec.upto fnGuidedSpec)

/-- 'laws.FnExactLone', WHERE WHAT IT READS IS OF BULK AT MOST 1048576: true; the input reads as it did. -/
def fnExactLoneUptoRow : OpenClaim := { program := "ytbmfjfglkjhlnaa", sum := "30e77f1861080d6b07d0e6ea4c7d596ab616000ebf8ec4e57716121a1f22e618", func := "loop.example/g00640/laws.FnExactLone", spec := "fnExactLone", unfollowed := true, recurses := true, apart := false, narrowed := true }
def FnExactLoneUptoSaid : Prop := fnExactLoneUptoRow.holds Try.pinned (OpenSpec.upto fnExactLoneSpec)

end Rows
end Go.Proofs.Ytbmfjfglkjhlnaa
