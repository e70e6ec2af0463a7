/-
  DERIVED. GIVEN WITH THE SEED: THE CARDS: each row of YtjaifbbkfgfdeaaDoorRows.lean that lists a variable, with what it lists TIED to the program's text (the seventh form; the later family's looks); each row that meets fmt, with fmt's text TOLD by the authors' own Lean function (tested against real Go, not proved from fmt's source: count such statements apart). THE CARD IS WHAT COUNTS. Prove the row's statement (the work); the ties are given (YtjaifbbkfgfdeaaDoorTie.lean); close each card by the builder's one call (the guide's Derived/Test/ToyasCard.lean, 'card_holds'). Laid BY PROGRAM, IN A SANDBOX (cutbox-door.mjs). By AI agents, Wed Nov 11 2026. No macro, syntax, notation, axiom, sorry.
-/
import Derived.Test.YtjaifbbkfgfdeaaDoorRows
import GoSem.ClaimSeven
namespace Go.Proofs.YtjaifbbkfgfdeaaDoor
namespace Rows

/-- THE TIED CARD OF 'laws.FnNetBack'. -/
def fnNetBackCard : Claim7 := { stood := { row := fnNetBackRow, standIns := [], harness := (true, "c7f7fac7320ea72dce17f2743e099ec67f91ff4d65b9559554abae8536680030"), looks := true }, kinds := [], alts := [], laidByText := true, laidKinds := [.data, .data, .data, .data, .sentinel, .sentinel, .pinned], laidTests := true, laidLooks := .later }
def FnNetBackCardSaid : Prop := Claim7.holds Tryd.pinned (.plain (OpenSpec.ofChange fnNetBackSpec)) fnNetBackCard

/-- THE TIED CARD OF 'laws.FnExactNetRead'. -/
def fnExactNetReadCard : Claim7 := { stood := { row := fnExactNetReadRow, standIns := [], harness := (true, "c7f7fac7320ea72dce17f2743e099ec67f91ff4d65b9559554abae8536680030"), looks := true }, kinds := [], alts := [], laidByText := true, laidKinds := [.data, .data, .data, .data, .sentinel, .sentinel, .pinned], laidTests := true, laidLooks := .later }
def FnExactNetReadCardSaid : Prop := Claim7.holds Tryd.pinned (.plain (OpenSpec.ofChange fnExactNetReadSpec)) fnExactNetReadCard

/-- THE SECOND FORM's CARD OF 'laws.FnNetBack'. -/
def fnNetBackUptoCard : Claim7 := { stood := { row := fnNetBackUptoRow, standIns := [], harness := (true, "c7f7fac7320ea72dce17f2743e099ec67f91ff4d65b9559554abae8536680030"), looks := true }, kinds := [], alts := [], laidByText := true, laidKinds := [.data, .data, .data, .data, .sentinel, .sentinel, .pinned], laidTests := true, laidLooks := .later }
def FnNetBackUptoCardSaid : Prop := Claim7.holds Tryd.pinned (.plain (OpenSpec.upto fnNetBackSpec)) fnNetBackUptoCard

/-- THE SECOND FORM's CARD OF 'laws.FnExactNetRead'. -/
def fnExactNetReadUptoCard : Claim7 := { stood := { row := fnExactNetReadUptoRow, standIns := [], harness := (true, "c7f7fac7320ea72dce17f2743e099ec67f91ff4d65b9559554abae8536680030"), looks := true }, kinds := [], alts := [], laidByText := true, laidKinds := [.data, .data, .data, .data, .sentinel, .sentinel, .pinned], laidTests := true, laidLooks := .later }
def FnExactNetReadUptoCardSaid : Prop := Claim7.holds Tryd.pinned (.plain (OpenSpec.upto fnExactNetReadSpec)) fnExactNetReadUptoCard
end Rows
end Go.Proofs.YtjaifbbkfgfdeaaDoor
