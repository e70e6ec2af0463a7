/-
  What holds between the calls of an exact law over a network: the box of the network that came in, the copy that the program is given.
-/
import Derived.Test.YtagaildnfbegkaaNetOpen
import Derived.Test.YtagaildnfbegkaaNetSpec
import Derived.Deep.RegionHeld3
namespace Go.Proofs.Ytagaildnfbegkaa
open Go.RowKit Go.Deep

/-- In block xb the network that came in, in block tb the copy, whose nodes lie in block b1 and whose arcs lie in block b2; nothing older than base has turned. -/
abbrev LawS (base : World) (xb : Nat) (u v : Value) (tb : Nat) (s t : Value) (b1 b2 : Nat) (ps : List (Int × Int)) (rs : List (Int × Int × Int)) (w : World) : Prop :=
  w.cell? ⟨xb, 0, none⟩ = some u ∧ w.cell? ⟨xb, 1, none⟩ = some v ∧ w.cell? ⟨tb, 0, none⟩ = some s ∧ w.cell? ⟨tb, 1, none⟩ = some t ∧ PtsRow w b1 ps ∧ ArcsRow w b2 rs ∧ Below base.heap.size base w
section
variable {base w w' : World} {xb : Nat} {u v : Value} {tb : Nat} {s t : Value} {b1 b2 : Nat} {ps : List (Int × Int)} {rs : List (Int × Int × Int)}
theorem LawS.under (hb : Below w.heap.size w w') (h : LawS base xb u v tb s t b1 b2 ps rs w) : LawS base xb u v tb s t b1 b2 ps rs w' :=
  ⟨cell_under hb h.1, cell_under hb h.2.1, cell_under hb h.2.2.1, cell_under hb h.2.2.2.1, rowIs_below h.2.2.2.2.1 hb, rowIs_below h.2.2.2.2.2.1 hb, h.2.2.2.2.2.2.trans (hb.mono h.2.2.2.2.2.2.size)⟩
theorem LawS.drew (h : LawS base xb u v tb s t b1 b2 ps rs w) : LawS base xb u v tb s t b1 b2 ps rs w.drew := ⟨h.1, h.2.1, h.2.2.1, h.2.2.2.1, h.2.2.2.2.1, h.2.2.2.2.2.1, h.2.2.2.2.2.2.drew⟩
theorem LawS.bel (h : LawS base xb u v tb s t b1 b2 ps rs w) : Below base.heap.size base w := h.2.2.2.2.2.2
theorem LawS.pts (h : LawS base xb u v tb s t b1 b2 ps rs w) : IsPts w (some ⟨b1, 0, none⟩) ps := PtsRow.is h.2.2.2.2.1
theorem LawS.arcs (h : LawS base xb u v tb s t b1 b2 ps rs w) : IsArcs w (some ⟨b2, 0, none⟩) rs := ArcsRow.is h.2.2.2.2.2.1
end

end Go.Proofs.Ytagaildnfbegkaa
