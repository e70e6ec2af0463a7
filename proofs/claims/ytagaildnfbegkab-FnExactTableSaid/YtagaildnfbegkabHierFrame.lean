/-
  What holds between the calls of an exact law over a hierarchy: the box of the hierarchy that came in, the copy that the program is given.
-/
import Derived.Test.YtagaildnfbegkabHierRow
import Derived.Test.YtagaildnfbegkabNetSpec
import Derived.Deep.RegionHeld3
namespace Go.Proofs.Ytagaildnfbegkab
open Go.RowKit Go.Deep

/-- Numbers in a block of their own. -/
def ZRow (w : World) (b : Nat) (zs : List Int) : Prop := w.rowIs b 3 zs.length (fun j => .int .i64 (zg zs j))
theorem ZRow.is {w : World} {b : Nat} {zs : List Int} (h : ZRow w b zs) : IsInts w (some ⟨b, 0, none⟩) zs := IsInts.row h
theorem ZRow.own {w : World} {b : Nat} {zs : List Int} (h : ZRow w b zs) : OwnAt w b 3 0 zs.length (zg zs) := by
  obtain ⟨c, h1, h2, h3⟩ := h
  exact ⟨c, h1, by omega, fun i hi => by rw [Nat.zero_add]; exact h3 i hi⟩
theorem toHierZ_any (A B : Option Addr) (ca cb : Nat) (zs : List Int) (rs : List A4) (w : World) (hn : zs.length ≤ 1048576) (hm : rs.length ≤ 1048576) (ha : IsInts w A zs) (hb : IsHs w B rs) :
    Calls Try.prog 10 #[.agg #[.slice A zs.length ca, .slice B rs.length cb]] w fun e w' =>
      ∃ b1 b2, e = .returned (.agg #[.slice (some ⟨b1, 0, none⟩) zs.length zs.length, .slice (some ⟨b2, 0, none⟩) rs.length rs.length]) ∧ w.heap.size ≤ b1 ∧ b1 < b2 ∧ ZRow w' b1 zs ∧ HsRow w' b2 rs ∧ Below w.heap.size w w' :=
  (toHier_any A B ca cb zs rs w hn hm ha hb).mono fun _ _ ⟨b1, b2, e1, h1, h2, h3, h4, h5⟩ => ⟨b1, b2, e1, h1, h2, h3, h4, h5⟩
/-- In block xb the hierarchy that came in, in block tb the copy, whose ranks lie in block b1 and whose arcs lie in block b2; nothing older than base has turned. -/
abbrev LawH (base : World) (xb : Nat) (u v : Value) (tb : Nat) (s t : Value) (b1 b2 : Nat) (zs : List Int) (rs : List A4) (w : World) : Prop :=
  w.cell? ⟨xb, 0, none⟩ = some u ∧ w.cell? ⟨xb, 1, none⟩ = some v ∧ w.cell? ⟨tb, 0, none⟩ = some s ∧ w.cell? ⟨tb, 1, none⟩ = some t ∧ ZRow w b1 zs ∧ HsRow w b2 rs ∧ Below base.heap.size base w
section
variable {base w w' : World} {xb : Nat} {u v : Value} {tb : Nat} {s t : Value} {b1 b2 : Nat} {zs : List Int} {rs : List A4}
theorem LawH.under (hb : Below w.heap.size w w') (h : LawH base xb u v tb s t b1 b2 zs rs w) : LawH base xb u v tb s t b1 b2 zs rs w' :=
  ⟨cell_under hb h.1, cell_under hb h.2.1, cell_under hb h.2.2.1, cell_under hb h.2.2.2.1, rowIs_below h.2.2.2.2.1 hb, rowIs_below h.2.2.2.2.2.1 hb, h.2.2.2.2.2.2.trans (hb.mono h.2.2.2.2.2.2.size)⟩
theorem LawH.drew (h : LawH base xb u v tb s t b1 b2 zs rs w) : LawH base xb u v tb s t b1 b2 zs rs w.drew := ⟨h.1, h.2.1, h.2.2.1, h.2.2.2.1, h.2.2.2.2.1, h.2.2.2.2.2.1, h.2.2.2.2.2.2.drew⟩
theorem LawH.bel (h : LawH base xb u v tb s t b1 b2 zs rs w) : Below base.heap.size base w := h.2.2.2.2.2.2
theorem LawH.pts (h : LawH base xb u v tb s t b1 b2 zs rs w) : IsInts w (some ⟨b1, 0, none⟩) zs := ZRow.is h.2.2.2.2.1
theorem LawH.arcs (h : LawH base xb u v tb s t b1 b2 zs rs w) : IsHs w (some ⟨b2, 0, none⟩) rs := HsRow.is h.2.2.2.2.2.1
end

end Go.Proofs.Ytagaildnfbegkab
