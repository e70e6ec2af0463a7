/-
  What impl.hasNode, impl.allows, impl.precedes and impl.NetOk compute.
-/
import Derived.Test.YtagaildnfbegkabNetSpec
import Derived.Deep.RegionWith
namespace Go.Proofs.Ytagaildnfbegkab
open Go.RowKit Go.Deep

/-- Block b holds the arc (f, t, l). -/
def ArcBox (w : World) (b : Nat) (f t l : Int) : Prop := w.cell? ⟨b, 0, none⟩ = some (.int .i64 f) ∧ w.cell? ⟨b, 1, none⟩ = some (.int .i64 t) ∧ w.cell? ⟨b, 2, none⟩ = some (.int .i64 l)
theorem ArcBox.below {w w' : World} {b : Nat} {f t l : Int} (h : ArcBox w b f t l) (hb : Below w.heap.size w w') : ArcBox w' b f t l := ⟨cell_under hb h.1, cell_under hb h.2.1, cell_under hb h.2.2⟩
theorem ArcBox.cells {w : World} {b : Nat} {f t l : Int} (h : ArcBox w b f t l) : w.cell? ⟨b, 0, none⟩ = some (.int .i64 f) ∧ w.cell? ⟨b, 1, none⟩ = some (.int .i64 t) ∧ w.cell? ⟨b, 2, none⟩ = some (.int .i64 l) := h

end Go.Proofs.Ytagaildnfbegkab
