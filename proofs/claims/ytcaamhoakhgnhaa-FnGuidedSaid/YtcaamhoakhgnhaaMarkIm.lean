/-
  What impl.MarkPot computes.
-/
import Derived.Test.YtcaamhoakhgnhaaMarkM
import Derived.Laws.Cover1
namespace Go.Proofs.Ytcaamhoakhgnhaa
open Go.RowKit Go.Deep Go.Maps

/-- A network in its box, and nothing older has turned. -/
abbrev MkS (W0 : World) (b : Nat) (u v : Value) (w : World) : Prop := w.cell? ⟨b, 0, none⟩ = some u ∧ w.cell? ⟨b, 1, none⟩ = some v ∧ Below W0.heap.size W0 w
theorem MkS.under {W0 : World} {b : Nat} {u v : Value} {w w' : World} (hb : Below w.heap.size w w') (h : MkS W0 b u v w) : MkS W0 b u v w' := ⟨cell_under hb h.1, cell_under hb h.2.1, h.2.2.trans (hb.mono h.2.2.size)⟩

end Go.Proofs.Ytcaamhoakhgnhaa
