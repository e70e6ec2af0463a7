/-
  What spec.DrawTurned leaves: some network.
-/
import Derived.Test.YtbmfjfglkjhlnaaDrawAny
namespace Go.Proofs.Ytbmfjfglkjhlnaa
open Go.RowKit Go.Deep

/-- Some network; nothing that was there has turned. -/
def SomeNet (w : World) (e : Ending) (w' : World) : Prop :=
  ∃ (ad : Addr) (B : Option Addr) (ca cb : Nat) (ps : List (Int × Int)) (rs : List A3), e = .returned (.agg #[.slice (some ad) ps.length ca, .slice B rs.length cb]) ∧ 2 ≤ ps.length ∧ ps.length ≤ 21 ∧ rs.length ≤ 100 ∧ IsPts w' (some ad) ps ∧ IsArcs w' B rs ∧ Below w.heap.size w w'

theorem arcsD {w : World} {base : Nat} {A : Option Addr} {cap : Nat} {rs : List A3} (h : w.ownsRow base 80 3 (.slice A rs.length cap) rs.length (cellsA rs)) : IsArcs w A rs := fun hp => by
  obtain ⟨A', cap', e, -, -, hA⟩ := ownA_is h
  obtain ⟨g, rfl, -, ho⟩ := hA hp
  injection e with e1 e2 e3
  subst e1
  exact OwnAt.arcs ho hp

end Go.Proofs.Ytbmfjfglkjhlnaa
