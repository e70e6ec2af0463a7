/-
  What spec.RouteArcs, spec.RouteLen and impl.RouteLen compute.
-/
import Derived.Test.YtdobiapnkdgjoaaRouteIm
import Derived.Test.YtdobiapnkdgjoaaDistTop
namespace Go.Proofs.Ytdobiapnkdgjoaa
open Go.RowKit Go.Deep

attribute [local go_sem] Oper.semAt_some noPanic_normal noPanic_ret

/-- The loop's head in spec.RouteArcs: what has been collected, the network's box, what lay. -/
def ArcsRel (w wr : World) (A B : Option Addr) (n ca m cb : Nat) (rs : List A3) (zs : List Int) (v : Value) (k : Nat) : Prop :=
  wr.ownsRow (w.heap.size + 1) 3 1 v k ((upto (arcK rs zs) k).map (Value.int .i64)) ∧ NtS w w.heap.size (.slice A n ca) (.slice B m cb) wr ∧ w.heap.size < wr.heap.size

end Go.Proofs.Ytdobiapnkdgjoaa
