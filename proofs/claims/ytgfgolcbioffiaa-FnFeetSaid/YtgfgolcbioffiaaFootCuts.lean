/-
  What holds between the calls of FnExactFoot.
-/
import Derived.Test.YtgfgolcbioffiaaPtLaws
import Derived.Test.YtgfgolcbioffiaaFootA
namespace Go.Proofs.Ytgfgolcbioffiaa
open Go.RowKit Go.Deep

/-- Behind 'f := Foot(..)': f's own block holds the foot; the three points lie as they lay. -/
def FootCut (w : World) (x0 y0 x1 y1 x2 y2 : Int) (t : Value) (wc : World) : Prop :=
  ∃ b, t = .pointer (some ⟨b, 0, none⟩) ∧ Two wc b (fX x0 y0 x1 y1 x2 y2) (fY x0 y0 x1 y1 x2 y2) ∧ Tri w w.heap.size (w.heap.size + 1) (w.heap.size + 2) x0 y0 x1 y1 x2 y2 wc

theorem Two.set2 {w : World} {b : Nat} (h : Zero w b) (x y : Int) : Two ((w.setCell ⟨b, 0, none⟩ (.int .i64 x)).setCell ⟨b, 1, none⟩ (.int .i64 y)) b x y := by
  obtain ⟨z0, z1, z2, z3⟩ := h
  constructor <;> simp [go_sem, z0, z1]
theorem Two.set {w : World} {b c i : Nat} {x y : Int} {v : Value} (hc : b ≠ c) (h : Two w b x y) : Two (w.setCell ⟨c, i, none⟩ v) b x y :=
  ⟨(World.cell?_of_block (w := w) (a := ⟨b, 0, none⟩) (Below.heap_setCell w ⟨c, i, none⟩ v b hc)).trans h.1, (World.cell?_of_block (w := w) (a := ⟨b, 1, none⟩) (Below.heap_setCell w ⟨c, i, none⟩ v b hc)).trans h.2⟩
theorem Two.lt {w : World} {b : Nat} {x y : Int} (h : Two w b x y) : b < w.heap.size := by simpa using World.block_lt_of_cell? w _ h.1

/-- Three points that came in, and one of the call's own. -/
abbrev TT (base : World) (b0 b1 b2 : Nat) (ax ay bx by_ px py : Int) (b : Nat) (x y : Int) (w : World) : Prop := Tri base b0 b1 b2 ax ay bx by_ px py w ∧ Two w b x y
theorem TT.under {base : World} {b0 b1 b2 : Nat} {ax ay bx by_ px py : Int} {b : Nat} {x y : Int} {w w' : World} (hb : Below w.heap.size w w') (h : TT base b0 b1 b2 ax ay bx by_ px py b x y w) : TT base b0 b1 b2 ax ay bx by_ px py b x y w' := ⟨Tri.under hb h.1, Two.under hb h.2⟩
theorem TT.drew {base : World} {b0 b1 b2 : Nat} {ax ay bx by_ px py : Int} {b : Nat} {x y : Int} {w : World} (h : TT base b0 b1 b2 ax ay bx by_ px py b x y w) : TT base b0 b1 b2 ax ay bx by_ px py b x y w.drew := ⟨h.1.drew, h.2⟩
theorem TT.alloc {base : World} {b0 b1 b2 : Nat} {ax ay bx by_ px py : Int} {b : Nat} {x y : Int} {w : World} (h : TT base b0 b1 b2 ax ay bx by_ px py b x y w) (o : Obj) : TT base b0 b1 b2 ax ay bx by_ px py b x y (w.alloc o) := h.under (below1 w o)
theorem TT.set {base : World} {b0 b1 b2 : Nat} {ax ay bx by_ px py : Int} {b : Nat} {x y : Int} {w : World} {c i : Nat} {v : Value} (h0 : b0 < c) (h1 : b1 < c) (h2 : b2 < c) (h3 : base.heap.size ≤ c) (h4 : b < c) (h : TT base b0 b1 b2 ax ay bx by_ px py b x y w) : TT base b0 b1 b2 ax ay bx by_ px py b x y (w.setCell ⟨c, i, none⟩ v) :=
  ⟨Tri.set h0 h1 h2 h3 h.1, Two.set (by omega) h.2⟩
/-- Behind 'g := Foot(..)' too. -/
def FootCut2 (w : World) (x0 y0 x1 y1 x2 y2 : Int) (b7 : Nat) (t : Value) (wc : World) : Prop :=
  ∃ b, t = .pointer (some ⟨b, 0, none⟩) ∧ Two wc b (fX x0 y0 x1 y1 x2 y2) (fY x0 y0 x1 y1 x2 y2) ∧ TT w w.heap.size (w.heap.size + 1) (w.heap.size + 2) x0 y0 x1 y1 x2 y2 b7 (fX x0 y0 x1 y1 x2 y2) (fY x0 y0 x1 y1 x2 y2) wc

end Go.Proofs.Ytgfgolcbioffiaa
