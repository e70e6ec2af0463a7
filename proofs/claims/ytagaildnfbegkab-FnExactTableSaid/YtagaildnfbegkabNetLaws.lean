/-
  What laws.toNet, szNet and eqNet compute; how a network that came in reads.
-/
import Derived.Test.YtagaildnfbegkabNetMem
import Derived.Deep.RegionHeld3
namespace Go.Proofs.Ytagaildnfbegkab
open Go.RowKit Go.Deep Go.ChangeShapes Go.WideShapes Go.Joins

/-- Block b holds the two cells u and v, and is known whole. -/
def Pair (w : World) (b : Nat) (t : TypeId) (u v : Value) : Prop := w.heap[b]? = some (.cells #[u, v] t (0, 0))
section
variable {w w' : World} {b c : Nat} {t : TypeId} {u v : Value}
theorem Pair.lt (h : Pair w b t u v) : b < w.heap.size := (Array.getElem?_eq_some_iff.1 h).1
theorem Pair.new (w : World) (t : TypeId) (u v : Value) : Pair (w.alloc (.cells #[u, v] t)) w.heap.size t u v := heap_alloc_new w _
theorem Pair.alloc (h : Pair w b t u v) (o : Obj) : Pair (w.alloc o) b t u v := (Below.heap_alloc w o b h.lt).trans h
theorem Pair.below (h : Pair w b t u v) (hb : Below w.heap.size w w') : Pair w' b t u v := (hb.block b h.lt).trans h
theorem Pair.cells (h : Pair w b t u v) : w.cell? ⟨b, 0, none⟩ = some u ∧ w.cell? ⟨b, 1, none⟩ = some v ∧ w.frozen? ⟨b, 0, none⟩ = false ∧ w.frozen? ⟨b, 1, none⟩ = false :=
  ⟨by rw [cell_of_block h]; rfl, by rw [cell_of_block h]; rfl, frozen_of_block h, frozen_of_block h⟩
theorem Pair.set0 (h : Pair w b t u v) (x : Value) : Pair (w.setCell ⟨b, 0, none⟩ x) b t x v := block_set x h
theorem Pair.set1 (h : Pair w b t u v) (x : Value) : Pair (w.setCell ⟨b, 1, none⟩ x) b t u x := block_set x h
theorem Pair.far (h : Pair w b t u v) (hc : b ≠ c) (i : Nat) (x : Value) : Pair (w.setCell ⟨c, i, none⟩ x) b t u v := (Below.heap_setCell w ⟨c, i, none⟩ x b hc).trans h
end
theorem rowIs_far {w : World} {b c : Nat} {t : TypeId} {n : Nat} {f : Nat → Value} (h : w.rowIs b t n f) (hc : b ≠ c) (i : Nat) (x : Value) : (w.setCell ⟨c, i, none⟩ x).rowIs b t n f := World.rowIs.setOther h (by simpa using hc) x

/-- How much room is left behind n elements: -1 where there is none. -/
def szn (l : Int) (n : Nat) : Int := if l < n then -1 else l - n
theorem szn_no {l : Int} {n : Nat} (h : l < n) : szn l n = -1 := if_pos h
theorem szn_yes {l : Int} {n : Nat} (h : ¬ l < n) : szn l n = l - n := if_neg h

/-- The k-th elements of two slices, and nothing older has turned. -/
abbrev EqP (w : World) (b1 o1 b2 o2 : Nat) (x y : Int) (w' : World) : Prop :=
  w'.cell? ⟨b1, o1, none⟩ = some (.int .i64 x) ∧ w'.cell? ⟨b1, o1 + 1, none⟩ = some (.int .i64 y) ∧ w'.cell? ⟨b2, o2, none⟩ = some (.int .i64 x) ∧ w'.cell? ⟨b2, o2 + 1, none⟩ = some (.int .i64 y) ∧ Below w.heap.size w w'
theorem EqP.under {w w1 w2 : World} {b1 o1 b2 o2 : Nat} {x y : Int} (hb : Below w1.heap.size w1 w2) (h : EqP w b1 o1 b2 o2 x y w1) : EqP w b1 o1 b2 o2 x y w2 := by
  obtain ⟨h1, h2, h3, h4, h5⟩ := h
  have g1 : b1 < w1.heap.size := by simpa using World.block_lt_of_cell? w1 _ h1
  have g2 : b2 < w1.heap.size := by simpa using World.block_lt_of_cell? w1 _ h3
  exact ⟨(hb.cell (p := ⟨b1, o1, none⟩) g1).trans h1, (hb.cell (p := ⟨b1, o1 + 1, none⟩) g1).trans h2, (hb.cell (p := ⟨b2, o2, none⟩) g2).trans h3, (hb.cell (p := ⟨b2, o2 + 1, none⟩) g2).trans h4, h5.trans (hb.mono h5.size)⟩
theorem EqP.drew {w w1 : World} {b1 o1 b2 o2 : Nat} {x y : Int} (h : EqP w b1 o1 b2 o2 x y w1) : EqP w b1 o1 b2 o2 x y w1.drew := ⟨h.1, h.2.1, h.2.2.1, h.2.2.2.1, h.2.2.2.2.drew⟩
abbrev EqA (w : World) (b1 o1 b2 o2 : Nat) (x y z : Int) (w' : World) : Prop :=
  w'.cell? ⟨b1, o1, none⟩ = some (.int .i64 x) ∧ w'.cell? ⟨b1, o1 + 1, none⟩ = some (.int .i64 y) ∧ w'.cell? ⟨b1, o1 + 2, none⟩ = some (.int .i64 z) ∧ w'.cell? ⟨b2, o2, none⟩ = some (.int .i64 x) ∧ w'.cell? ⟨b2, o2 + 1, none⟩ = some (.int .i64 y) ∧ w'.cell? ⟨b2, o2 + 2, none⟩ = some (.int .i64 z) ∧ Below w.heap.size w w'
theorem EqA.under {w w1 w2 : World} {b1 o1 b2 o2 : Nat} {x y z : Int} (hb : Below w1.heap.size w1 w2) (h : EqA w b1 o1 b2 o2 x y z w1) : EqA w b1 o1 b2 o2 x y z w2 := by
  obtain ⟨h1, h2, h2', h3, h4, h4', h5⟩ := h
  have g1 : b1 < w1.heap.size := by simpa using World.block_lt_of_cell? w1 _ h1
  have g2 : b2 < w1.heap.size := by simpa using World.block_lt_of_cell? w1 _ h3
  exact ⟨(hb.cell (p := ⟨b1, o1, none⟩) g1).trans h1, (hb.cell (p := ⟨b1, o1 + 1, none⟩) g1).trans h2, (hb.cell (p := ⟨b1, o1 + 2, none⟩) g1).trans h2', (hb.cell (p := ⟨b2, o2, none⟩) g2).trans h3, (hb.cell (p := ⟨b2, o2 + 1, none⟩) g2).trans h4, (hb.cell (p := ⟨b2, o2 + 2, none⟩) g2).trans h4', h5.trans (hb.mono h5.size)⟩
theorem EqA.drew {w w1 : World} {b1 o1 b2 o2 : Nat} {x y z : Int} (h : EqA w b1 o1 b2 o2 x y z w1) : EqA w b1 o1 b2 o2 x y z w1.drew := ⟨h.1, h.2.1, h.2.2.1, h.2.2.2.1, h.2.2.2.2.1, h.2.2.2.2.2.1, h.2.2.2.2.2.2.drew⟩

end Go.Proofs.Ytagaildnfbegkab
