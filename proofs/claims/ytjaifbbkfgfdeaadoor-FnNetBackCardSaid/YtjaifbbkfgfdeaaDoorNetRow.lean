/-
  The rows of a network of the call's own, while nodes and arcs are put to it.
-/
import Derived.Test.YtjaifbbkfgfdeaaDoorTurn
import Derived.Test.YtjaifbbkfgfdeaaDoorReadNetMath
namespace Go.Proofs.YtjaifbbkfgfdeaaDoor
open Go.RowKit Go.Deep

/-- Two rows of the call's own, apart: the nodes ps at NV, the arcs rs at V. -/
structure NRow (w : World) (base : Nat) (NV V : Value) (ps : List (Int × Int)) (rs : List A3) : Prop where
  pts : w.ownsRow base 44 2 NV ps.length (cellsP ps)
  arcs : w.ownsRow base 51 3 V rs.length (cellsA rs)
  apart : ∀ g, NV.ownBlock = some g → V.ownBlock ≠ some g
section
variable {w w' : World} {base : Nat} {NV V : Value} {ps : List (Int × Int)} {rs : List A3}
theorem NRow.nil (w : World) (base : Nat) : NRow w base (.slice none 0 0) (.slice none 0 0) [] [] := ⟨World.ownsRow_nil _ _ _ _, World.ownsRow_nil _ _ _ _, fun g e => by simp [Value.ownBlock] at e⟩
theorem NRow.below (h : NRow w base NV V ps rs) (hb : Below w.heap.size w w') : NRow w' base NV V ps rs := ⟨ownsRow_below h.pts hb, ownsRow_below h.arcs hb, h.apart⟩
theorem NRow.far (h : NRow w base NV V ps rs) {c : Nat} (hc : c < base) (i : Nat) (x : Value) : NRow (w.setCell ⟨c, i, none⟩ x) base NV V ps rs := ⟨ownsRow_far h.pts hc i x, ownsRow_far h.arcs hc i x, h.apart⟩
theorem NRow.drew (h : NRow w base NV V ps rs) : NRow w.drew base NV V ps rs := ⟨h.pts, h.arcs, h.apart⟩
theorem NRow.vals (h : NRow w base NV V ps rs) : ∃ A ca B cb, NV = .slice A ps.length ca ∧ V = .slice B rs.length cb := by
  obtain ⟨A, ca, e1, -⟩ := ownP_is h.pts
  obtain ⟨B, cb, e2, -⟩ := ownA_is h.arcs
  exact ⟨A, ca, B, cb, e1, e2⟩
theorem own_block_keep {e : TypeId} {size : Nat} {v : Value} {n : Nat} {xs : List Value} {r : Option Nat} (h : w.ownsRow base e size v n xs) (hg : w.grownBy w' r) (hr : ∀ g, v.ownBlock = some g → r ≠ some g) : w'.ownsRow base e size v n xs := by
  refine ⟨h.1, ?_⟩
  rcases h.2 with h' | ⟨g, cap, cur, h1, h2, h3, h4⟩
  · exact .inl h'
  · refine .inr ⟨g, cap, cur, h1, h2, (hg.block g (Array.getElem?_eq_some_iff.1 h3).1 (fun e => hr g (by rw [h1]; rfl) e.symm)).trans h3, h4⟩
/-- A node more; an arc more. -/
theorem NRow.node {g cap : Nat} {p : Int × Int} {H : Nat} (h : NRow w base NV V ps rs) (hH : w.heap.size = H) (own : w'.ownsRow base 44 2 (.slice (some ⟨g, 0, none⟩) (ps.length + 1) cap) (ps.length + 1) (cellsP ps ++ cellsP [p])) (hg : w.grownBy w' NV.ownBlock) (hgg : NV.ownBlock = some g ∨ g = H) :
    NRow w' base (.slice (some ⟨g, 0, none⟩) (ps.length + 1) cap) V (ps ++ [p]) rs := by
  refine ⟨?_, own_block_keep h.arcs hg (fun q e e' => h.apart q e' e), ?_⟩
  · rw [show cellsP (ps ++ [p]) = cellsP ps ++ cellsP [p] from List.flatMap_append, List.length_append]; exact own
  · intro q e e'
    have eq : g = q := by simpa [Value.ownBlock] using e
    subst eq
    rcases hgg with h1 | h1
    · exact h.apart _ h1 e'
    · have := (World.ownsRow.lt h.arcs _ e').2; omega
theorem NRow.arc {g cap : Nat} {a : A3} {H : Nat} (h : NRow w base NV V ps rs) (hH : w.heap.size = H) (own : w'.ownsRow base 51 3 (.slice (some ⟨g, 0, none⟩) (rs.length + 1) cap) (rs.length + 1) (cellsA rs ++ cellsA [a])) (hg : w.grownBy w' V.ownBlock) (hgg : V.ownBlock = some g ∨ g = H) :
    NRow w' base NV (.slice (some ⟨g, 0, none⟩) (rs.length + 1) cap) ps (rs ++ [a]) := by
  refine ⟨own_block_keep h.pts hg (fun q e e' => h.apart q e e'), ?_, ?_⟩
  · rw [cellsA_append, List.length_append]; exact own
  · intro q e e'
    have eq : g = q := by simpa [Value.ownBlock] using e'
    subst eq
    rcases hgg with h1 | h1
    · exact h.apart _ e h1
    · have := (World.ownsRow.lt h.pts _ e).2; omega
end
theorem NRow.owned {w : World} {base : Nat} {A B : Option Addr} {n ca m cb : Nat} {ps : List (Int × Int)} {rs : List A3} (h : NRow w base (.slice A n ca) (.slice B m cb) ps rs) : n = ps.length ∧ m = rs.length ∧ OwnSl w base 44 A (ps.length * 2) (flatP ps) ∧ OwnSl w base 51 B (rs.length * 3) (flatA rs) ∧ Parted A B (ps.length * 2) (rs.length * 3) := by
  obtain ⟨A', ca', e1, -, hA⟩ := ownP_is h.pts
  obtain ⟨B', cb', e2, -, -, hB⟩ := ownA_is h.arcs
  injection e1 with e1 e3 e4
  injection e2 with e2 e5 e6
  subst e1 e2 e3 e5
  refine ⟨rfl, rfl, fun hp => by obtain ⟨g, h1, h2, h3⟩ := hA (by omega); exact ⟨g, 0, h1, h2, h3⟩, fun hp => by obtain ⟨g, h1, h2, h3⟩ := hB (by omega); exact ⟨g, 0, h1, h2, h3⟩, fun g k1 k2 => ?_⟩
  have q1 : A = some ⟨g, 0, none⟩ := by
    unfold blk at k1
    split at k1
    · obtain ⟨g', h1, -⟩ := hA (by omega); rw [h1] at k1 ⊢; simp at k1; rw [k1]
    · cases k1
  have q2 : B = some ⟨g, 0, none⟩ := by
    unfold blk at k2
    split at k2
    · obtain ⟨g', h1, -⟩ := hB (by omega); rw [h1] at k2 ⊢; simp at k2; rw [k2]
    · cases k2
  subst q1 q2
  exact h.apart g rfl rfl

end Go.Proofs.YtjaifbbkfgfdeaaDoor
