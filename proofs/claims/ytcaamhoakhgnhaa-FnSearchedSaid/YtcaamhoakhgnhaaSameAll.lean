/-
  What spec.l01Same, slices.Equal, spec.SameDists and impl.SameDists compute. What impl.SameDists computes.
-/
import Derived.Test.YtcaamhoakhgnhaaBetAll
import Derived.Deep.RegionHeld3
namespace Go.Proofs.Ytcaamhoakhgnhaa
open Go.RowKit Go.Deep

theorem zg_ext {zs ys : List Int} (hl : zs.length = ys.length) (h : ∀ j, j < zs.length → zg zs j = zg ys j) : zs = ys := by
  apply List.ext_getElem hl
  intro j h1 h2
  have := h j h1
  simpa [zg, h1, h2] using this
theorem beq_no {zs ys : List Int} {k : Nat} (h : zg zs k ≠ zg ys k) : (zs == ys) = false := by
  cases e : zs == ys with
  | false => rfl
  | true => rw [eq_of_beq e] at h; exact absurd rfl h

/-- What SameDists answers. -/
def sdB (ps : List (Int × Int)) (rs : List A3) (qs : List (Int × Int)) (ts : List A3) : Bool :=
  decide (netB ps rs = true ∧ netB qs ts = true ∧ ps.length = qs.length ∧ ∀ u, u < ps.length → dst ps.length rs u = dst ps.length ts u)
theorem sdB_no {ps : List (Int × Int)} {rs : List A3} {qs : List (Int × Int)} {ts : List A3} (h : netB ps rs = false ∨ netB qs ts = false ∨ ps.length ≠ qs.length) : sdB ps rs qs ts = false := decide_eq_false (by
  rintro ⟨h1, h2, h3, -⟩
  rcases h with h | h | h
  · rw [h1] at h; cases h
  · rw [h2] at h; cases h
  · exact h h3)
theorem sdB_at {ps : List (Int × Int)} {rs : List A3} {qs : List (Int × Int)} {ts : List A3} {u : Nat} (hu : u < ps.length) (h : (dst ps.length rs u == dst ps.length ts u) = false) : sdB ps rs qs ts = false := decide_eq_false (by
  rintro ⟨-, -, -, h4⟩
  rw [h4 u hu] at h; simp at h)
theorem sdB_all {ps : List (Int × Int)} {rs : List A3} {qs : List (Int × Int)} {ts : List A3} (h1 : netB ps rs = true) (h2 : netB qs ts = true) (h3 : ps.length = qs.length) (h4 : ∀ u, u < ps.length → dst ps.length rs u = dst ps.length ts u) : sdB ps rs qs ts = true := decide_eq_true ⟨h1, h2, h3, h4⟩

/-- What a round reads: the boxes of the two networks. -/
abbrev SdS (base : World) (xb yb : Nat) (u v s t : Value) (w : World) : Prop :=
  w.cell? ⟨xb, 0, none⟩ = some u ∧ w.cell? ⟨xb, 1, none⟩ = some v ∧ w.cell? ⟨yb, 0, none⟩ = some s ∧ w.cell? ⟨yb, 1, none⟩ = some t ∧ Below base.heap.size base w
section
variable {base w w' : World} {xb yb : Nat} {u v s t : Value}
theorem SdS.under (hb : Below w.heap.size w w') (h : SdS base xb yb u v s t w) : SdS base xb yb u v s t w' := ⟨cell_under hb h.1, cell_under hb h.2.1, cell_under hb h.2.2.1, cell_under hb h.2.2.2.1, h.2.2.2.2.trans (hb.mono h.2.2.2.2.size)⟩
theorem SdS.drew (h : SdS base xb yb u v s t w) : SdS base xb yb u v s t w.drew := ⟨h.1, h.2.1, h.2.2.1, h.2.2.2.1, h.2.2.2.2.drew⟩
theorem SdS.bel (h : SdS base xb yb u v s t w) : Below base.heap.size base w := h.2.2.2.2
end
theorem SdS.start (w : World) (u v s t : Value) (ty : TypeId) : SdS w w.heap.size (w.heap.size + 1) u v s t ((w.alloc (.cells #[u, v] ty)).alloc (.cells #[s, t] ty)) := by
  have X := (Pair.new w ty u v).alloc (.cells #[s, t] ty)
  have Y := Pair.new (w.alloc (.cells #[u, v] ty)) ty s t
  rw [World.size_alloc] at Y
  exact ⟨X.cells.1, X.cells.2.1, Y.cells.1, Y.cells.2.1, below2 w _ _⟩

end Go.Proofs.Ytcaamhoakhgnhaa

namespace Go.Proofs.Ytcaamhoakhgnhaa
open Go.RowKit Go.Deep

end Go.Proofs.Ytcaamhoakhgnhaa
