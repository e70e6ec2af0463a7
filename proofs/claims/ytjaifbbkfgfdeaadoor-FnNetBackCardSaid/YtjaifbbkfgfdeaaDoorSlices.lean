/-
  What laws.toIntS and laws.eqIntS compute: a copy of a slice of numbers in new memory; whether two slices hold the same numbers.
-/
import Derived.Test.YtjaifbbkfgfdeaaDoorLeast
import Derived.Deep.OwnRows
import Derived.Deep.QuietTactic
import Derived.BigQuiet
import Derived.Deep.RegionHeld
namespace Go.Proofs.YtjaifbbkfgfdeaaDoor
open Go.RowKit Go.Deep

theorem Tryd.infoInt : (Tryd.prog.info? 3).map (fun i => (i.zero, i.size, i.bytes)) = some (some (.int .i64 0), 1, 8) := by kernel_rfl

def CopyRel (w wr : World) (zs : List Int) (k : Nat) : Prop :=
  wr.rowIs w.heap.size 3 zs.length (fun j => .int .i64 (if j < k then zg zs j else 0)) ∧ Below w.heap.size w wr

theorem copyRel_start (w : World) (zs : List Int) : CopyRel w (w.alloc (.cells (madeCells #[.int .i64 0] zs.length) 3)) zs 0 :=
  ⟨(World.rowIs_made w _ _ _).congr fun i _ => by simp, (Below.refl _ _).alloc (Nat.le_refl _) _⟩

theorem copyRel_step {w wr : World} {zs : List Int} {k : Nat} (h : CopyRel w wr zs k) : CopyRel w (wr.setCell ⟨w.heap.size, k, none⟩ (.int .i64 (zg zs k))) zs (k + 1) :=
  ⟨(h.1.set k _).congr fun j _ => by
    by_cases e : j = k
    · subst e; simp
    · rw [if_neg e]; by_cases h' : j < k
      · rw [if_pos h', if_pos (by omega)]
      · rw [if_neg h', if_neg (by omega)], h.2.setCell (Nat.le_refl _) _⟩

theorem copyRel_end {w wr : World} {zs : List Int} {k : Nat} (h : CopyRel w wr zs k) (hk : zs.length ≤ k) : wr.rowIs w.heap.size 3 zs.length (fun j => .int .i64 (zg zs j)) ∧ Below w.heap.size w wr :=
  ⟨h.1.congr fun j hj => by rw [if_pos (by omega)], h.2⟩

end Go.Proofs.YtjaifbbkfgfdeaaDoor
