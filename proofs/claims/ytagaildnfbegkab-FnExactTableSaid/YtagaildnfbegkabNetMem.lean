/-
  Words for networks: slices of points and of arcs that read as lists; the zero values behind their ends.
-/
import Derived.Test.YtagaildnfbegkabPoints
import Derived.Lib.SmallJoins
namespace Go.Proofs.Ytagaildnfbegkab
open Go.RowKit Go.Deep

/-- The i-th point, the i-th arc (zeros behind the end). -/
def ptg (ps : List (Int × Int)) (i : Nat) : Int × Int := ps.getD i (0, 0)
def arg (rs : List (Int × Int × Int)) (i : Nat) : Int × Int × Int := rs.getD i (0, 0, 0)

/-- A slice value at A reads as the points ps (the arcs rs), in memory that was there. -/
def IsPts (w : World) (A : Option Addr) (ps : List (Int × Int)) : Prop :=
  0 < ps.length → ∃ b off, A = some ⟨b, off, none⟩ ∧ b < w.heap.size ∧ ∀ i, i < ps.length → w.cell? ⟨b, off + i * 2, none⟩ = some (.int .i64 (ptg ps i).1) ∧ w.cell? ⟨b, off + i * 2 + 1, none⟩ = some (.int .i64 (ptg ps i).2)
def IsArcs (w : World) (A : Option Addr) (rs : List (Int × Int × Int)) : Prop :=
  0 < rs.length → ∃ b off, A = some ⟨b, off, none⟩ ∧ b < w.heap.size ∧ ∀ i, i < rs.length → w.cell? ⟨b, off + i * 3, none⟩ = some (.int .i64 (arg rs i).1) ∧ w.cell? ⟨b, off + i * 3 + 1, none⟩ = some (.int .i64 (arg rs i).2.1) ∧ w.cell? ⟨b, off + i * 3 + 2, none⟩ = some (.int .i64 (arg rs i).2.2)

theorem IsPts.below {w w' : World} {A : Option Addr} {ps : List (Int × Int)} (h : IsPts w A ps) (hb : Below w.heap.size w w') : IsPts w' A ps := by
  intro hp
  obtain ⟨b, off, h1, h2, h3⟩ := h hp
  exact ⟨b, off, h1, Nat.lt_of_lt_of_le h2 hb.size, fun i hi => ⟨(hb.cell (p := ⟨b, off + i * 2, none⟩) h2).trans (h3 i hi).1, (hb.cell (p := ⟨b, off + i * 2 + 1, none⟩) h2).trans (h3 i hi).2⟩⟩
theorem IsArcs.below {w w' : World} {A : Option Addr} {rs : List (Int × Int × Int)} (h : IsArcs w A rs) (hb : Below w.heap.size w w') : IsArcs w' A rs := by
  intro hp
  obtain ⟨b, off, h1, h2, h3⟩ := h hp
  exact ⟨b, off, h1, Nat.lt_of_lt_of_le h2 hb.size, fun i hi => ⟨(hb.cell (p := ⟨b, off + i * 3, none⟩) h2).trans (h3 i hi).1, (hb.cell (p := ⟨b, off + i * 3 + 1, none⟩) h2).trans (h3 i hi).2.1, (hb.cell (p := ⟨b, off + i * 3 + 2, none⟩) h2).trans (h3 i hi).2.2⟩⟩

theorem IsPts.at_ {w : World} {A : Option Addr} {ps : List (Int × Int)} (h : IsPts w A ps) {k : Nat} (hk : k < ps.length) :
    ∃ b off, A = some ⟨b, off, none⟩ ∧ b < w.heap.size ∧ w.cell? ⟨b, off + k * 2, none⟩ = some (.int .i64 (ptg ps k).1) ∧ w.cell? ⟨b, off + k * 2 + 1, none⟩ = some (.int .i64 (ptg ps k).2) := by
  obtain ⟨b, off, h1, h2, h3⟩ := h (by omega)
  exact ⟨b, off, h1, h2, h3 k hk⟩
theorem IsArcs.at_ {w : World} {A : Option Addr} {rs : List (Int × Int × Int)} (h : IsArcs w A rs) {k : Nat} (hk : k < rs.length) :
    ∃ b off, A = some ⟨b, off, none⟩ ∧ b < w.heap.size ∧ w.cell? ⟨b, off + k * 3, none⟩ = some (.int .i64 (arg rs k).1) ∧ w.cell? ⟨b, off + k * 3 + 1, none⟩ = some (.int .i64 (arg rs k).2.1) ∧ w.cell? ⟨b, off + k * 3 + 2, none⟩ = some (.int .i64 (arg rs k).2.2) := by
  obtain ⟨b, off, h1, h2, h3⟩ := h (by omega)
  exact ⟨b, off, h1, h2, h3 k hk⟩

/-- The j-th number of the points, of the arcs, field by field. -/
def flatP (ps : List (Int × Int)) (j : Nat) : Int := if j % 2 = 0 then (ptg ps (j / 2)).1 else (ptg ps (j / 2)).2
def flatA (rs : List (Int × Int × Int)) (j : Nat) : Int := if j % 3 = 0 then (arg rs (j / 3)).1 else if j % 3 = 1 then (arg rs (j / 3)).2.1 else (arg rs (j / 3)).2.2

theorem flatP_0 (ps : List (Int × Int)) (i : Nat) : flatP ps (i * 2) = (ptg ps i).1 := by unfold flatP; rw [if_pos (by omega), Nat.mul_div_cancel _ (by omega)]
theorem flatP_1 (ps : List (Int × Int)) (i : Nat) : flatP ps (i * 2 + 1) = (ptg ps i).2 := by unfold flatP; rw [if_neg (by omega), show (i * 2 + 1) / 2 = i by omega]
theorem flatA_0 (rs : List (Int × Int × Int)) (i : Nat) : flatA rs (i * 3) = (arg rs i).1 := by unfold flatA; rw [if_pos (by omega), Nat.mul_div_cancel _ (by omega)]
theorem flatA_1 (rs : List (Int × Int × Int)) (i : Nat) : flatA rs (i * 3 + 1) = (arg rs i).2.1 := by unfold flatA; rw [if_neg (by omega), if_pos (by omega), show (i * 3 + 1) / 3 = i by omega]
theorem flatA_2 (rs : List (Int × Int × Int)) (i : Nat) : flatA rs (i * 3 + 2) = (arg rs i).2.2 := by unfold flatA; rw [if_neg (by omega), if_neg (by omega), show (i * 3 + 2) / 3 = i by omega]

def ArcsRow (w : World) (b : Nat) (rs : List (Int × Int × Int)) : Prop := w.rowIs b 161 (rs.length * 3) (fun j => .int .i64 (flatA rs j))

theorem ArcsRow.is {w : World} {b : Nat} {rs : List (Int × Int × Int)} (h : ArcsRow w b rs) : IsArcs w (some ⟨b, 0, none⟩) rs := fun _ =>
  ⟨b, 0, rfl, World.rowIs.lt h, fun i hi => ⟨by rw [Nat.zero_add, World.rowIs.cell h (by omega), flatA_0], by rw [Nat.zero_add, World.rowIs.cell h (by omega), flatA_1], by rw [Nat.zero_add, World.rowIs.cell h (by omega), flatA_2]⟩⟩
theorem rowIs_below {w w' : World} {b : Nat} {t : TypeId} {n : Nat} {f : Nat → Value} (h : w.rowIs b t n f) (hb : Below w.heap.size w w') : w'.rowIs b t n f := World.rowIs.of_block h (hb.block b (World.rowIs.lt h))

/-- What make lays for elements of k numbers. -/
theorem made_ints (w : World) (k n : Nat) (hk : 0 < k) (t : TypeId) : (w.alloc (.cells (madeCells (Array.replicate k (.int .i64 0)) (n * k)) t)).rowIs w.heap.size t (n * k) (fun _ => .int .i64 0) := by
  have h := World.rowIs_alloc w (madeCells (Array.replicate k (.int .i64 0)) (n * k)) t (fun _ => .int .i64 0) (fun i hi => by
    have hi' : i < n * k := by simpa [size_madeCells] using hi
    have : i % k < k := Nat.mod_lt _ hk
    simp [madeCells, hi', this])
  rwa [size_madeCells] at h

theorem Try.infoArc : (Try.prog.info? 161).map (fun i => (i.zero, i.size, i.bytes)) = some (some (.agg #[.int .i64 0, .int .i64 0, .int .i64 0]), 3, 24) := by kernel_rfl

def CopyA (w wr : World) (rs : List (Int × Int × Int)) (k : Nat) : Prop :=
  wr.rowIs w.heap.size 161 (rs.length * 3) (fun j => .int .i64 (if j < k * 3 then flatA rs j else 0)) ∧ Below w.heap.size w wr

theorem copyA_start (w : World) (rs : List (Int × Int × Int)) : CopyA w (w.alloc (.cells (madeCells (Array.replicate 3 (.int .i64 0)) (rs.length * 3)) 161)) rs 0 :=
  ⟨(made_ints w 3 rs.length (by omega) _).congr fun i _ => by rw [if_neg (by omega)], (Below.refl _ _).alloc (Nat.le_refl _) _⟩

theorem copyA_call {w wr w' : World} {rs : List (Int × Int × Int)} {k : Nat} (h : CopyA w wr rs k) (hb : Below wr.heap.size wr w') : CopyA w w' rs k := ⟨rowIs_below h.1 hb, h.2.trans (hb.mono h.2.size)⟩

theorem copyA_step {w wr : World} {rs : List (Int × Int × Int)} {k : Nat} (h : CopyA w wr rs k) :
    CopyA w (((wr.setCell ⟨w.heap.size, k * 3, none⟩ (.int .i64 (arg rs k).1)).setCell ⟨w.heap.size, k * 3 + 1, none⟩ (.int .i64 (arg rs k).2.1)).setCell ⟨w.heap.size, k * 3 + 2, none⟩ (.int .i64 (arg rs k).2.2)) rs (k + 1) := by
  refine ⟨(((World.rowIs.set h.1 (k * 3) _).set (k * 3 + 1) _).set (k * 3 + 2) _).congr fun j _ => ?_, ((h.2.setCell (Nat.le_refl _) _).setCell (Nat.le_refl _) _).setCell (Nat.le_refl _) _⟩
  by_cases e2 : j = k * 3 + 2
  · subst e2; rw [if_pos rfl, if_pos (by omega), flatA_2]
  · rw [if_neg e2]
    by_cases e1 : j = k * 3 + 1
    · subst e1; rw [if_pos rfl, if_pos (by omega), flatA_1]
    · rw [if_neg e1]
      by_cases e0 : j = k * 3
      · subst e0; rw [if_pos rfl, if_pos (by omega), flatA_0]
      · rw [if_neg e0]
        by_cases hj : j < k * 3
        · rw [if_pos hj, if_pos (by omega)]
        · rw [if_neg hj, if_neg (by omega)]
theorem copyA_end {w wr : World} {rs : List (Int × Int × Int)} {k : Nat} (h : CopyA w wr rs k) (hk : rs.length ≤ k) : ArcsRow wr w.heap.size rs ∧ Below w.heap.size w wr :=
  ⟨World.rowIs.congr h.1 fun j hj => by rw [if_pos (by omega)], h.2⟩

theorem copyA_here {w wr : World} {rs : List (Int × Int × Int)} {k : Nat} (h : CopyA w wr rs k) (hk : k < rs.length) :
    (wr.cell? ⟨w.heap.size, k * 3, none⟩ = some (.int .i64 0) ∧ wr.cell? ⟨w.heap.size, k * 3 + 1, none⟩ = some (.int .i64 0) ∧ wr.cell? ⟨w.heap.size, k * 3 + 2, none⟩ = some (.int .i64 0)) ∧
    wr.frozen? ⟨w.heap.size, k * 3, none⟩ = false ∧ wr.frozen? ⟨w.heap.size, k * 3 + 1, none⟩ = false ∧ wr.frozen? ⟨w.heap.size, k * 3 + 2, none⟩ = false :=
  ⟨⟨by rw [World.rowIs.cell h.1 (by omega), if_neg (by omega)], by rw [World.rowIs.cell h.1 (by omega), if_neg (by omega)], by rw [World.rowIs.cell h.1 (by omega), if_neg (by omega)]⟩, World.rowIs.frozen h.1 _, World.rowIs.frozen h.1 _, World.rowIs.frozen h.1 _⟩

end Go.Proofs.Ytagaildnfbegkab
