/-
  What impl.row, impl.arcsAt, impl.Outs, impl.Ins and impl.ArcAt compute.
-/
import Derived.Test.YtagaildnfbegkabRowsBy
import Derived.Test.YtagaildnfbegkabTurnMath
namespace Go.Proofs.Ytagaildnfbegkab
open Go.RowKit Go.Deep

/-- The row of a node: a part of the list of all rows. -/
def RowCut (w : World) (L m U : Nat) (kf : Nat → Nat) (e : Ending) (w' : World) : Prop := ∃ off c, e = .returned (.slice (some ⟨L, off, none⟩) (cE kf m U) c) ∧ (0 < cE kf m U → off = cL kf m U) ∧ Below w.heap.size w w'

/-- The indices of a row, as numbers: those of the arcs from (to) a node. -/
theorem rowL_out {rs : List (Int × Int × Int)} {n : Nat} (hk : ∀ i, i < rs.length → 0 ≤ (arg rs i).1 ∧ (arg rs i).1 < (n : Int)) (U : Nat) : (rowL (kfF rs) U rs.length).map Int.ofNat = outL rs U rs.length := by
  unfold rowL outL
  congr 1
  refine List.filter_congr fun i hi => ?_
  have := hk i (List.mem_range.1 hi)
  unfold kfF
  rw [Bool.eq_iff_iff, decide_eq_true_eq, beq_iff_eq]
  omega
theorem rowL_in {rs : List (Int × Int × Int)} {n : Nat} (hk : ∀ i, i < rs.length → 0 ≤ (arg rs i).2.1 ∧ (arg rs i).2.1 < (n : Int)) (U : Nat) : (rowL (kfT rs) U rs.length).map Int.ofNat = inL rs U rs.length := by
  unfold rowL inL
  congr 1
  refine List.filter_congr fun i hi => ?_
  have := hk i (List.mem_range.1 hi)
  unfold kfT
  rw [Bool.eq_iff_iff, decide_eq_true_eq, beq_iff_eq]
  omega
theorem outL_no {rs : List (Int × Int × Int)} {n : Nat} (hk : ∀ i, i < rs.length → 0 ≤ (arg rs i).1 ∧ (arg rs i).1 < (n : Int)) {u : Int} (hu : btB u 0 ((n : Int) - 1) = false) : outL rs u rs.length = [] := by
  unfold outL
  rw [List.filter_eq_nil_iff.2 (fun i hi => ?_)]
  · rfl
  · have := hk i (List.mem_range.1 hi)
    have h2 : ¬ (0 ≤ u ∧ u ≤ (n : Int) - 1) := fun h => by rw [btB_true h.1 h.2] at hu; cases hu
    simp only [beq_iff_eq]
    omega
theorem inL_no {rs : List (Int × Int × Int)} {n : Nat} (hk : ∀ i, i < rs.length → 0 ≤ (arg rs i).2.1 ∧ (arg rs i).2.1 < (n : Int)) {u : Int} (hu : btB u 0 ((n : Int) - 1) = false) : inL rs u rs.length = [] := by
  unfold inL
  rw [List.filter_eq_nil_iff.2 (fun i hi => ?_)]
  · rfl
  · have := hk i (List.mem_range.1 hi)
    have h2 : ¬ (0 ≤ u ∧ u ≤ (n : Int) - 1) := fun h => by rw [btB_true h.1 h.2] at hu; cases hu
    simp only [beq_iff_eq]
    omega
/-- What lies in the row of a node. -/
theorem row_ints {w : World} {L off m U : Nat} {kf : Nat → Nat} (h : IRow w L m (placed kf m m)) (ho : 0 < cE kf m U → off = cL kf m U) : IntsAt w L off ((rowL kf U m).map Int.ofNat) := fun i hi => by
  have hi' : i < cE kf m U := by rw [← rowL_len]; simpa using hi
  obtain rfl := ho (by omega)
  obtain ⟨x, hx, hp⟩ := placed_row kf m U hi'
  have hb : cL kf m U + i < m := by have := cL_le kf m (U + 1); rw [cL_succ] at this; omega
  rw [h.cell hb, hp]
  simp [zg, hx]

theorem find_at {p : Nat → Bool} : ∀ {l : List Nat} {k : Nat} (_hk : k < l.length), (∀ j, j < k → p (l.getD j 0) = false) → p (l.getD k 0) = true → l.find? p = some (l.getD k 0)
  | [], _, hk, _, _ => by simp at hk
  | x :: r, 0, _, _, h => by rw [List.getD_cons_zero] at h ⊢; rw [List.find?_cons_of_pos h]
  | x :: r, k + 1, hk, hno, h => by
    rw [List.getD_cons_succ] at h ⊢
    have h0 := hno 0 (by omega)
    rw [List.getD_cons_zero] at h0
    rw [List.find?_cons_of_neg (by rw [h0]; simp)]
    exact find_at (by simpa using hk) (fun j hj => by have := hno (j + 1) (by omega); rwa [List.getD_cons_succ] at this) h
theorem find_no {p : Nat → Bool} {l : List Nat} (hno : ∀ j, j < l.length → p (l.getD j 0) = false) : l.find? p = none := by
  rw [List.find?_eq_none]
  intro x hx
  obtain ⟨j, hj, rfl⟩ := List.mem_iff_getElem.1 hx
  have := hno j hj
  rw [List.getD_eq_getElem?_getD, List.getElem?_eq_getElem hj] at this
  rw [show l[j] = (some l[j]).getD 0 from rfl, this]; simp
/-- The indices of the arcs from u. -/
def outN (rs : List (Int × Int × Int)) (u : Int) : List Nat := (List.range rs.length).filter (fun i => (arg rs i).1 == u)
theorem findA_out (rs : List (Int × Int × Int)) (u v : Int) : findA rs u v = match (outN rs u).find? (fun i => (arg rs i).2.1 == v) with | some i => (i : Int) | none => -1 := by
  unfold findA outN
  rw [List.find?_filter]
  have : (hit rs u v) = (fun i => (arg rs i).1 == u && (arg rs i).2.1 == v) := rfl
  rw [this]
  congr 1
  congr 1
  funext i
  cases h : ((arg rs i).1 == u) <;> cases h2 : ((arg rs i).2.1 == v) <;> simp_all
theorem outN_lt {rs : List (Int × Int × Int)} {u : Int} {j : Nat} (hj : j < (outN rs u).length) : (outN rs u).getD j 0 < rs.length := by
  have : (outN rs u).getD j 0 ∈ outN rs u := by rw [List.getD_eq_getElem?_getD, List.getElem?_eq_getElem hj]; exact List.getElem_mem hj
  unfold outN at this
  exact List.mem_range.1 (List.mem_filter.1 this).1
theorem outL_N (rs : List (Int × Int × Int)) (u : Int) : outL rs u rs.length = (outN rs u).map Int.ofNat := rfl
theorem zg_N (l : List Nat) (j : Nat) (hj : j < l.length) : zg (l.map Int.ofNat) j = ((l.getD j 0 : Nat) : Int) := by simp [zg, hj]

end Go.Proofs.Ytagaildnfbegkab
