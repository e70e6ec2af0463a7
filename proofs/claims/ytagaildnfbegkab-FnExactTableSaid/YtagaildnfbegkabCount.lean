/-
  Counting sort: where an index goes, and what the rows hold.
-/
import Derived.Test.YtagaildnfbegkabMem
namespace Go.Proofs.Ytagaildnfbegkab
open Go.RowKit

/-- How many of the first k keys are u; how many are less than u. -/
def cE (kf : Nat → Nat) (k u : Nat) : Nat := (List.range k).countP (fun i => decide (kf i = u))
def cL (kf : Nat → Nat) (m u : Nat) : Nat := (List.range m).countP (fun i => decide (kf i < u))
/-- Where the index i goes. -/
def pos (kf : Nat → Nat) (m i : Nat) : Nat := cL kf m (kf i) + cE kf i (kf i)
/-- The list after k indices have been placed. -/
def placed (kf : Nat → Nat) (m : Nat) : Nat → Nat → Int
  | 0, _ => 0
  | k + 1, j => if j = pos kf m k then (k : Int) else placed kf m k j

theorem cE_zero (kf : Nat → Nat) (u : Nat) : cE kf 0 u = 0 := rfl
theorem cE_succ (kf : Nat → Nat) (k u : Nat) : cE kf (k + 1) u = cE kf k u + (if kf k = u then 1 else 0) := by
  unfold cE; rw [List.range_succ, List.countP_append, List.countP_singleton]
  by_cases h : kf k = u <;> simp [h]
theorem cE_same (kf : Nat → Nat) (k : Nat) : cE kf (k + 1) (kf k) = cE kf k (kf k) + 1 := by rw [cE_succ, if_pos rfl]
theorem cE_other (kf : Nat → Nat) (k u : Nat) (h : kf k ≠ u) : cE kf (k + 1) u = cE kf k u := by rw [cE_succ, if_neg h, Nat.add_zero]
theorem cE_mono (kf : Nat → Nat) {k m : Nat} (h : k ≤ m) (u : Nat) : cE kf k u ≤ cE kf m u := by
  induction m with
  | zero => have : k = 0 := by omega
            subst this; exact Nat.le_refl _
  | succ m ih =>
    rcases Nat.lt_or_ge m k with h' | h'
    · have : k = m + 1 := by omega
      subst this; exact Nat.le_refl _
    · have := ih h'; rw [cE_succ]; omega
theorem cE_le (kf : Nat → Nat) (k u : Nat) : cE kf k u ≤ k := by have := List.countP_le_length (p := fun i => decide (kf i = u)) (l := List.range k); simpa [cE] using this
theorem cE_lt (kf : Nat → Nat) {k m : Nat} (h : k < m) : cE kf k (kf k) < cE kf m (kf k) := by
  have h1 := cE_same kf k
  have h2 := cE_mono kf (show k + 1 ≤ m from h) (kf k)
  omega
theorem cL_zero (kf : Nat → Nat) (m : Nat) : cL kf m 0 = 0 := by unfold cL; simp
theorem cL_succ (kf : Nat → Nat) (m u : Nat) : cL kf m (u + 1) = cL kf m u + cE kf m u := by
  unfold cL cE
  induction m with
  | zero => rfl
  | succ m ih =>
    rw [List.range_succ]
    simp only [List.countP_append, List.countP_singleton]
    rw [ih]
    by_cases h1 : kf m < u
    · simp [h1, show kf m < u + 1 by omega, show kf m ≠ u by omega]; omega
    · by_cases h2 : kf m = u
      · simp [h2]; omega
      · simp [h1, h2, show ¬ kf m < u + 1 by omega]
theorem cL_le (kf : Nat → Nat) (m u : Nat) : cL kf m u ≤ m := by have := List.countP_le_length (p := fun i => decide (kf i < u)) (l := List.range m); simpa [cL] using this
theorem cL_mono (kf : Nat → Nat) (m : Nat) {u v : Nat} (h : u ≤ v) : cL kf m u ≤ cL kf m v := by
  induction v with
  | zero => have : u = 0 := by omega
            subst this; exact Nat.le_refl _
  | succ v ih =>
    rcases Nat.lt_or_ge v u with h' | h'
    · have : u = v + 1 := by omega
      subst this; exact Nat.le_refl _
    · have := ih h'; rw [cL_succ]; omega
theorem cL_all (kf : Nat → Nat) (m n : Nat) (h : ∀ i, i < m → kf i < n) : cL kf m n = m := by
  have := List.countP_eq_length (p := fun i => decide (kf i < n)) (l := List.range m)
  simp only [List.length_range, List.mem_range, decide_eq_true_eq] at this
  exact this.2 h
theorem pos_lt (kf : Nat → Nat) {m i : Nat} (h : i < m) : pos kf m i < cL kf m (kf i + 1) := by
  unfold pos; rw [cL_succ]; have := cE_lt kf h; omega
theorem pos_lt' (kf : Nat → Nat) {m i : Nat} (h : i < m) : pos kf m i < m := Nat.lt_of_lt_of_le (pos_lt kf h) (cL_le kf m _)
theorem pos_ne (kf : Nat → Nat) {m i k : Nat} (h : i < k) (hk : k < m) : pos kf m i ≠ pos kf m k := by
  have hi := pos_lt kf (show i < m by omega)
  have hk' := pos_lt kf hk
  rcases Nat.lt_trichotomy (kf i) (kf k) with e | e | e
  · have := cL_mono kf m (show kf i + 1 ≤ kf k from e)
    unfold pos at *; omega
  · have h1 := cE_lt kf h
    unfold pos; rw [← e]; omega
  · have := cL_mono kf m (show kf k + 1 ≤ kf i from e)
    unfold pos at *; omega
theorem placed_at (kf : Nat → Nat) {m k i : Nat} (hk : k ≤ m) (hi : i < k) : placed kf m k (pos kf m i) = i := by
  induction k with
  | zero => omega
  | succ k ih =>
    rw [placed]
    by_cases e : i = k
    · subst e; rw [if_pos rfl]
    · rw [if_neg (pos_ne kf (show i < k by omega) (by omega)), ih (by omega) (by omega)]

/-- The indices of a row, ascending. -/
def rowL (kf : Nat → Nat) (u m : Nat) : List Nat := (List.range m).filter (fun i => decide (kf i = u))
theorem rowL_len (kf : Nat → Nat) (u m : Nat) : (rowL kf u m).length = cE kf m u := by unfold rowL cE; rw [List.countP_eq_length_filter]
theorem rowL_succ (kf : Nat → Nat) (u m : Nat) : rowL kf u (m + 1) = rowL kf u m ++ (if kf m = u then [m] else []) := by
  unfold rowL; rw [List.range_succ, List.filter_append]
  by_cases h : kf m = u <;> simp [h]
theorem rowL_get (kf : Nat → Nat) (u m : Nat) {j i : Nat} (h : (rowL kf u m)[j]? = some i) : i < m ∧ kf i = u ∧ cE kf i u = j := by
  induction m with
  | zero => simp [rowL] at h
  | succ m ih =>
    rw [rowL_succ] at h
    by_cases hj : j < (rowL kf u m).length
    · rw [List.getElem?_append_left hj] at h
      have := ih h
      exact ⟨by omega, this.2⟩
    · rw [List.getElem?_append_right (by omega)] at h
      by_cases e : kf m = u
      · rw [if_pos e] at h
        have hz : j - (rowL kf u m).length = 0 := by
          have := (List.getElem?_eq_some_iff.1 h).1
          simp at this; omega
        rw [hz] at h
        have hi : m = i := by simpa using h
        subst hi
        rw [rowL_len] at hz hj
        exact ⟨by omega, e, by omega⟩
      · rw [if_neg e] at h; simp at h
/-- What the finished list holds in the row of u. -/
theorem placed_row (kf : Nat → Nat) (m u : Nat) {j : Nat} (hj : j < cE kf m u) : ∃ i, (rowL kf u m)[j]? = some i ∧ placed kf m m (cL kf m u + j) = i := by
  have hl : j < (rowL kf u m).length := by rw [rowL_len]; exact hj
  refine ⟨(rowL kf u m)[j], List.getElem?_eq_getElem hl, ?_⟩
  obtain ⟨h1, h2, h3⟩ := rowL_get kf u m (List.getElem?_eq_getElem hl)
  have := placed_at kf (Nat.le_refl m) h1
  unfold pos at this
  rw [h2, h3] at this
  exact this
/-- Every place of the list lies in a row. -/
theorem place_row (kf : Nat → Nat) (m n : Nat) (h : ∀ i, i < m → kf i < n) {q : Nat} (hq : q < m) : ∃ u j, u < n ∧ j < cE kf m u ∧ q = cL kf m u + j := by
  have hall := cL_all kf m n h
  have h0 := cL_zero kf m
  suffices ∀ v, q < cL kf m v → ∃ u j, u < v ∧ j < cE kf m u ∧ q = cL kf m u + j from this n (by omega)
  intro v
  induction v with
  | zero => intro hv; omega
  | succ v ih =>
    intro hv
    by_cases hlt : q < cL kf m v
    · obtain ⟨u, j, h1, h2, h3⟩ := ih hlt; exact ⟨u, j, by omega, h2, h3⟩
    · rw [cL_succ] at hv
      exact ⟨v, q - cL kf m v, by omega, by omega, by omega⟩

end Go.Proofs.Ytagaildnfbegkab
