/-
  Orders of the numbers ahead of n, and their ranks (mathematics).
-/
import Derived.Test.YtagaildnfbegkaaMarkM
import Derived.Sort.OwnSorted
namespace Go.Proofs.Ytagaildnfbegkaa
open Go.RowKit Go.Deep Go.Maps

def sortZ (zs : List Int) : List Int := zs.mergeSort fun x y => decide (x ≤ y)
theorem sortZ_perm (zs : List Int) : (sortZ zs).Perm zs := List.mergeSort_perm zs _
theorem sortZ_len (zs : List Int) : (sortZ zs).length = zs.length := (sortZ_perm zs).length_eq
theorem sortZ_asc (zs : List Int) : (sortZ zs).Pairwise (fun x y => x ≤ y) := by
  have h := List.pairwise_mergeSort (le := fun x y : Int => decide (x ≤ y)) (fun a b c h1 h2 => by simp only [decide_eq_true_eq] at *; omega) (fun a b => by simp only [Bool.or_eq_true, decide_eq_true_eq]; omega) zs
  exact h.imp (fun h => of_decide_eq_true h)
/-- Every number ahead of the length stands in the list just once. -/
def okZ (zs : List Int) : Prop := ∀ i, i < zs.length → (0 ≤ zg zs i ∧ zg zs i < (zs.length : Int)) ∧ ∀ j, j < i → zg zs j ≠ zg zs i
theorem zg_at {zs : List Int} {i : Nat} (h : i < zs.length) : zg zs i = zs[i] := by unfold zg; rw [List.getD_eq_getElem?_getD, List.getElem?_eq_getElem h]; rfl
theorem okZ_nodup {zs : List Int} (h : okZ zs) : zs.Nodup := by
  refine List.pairwise_iff_getElem.2 fun i j hi hj hij e => ?_
  have := (h j hj).2 i hij
  rw [zg_at hi, zg_at hj] at this
  exact this e
theorem okZ_in {zs : List Int} (h : okZ zs) {x : Int} (hx : x ∈ zs) : 0 ≤ x ∧ x < (zs.length : Int) := by
  obtain ⟨i, hi, rfl⟩ := List.getElem_of_mem hx
  have := (h i hi).1
  rw [zg_at hi] at this; exact this
theorem strict_low {L : List Int} (h : L.Pairwise (fun x y => x < y)) (h0 : ∀ x ∈ L, 0 ≤ x) : ∀ i (hi : i < L.length), (i : Int) ≤ L[i]
  | 0, hi => h0 _ (List.getElem_mem hi)
  | i + 1, hi => by
    have h1 := strict_low h h0 i (by omega)
    have h2 := List.pairwise_iff_getElem.1 h i (i + 1) (by omega) hi (by omega)
    omega
theorem strict_high {L : List Int} {n : Nat} (h : L.Pairwise (fun x y => x < y)) (h0 : ∀ x ∈ L, x < (n : Int)) (hn : L.length = n) : ∀ k i, i + k + 1 = n → (hi : i < L.length) → L[i] ≤ (i : Int)
  | 0, i, e, hi => by have := h0 _ (List.getElem_mem hi); omega
  | k + 1, i, e, hi => by
    have h1 := strict_high h h0 hn k (i + 1) (by omega) (by omega)
    have h2 := List.pairwise_iff_getElem.1 h i (i + 1) hi (by omega) (by omega)
    omega
theorem okZ_sorted {zs : List Int} : okZ zs ↔ ∀ i, i < zs.length → zg (sortZ zs) i = i := by
  constructor
  · intro h i hi
    have hs : (sortZ zs).Pairwise (fun x y => x < y) := by
      have h1 := sortZ_asc zs
      have h2 : (sortZ zs).Nodup := (sortZ_perm zs).nodup_iff.2 (okZ_nodup h)
      refine (List.pairwise_iff_getElem.2 fun a b ha hb hab => ?_)
      have q1 := List.pairwise_iff_getElem.1 h1 a b ha hb hab
      have q2 := List.pairwise_iff_getElem.1 h2 a b ha hb hab
      omega
    have hm : ∀ x ∈ sortZ zs, 0 ≤ x ∧ x < (zs.length : Int) := fun x hx => okZ_in h ((sortZ_perm zs).mem_iff.1 hx)
    have hl : i < (sortZ zs).length := by rw [sortZ_len]; exact hi
    rw [zg_at hl]
    have a := strict_low hs (fun x hx => (hm x hx).1) i hl
    have b := strict_high (n := zs.length) hs (fun x hx => (hm x hx).2) (sortZ_len zs) (zs.length - i - 1) i (by omega) hl
    omega
  · intro h
    have hm : ∀ x ∈ zs, ∃ i, i < zs.length ∧ x = (i : Int) := fun x hx => by
      obtain ⟨i, hi, rfl⟩ := List.getElem_of_mem ((sortZ_perm zs).mem_iff.2 hx)
      have hi' : i < zs.length := by rw [sortZ_len] at hi; exact hi
      have := h i hi'
      rw [zg_at hi] at this
      exact ⟨i, hi', this⟩
    have hnd : zs.Nodup := by
      refine (sortZ_perm zs).nodup_iff.1 (List.pairwise_iff_getElem.2 fun i j hi hj hij e => ?_)
      have a := h i (by rw [sortZ_len] at hi; exact hi)
      have b := h j (by rw [sortZ_len] at hj; exact hj)
      rw [zg_at hi] at a; rw [zg_at hj] at b
      omega
    intro i hi
    refine ⟨?_, fun j hj e => ?_⟩
    · rw [zg_at hi]
      obtain ⟨k, hk, e⟩ := hm _ (List.getElem_mem hi)
      omega
    · rw [zg_at hi, zg_at (show j < zs.length by omega)] at e
      exact List.pairwise_iff_getElem.1 hnd j i (by omega) hi hj e
/-- The index at which u stands last ahead of k, or d. -/
def rkF (d : Int) (zs : List Int) : Nat → Nat → Int
  | 0 => fun _ => d
  | k + 1 => fun u => if zg zs k = (u : Int) then (k : Int) else rkF d zs k u
theorem rkF_neg {zs : List Int} : ∀ {k u : Nat}, rkF (-1) zs k u = -1 ↔ ∀ j, j < k → zg zs j ≠ (u : Int)
  | 0, u => ⟨fun _ j hj => by omega, fun _ => rfl⟩
  | k + 1, u => by
    show (if zg zs k = (u : Int) then (k : Int) else rkF (-1) zs k u) = -1 ↔ _
    split
    · rename_i e
      exact ⟨fun h => by omega, fun h => absurd e (h k (by omega))⟩
    · rename_i e
      rw [rkF_neg]
      exact ⟨fun h j hj => by
        rcases Nat.lt_or_ge j k with q | q
        · exact h j q
        · obtain rfl : j = k := by omega
          exact e, fun h j hj => h j (by omega)⟩
theorem rkF_any {d d' : Int} {zs : List Int} : ∀ {k u : Nat}, (∃ j, j < k ∧ zg zs j = (u : Int)) → rkF d zs k u = rkF d' zs k u
  | 0, u, ⟨j, hj, _⟩ => by omega
  | k + 1, u, ⟨j, hj, e⟩ => by
    show (if zg zs k = (u : Int) then (k : Int) else rkF d zs k u) = (if zg zs k = (u : Int) then (k : Int) else rkF d' zs k u)
    split
    · rfl
    · rename_i ne
      refine rkF_any ⟨j, ?_, e⟩
      rcases Nat.lt_or_ge j k with q | q
      · exact q
      · obtain rfl : j = k := by omega
        exact absurd e ne
theorem okZ_all {zs : List Int} (h : okZ zs) {u : Nat} (hu : u < zs.length) : ∃ j, j < zs.length ∧ zg zs j = (u : Int) := by
  have hs := okZ_sorted.1 h u hu
  have hl : u < (sortZ zs).length := by rw [sortZ_len]; exact hu
  rw [zg_at hl] at hs
  obtain ⟨j, hj, e⟩ := List.getElem_of_mem ((sortZ_perm zs).mem_iff.1 (List.getElem_mem hl))
  exact ⟨j, hj, by rw [zg_at hj, e, hs]⟩
open Classical in
/-- What Ranked gives. -/
noncomputable def rkd (zs : List Int) (n : Int) : List Int := if n = zs.length ∧ okZ zs then rowZ zs.length (rkF 0 zs zs.length) else []
theorem rkd_no {zs : List Int} {n : Int} (h : n ≠ zs.length ∨ ¬ okZ zs) : rkd zs n = [] := by
  unfold rkd; rw [if_neg]; rintro ⟨a, b⟩; rcases h with h | h
  · exact h a
  · exact h b
theorem rkd_yes {zs : List Int} (h : okZ zs) : rkd zs zs.length = rowZ zs.length (rkF 0 zs zs.length) := by unfold rkd; rw [if_pos ⟨rfl, h⟩]
theorem rkd_len (zs : List Int) (n : Int) : (rkd zs n).length ≤ zs.length := by
  unfold rkd; split
  · rw [rowZ_len]; exact Nat.le_refl _
  · simp
end Go.Proofs.Ytagaildnfbegkaa
