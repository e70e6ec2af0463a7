/-
  Queues: sorted by Key, then Id, with all Ids different.
-/
import Derived.Test.YtdobiapnkdgjoaaItemCmp
import Derived.Maps.OwnSet
namespace Go.Proofs.Ytdobiapnkdgjoaa
open Go.RowKit Go.Maps

def idg (q : List (Int × Int)) (i : Nat) : Int := (ptg q i).2
/-- The first k items of a queue are in order, their Ids different. -/
def QUp (q : List (Int × Int)) (k : Nat) : Prop := ∀ i, i < k → (0 < i → ltI (ptg q (i - 1)) (ptg q i)) ∧ ∀ j, j < i → idg q j ≠ idg q i
def QOk (q : List (Int × Int)) : Prop := QUp q q.length
noncomputable def qB (q : List (Int × Int)) : Bool := @decide (QOk q) (Classical.propDecidable _)
theorem qB_iff {q : List (Int × Int)} : qB q = true ↔ QOk q := by unfold qB; exact @decide_eq_true_iff _ (Classical.propDecidable _)
theorem qB_no {q : List (Int × Int)} (h : ¬ QOk q) : qB q = false := by cases e : qB q with
  | false => rfl
  | true => exact absurd (qB_iff.1 e) h
theorem QUp.step {q : List (Int × Int)} {k : Nat} (h : QUp q k) (h1 : 0 < k → ltI (ptg q (k - 1)) (ptg q k)) (h2 : ∀ j, j < k → idg q j ≠ idg q k) : QUp q (k + 1) := fun i hi => by
  rcases Nat.lt_or_ge i k with h' | h'
  · exact h i h'
  · obtain rfl : i = k := by omega
    exact ⟨h1, h2⟩
theorem q_unsorted {q : List (Int × Int)} {k : Nat} (hk : k + 1 < q.length) (h : ¬ ltI (ptg q k) (ptg q (k + 1))) : qB q = false := qB_no fun g => h ((g (k + 1) hk).1 (by omega))
theorem q_twice {q : List (Int × Int)} {j k : Nat} (hk : k < q.length) (hj : j < k) (h : idg q j = idg q k) : qB q = false := qB_no fun g => (g k hk).2 j hj h

/-- From k on no item is less than the one ahead of it. -/
def Dn (q : List (Int × Int)) (k : Nat) : Prop := ∀ j, k < j → j < q.length → ¬ ltI (ptg q j) (ptg q (j - 1))
noncomputable def sB (q : List (Int × Int)) : Bool := @decide (Dn q 0) (Classical.propDecidable _)
theorem sB_iff {q : List (Int × Int)} : sB q = true ↔ Dn q 0 := by unfold sB; exact @decide_eq_true_iff _ (Classical.propDecidable _)
theorem sB_no {q : List (Int × Int)} (h : ¬ Dn q 0) : sB q = false := by cases e : sB q with
  | false => rfl
  | true => exact absurd (sB_iff.1 e) h

/-- How many different Ids the first k items have. -/
def seenB (q : List (Int × Int)) (k : Nat) : Bool := (List.range k).any (fun j => idg q j == idg q k)
def cntU (q : List (Int × Int)) : Nat → Nat
  | 0 => 0
  | k + 1 => cntU q k + if seenB q k = true then 0 else 1
theorem seenB_iff {q : List (Int × Int)} {k : Nat} : seenB q k = true ↔ ∃ j, j < k ∧ idg q j = idg q k := by
  unfold seenB; rw [List.any_eq_true]
  exact ⟨fun ⟨j, h1, h2⟩ => ⟨j, List.mem_range.1 h1, by simpa using h2⟩, fun ⟨j, h1, h2⟩ => ⟨j, List.mem_range.2 h1, by simpa using h2⟩⟩
theorem cntU_le (q : List (Int × Int)) : ∀ k, cntU q k ≤ k
  | 0 => Nat.le_refl _
  | k + 1 => by rw [cntU]; have := cntU_le q k; split <;> omega
theorem cntU_all {q : List (Int × Int)} : ∀ {k}, cntU q k = k ↔ ∀ i, i < k → ∀ j, j < i → idg q j ≠ idg q i
  | 0 => by simp [cntU]
  | k + 1 => by
    rw [cntU]
    have hle := cntU_le q k
    constructor
    · intro h i hi j hj
      by_cases hs : seenB q k = true
      · rw [if_pos hs] at h; omega
      · rw [if_neg hs] at h
        rcases Nat.lt_or_ge i k with h' | h'
        · exact cntU_all.1 (by omega) i h' j hj
        · obtain rfl : i = k := by omega
          exact fun e => hs (seenB_iff.2 ⟨j, hj, e⟩)
    · intro h
      have hs : ¬ seenB q k = true := fun g => by obtain ⟨j, hj, e⟩ := seenB_iff.1 g; exact h k (by omega) j hj e
      rw [if_neg hs, cntU_all.2 (fun i hi => h i (by omega))]

theorem qB_eq (q : List (Int × Int)) : qB q = (sB q && decide (cntU q q.length = q.length)) := by
  rw [Bool.eq_iff_iff, Bool.and_eq_true, qB_iff, sB_iff, decide_eq_true_eq, cntU_all]
  constructor
  · intro h
    exact ⟨fun j hj hl g => ltI_irr _ (ltI_trans ((h j hl).1 hj) g), fun i hi => (h i hi).2⟩
  · rintro ⟨h1, h2⟩ i hi
    exact ⟨fun h0 => ltI_tri (h1 i h0 hi) (fun e => h2 i hi (i - 1) (by omega) (by unfold idg; rw [e])), h2 i hi⟩

/-- The key of an integer. -/
abbrev kI (x : Int) : Lit := .int .i64 x
theorem isKey_int (x : Int) : WideAt.IsKeyLit (kI x) := by trivial
theorem kI_ne {x y : Int} (h : x ≠ y) : kI x ≠ kI y := fun e => h (by injection e)

/-- What a map of the places of the first k items holds. -/
structure PlUp (q : List (Int × Int)) (k : Nat) (D : DataW Unit) : Prop where
  tidy : Tidy D
  size : Maps.size D = cntU q k
  has : ∀ x, Maps.has D (kI x) = true ↔ ∃ i, i < k ∧ idg q i = x
  at_ : ∀ i, i < k → (∀ j, i < j → j < k → idg q j ≠ idg q i) → ∀ z, D.atKey (kI (idg q i)) z = .lit (kI (i : Int))

theorem plUp_start (q : List (Int × Int)) : PlUp q 0 (.map []) := ⟨tidy_empty, rfl, fun x => ⟨fun h => by simp [Maps.has] at h, fun ⟨i, hi, _⟩ => by omega⟩, fun i hi => by omega⟩
theorem PlUp.step {q : List (Int × Int)} {k : Nat} {D : DataW Unit} (h : PlUp q k D) : PlUp q (k + 1) (D.put (kI (idg q k)) (.lit (kI (k : Int)))) := by
  have hm := h.tidy.isMap
  refine ⟨h.tidy.put (isKey_int _) _, ?_, fun x => ?_, fun i hi hn z => ?_⟩
  · rw [size_put h.tidy, cntU]
    by_cases hs : seenB q k = true
    · have : Maps.has D (kI (idg q k)) = true := (h.has _).2 (by obtain ⟨j, hj, e⟩ := seenB_iff.1 hs; exact ⟨j, hj, e⟩)
      rw [if_pos this, if_pos hs, h.size]; rfl
    · have : ¬ Maps.has D (kI (idg q k)) = true := fun g => hs (by obtain ⟨j, hj, e⟩ := (h.has _).1 g; exact seenB_iff.2 ⟨j, hj, e⟩)
      rw [if_neg this, if_neg hs, h.size]
  · by_cases e : x = idg q k
    · subst e
      rw [has_put_same hm (isKey_int _)]
      exact ⟨fun _ => ⟨k, by omega, rfl⟩, fun _ => rfl⟩
    · rw [has_put_other (kI_ne e), h.has]
      exact ⟨fun ⟨i, hi, g⟩ => ⟨i, by omega, g⟩, fun ⟨i, hi, g⟩ => by
        rcases Nat.lt_or_ge i k with h' | h'
        · exact ⟨i, h', g⟩
        · obtain rfl : i = k := by omega
          exact absurd g.symm e⟩
  · rcases Nat.lt_or_ge i k with h' | h'
    · rw [atKey_put_other (kI_ne (fun e => hn k h' (by omega) e.symm))]
      exact h.at_ i h' (fun j hj hl => hn j hj (by omega)) z
    · obtain rfl : i = k := by omega
      rw [atKey_put_same hm (isKey_int _)]

end Go.Proofs.Ytdobiapnkdgjoaa
