/-
  Arcs put in order one by one, and arcs in the order of their rows: one list.
-/
import Derived.Test.YtagaildnfbegkabNetSpec
import Derived.Test.YtagaildnfbegkabCount
namespace Go.Proofs.Ytagaildnfbegkab
open Go.RowKit

abbrev A3 := Int × Int × Int
/-- An arc reversed; an arc put into arcs that rise (of two of one way the shorter length stays). -/
def revA (a : A3) : A3 := (a.2.1, a.1, a.2.2)
def putA : List A3 → A3 → List A3
  | [], a => [a]
  | x :: r, a => if cmpA x a < 0 then x :: putA r a else if cmpA x a = 0 then (a.1, a.2.1, min a.2.2 x.2.2) :: r else a :: x :: r
/-- What the specification's Turned makes of the arcs. -/
def turnL (rs : List A3) : List A3 := rs.foldl (fun acc a => putA acc (revA a)) []

def Less (a b : A3) : Prop := a.1 < b.1 ∨ a.1 = b.1 ∧ a.2.1 < b.2.1
theorem less_iff {a b : A3} : Less a b ↔ arcLt a b = true := by unfold arcLt Less; rw [decide_eq_true_eq]
theorem less_cmp {a b : A3} : Less a b ↔ cmpA a b < 0 := by rw [cmpA_lt, less_iff]
theorem less_irr {a : A3} : ¬ Less a a := by unfold Less; omega
theorem less_trans {a b c : A3} (h1 : Less a b) (h2 : Less b c) : Less a c := by unfold Less at *; omega
theorem less_tri {a b : A3} (h : ¬ Less a b) (h' : cmpA a b ≠ 0) : Less b a := by
  unfold Less cmpA at *
  split at h' <;> omega

/-- Two lists that rise strictly and hold the same are one list. -/
theorem rise_ext : ∀ {l1 l2 : List A3}, l1.Pairwise Less → l2.Pairwise Less → (∀ x, x ∈ l1 ↔ x ∈ l2) → l1 = l2
  | [], [], _, _, _ => rfl
  | [], y :: r, _, _, h => absurd ((h y).2 (by simp)) (by simp)
  | x :: r, [], _, _, h => absurd ((h x).1 (by simp)) (by simp)
  | x :: r1, y :: r2, h1, h2, h => by
    rw [List.pairwise_cons] at h1 h2
    have hxy : x = y := by
      rcases List.mem_cons.1 ((h x).1 (by simp)) with e | e
      · exact e
      · rcases List.mem_cons.1 ((h y).2 (by simp)) with e' | e'
        · exact e'.symm
        · exact absurd (less_trans (h1.1 y e') (h2.1 x e)) less_irr
    subst hxy
    congr 1
    refine rise_ext h1.2 h2.2 fun z => ⟨fun hz => ?_, fun hz => ?_⟩
    · rcases List.mem_cons.1 ((h z).1 (List.mem_cons_of_mem _ hz)) with e | e
      · subst e; exact absurd (h1.1 z hz) less_irr
      · exact e
    · rcases List.mem_cons.1 ((h z).2 (List.mem_cons_of_mem _ hz)) with e | e
      · subst e; exact absurd (h2.1 z hz) less_irr
      · exact e

theorem putA_mem {l : List A3} {a : A3} (h : ∀ y ∈ l, cmpA y a ≠ 0) (x : A3) : x ∈ putA l a ↔ x = a ∨ x ∈ l := by
  induction l with
  | nil => simp [putA]
  | cons y r ih =>
    rw [putA]
    by_cases h1 : cmpA y a < 0
    · rw [if_pos h1, List.mem_cons, ih (fun z hz => h z (List.mem_cons_of_mem _ hz)), List.mem_cons]
      constructor <;> rintro (h | h | h) <;> simp [h]
    · rw [if_neg h1, if_neg (h y (by simp))]; simp
theorem putA_rise {l : List A3} {a : A3} (hl : l.Pairwise Less) (h : ∀ y ∈ l, cmpA y a ≠ 0) : (putA l a).Pairwise Less := by
  induction l with
  | nil => simp [putA]
  | cons y r ih =>
    rw [putA]
    have hl' := List.pairwise_cons.1 hl
    have h' : ∀ z ∈ r, cmpA z a ≠ 0 := fun z hz => h z (List.mem_cons_of_mem _ hz)
    by_cases h1 : cmpA y a < 0
    · rw [if_pos h1, List.pairwise_cons]
      refine ⟨fun z hz => ?_, ih hl'.2 h'⟩
      rcases (putA_mem h' z).1 hz with rfl | e
      · exact less_cmp.2 h1
      · exact hl'.1 z e
    · have hya : Less a y := less_tri (fun e => h1 (less_cmp.1 e)) (h y (by simp))
      rw [if_neg h1, if_neg (h y (by simp)), List.pairwise_cons]
      refine ⟨fun z hz => ?_, hl⟩
      rcases List.mem_cons.1 hz with rfl | e
      · exact hya
      · exact less_trans hya (hl'.1 z e)
theorem revA_rev (a : A3) : revA (revA a) = a := rfl
theorem cmpA_zero {a b : A3} (h : cmpA a b = 0) : a.1 = b.1 ∧ a.2.1 = b.2.1 := by
  unfold cmpA at h; split at h <;> omega

theorem turnL_snoc (rs : List A3) (a : A3) : turnL (rs ++ [a]) = putA (turnL rs) (revA a) := by unfold turnL; rw [List.foldl_append]; rfl
/-- The arcs of a list that rises, reversed and put in order: they rise, and they are those arcs. -/
theorem turnL_spec : ∀ {rs : List A3}, rs.Pairwise Less → (turnL rs).Pairwise Less ∧ ∀ x, x ∈ turnL rs ↔ revA x ∈ rs := by
  suffices ∀ n (rs : List A3), rs.length = n → rs.Pairwise Less → (turnL rs).Pairwise Less ∧ ∀ x, x ∈ turnL rs ↔ revA x ∈ rs from fun {rs} h => this _ rs rfl h
  intro n
  induction n with
  | zero => intro rs hl _; have := List.length_eq_zero_iff.1 hl; subst this; simp [turnL]
  | succ n ih =>
    intro rs hl hp
    have hne : rs ≠ [] := by intro e; subst e; simp at hl
    have hs := List.dropLast_concat_getLast hne
    rw [← hs] at hp ⊢
    obtain ⟨h1, -, h3⟩ := List.pairwise_append.1 hp
    obtain ⟨g1, g2⟩ := ih rs.dropLast (by simp [hl]) h1
    have hno : ∀ y ∈ turnL rs.dropLast, cmpA y (revA (rs.getLast hne)) ≠ 0 := by
      intro y hy e
      have := h3 _ ((g2 y).1 hy) (rs.getLast hne) (by simp)
      obtain ⟨e1, e2⟩ := cmpA_zero e
      unfold revA at *; unfold Less at this
      simp only at *; omega
    rw [turnL_snoc]
    refine ⟨putA_rise g1 hno, fun x => ?_⟩
    rw [putA_mem hno, g2, List.mem_append, List.mem_singleton]
    constructor
    · rintro (h | h)
      · subst h; right; rfl
      · left; exact h
    · rintro (h | h)
      · right; exact h
      · left; rw [← h]; rfl
theorem turnL_turnL {rs : List A3} (h : rs.Pairwise Less) : turnL (turnL rs) = rs := by
  obtain ⟨h1, h2⟩ := turnL_spec h
  obtain ⟨g1, g2⟩ := turnL_spec h1
  exact rise_ext g1 h fun x => by rw [g2, h2]; rfl

/-- The place at which an arc is put. -/
theorem putA_at : ∀ {l : List A3} {a : A3} {k : Nat}, k ≤ l.length → (∀ i, i < k → cmpA (arg l i) a < 0) → (k < l.length → ¬ cmpA (arg l k) a < 0) →
    putA l a = if k < l.length ∧ cmpA (arg l k) a = 0 then l.take k ++ [(a.1, a.2.1, min a.2.2 (arg l k).2.2)] ++ l.drop (k + 1) else l.take k ++ [a] ++ l.drop k := by
  intro l
  induction l with
  | nil => intro a k hk _ _; have : k = 0 := by simpa using hk
           subst this; simp [putA]
  | cons x r ih =>
    intro a k hk h1 h2
    rw [putA]
    cases k with
    | zero =>
      have hx : ¬ cmpA x a < 0 := by have := h2 (by simp); simpa [arg] using this
      rw [if_neg hx]
      by_cases e : cmpA x a = 0
      · rw [if_pos e, if_pos ⟨by simp, by simpa [arg] using e⟩]; simp [arg]
      · rw [if_neg e, if_neg (by simp [arg, e])]; simp
    | succ k =>
      have hx : cmpA x a < 0 := by have := h1 0 (by omega); simpa [arg] using this
      have hget : ∀ i, arg (x :: r) (i + 1) = arg r i := fun i => by simp [arg]
      rw [if_pos hx, ih (a := a) (k := k) (by simpa using hk) (fun i hi => by have := h1 (i + 1) (by omega); rwa [hget] at this) (fun hk' => by have := h2 (by simpa using hk'); rwa [hget] at this)]
      rw [hget]
      by_cases e : k < r.length ∧ cmpA (arg r k) a = 0
      · rw [if_pos e, if_pos ⟨by simpa using e.1, e.2⟩]; simp
      · rw [if_neg e, if_neg (fun h => e ⟨by simpa using h.1, h.2⟩)]; simp

/-- The order of the rows: what the place of an index says of its key. -/
theorem placed_inv (kf : Nat → Nat) (m n : Nat) (h : ∀ i, i < m → kf i < n) {q : Nat} (hq : q < m) : ∃ i, i < m ∧ placed kf m m q = i ∧ pos kf m i = q := by
  obtain ⟨u, j, -, hj, rfl⟩ := place_row kf m n h hq
  obtain ⟨i, hi, hp⟩ := placed_row kf m u hj
  obtain ⟨h1, h2, h3⟩ := rowL_get kf u m hi
  exact ⟨i, h1, hp, by unfold pos; rw [h2, h3]⟩
theorem pos_less (kf : Nat → Nat) {m i k : Nat} (hk : k < m) (h : pos kf m i < pos kf m k) : kf i < kf k ∨ kf i = kf k ∧ i < k := by
  rcases Nat.lt_trichotomy (kf i) (kf k) with e | e | e
  · exact .inl e
  · refine .inr ⟨e, ?_⟩
    rcases Nat.lt_trichotomy i k with e' | e' | e'
    · exact e'
    · subst e'; omega
    · have := cE_mono kf (Nat.le_of_lt e') (kf i)
      unfold pos at h; rw [e] at h this; omega
  · have h1 := pos_lt kf hk
    have h2 := cL_mono kf m (show kf k + 1 ≤ kf i from e)
    unfold pos at h h1; omega

/-- The reversed arcs in the order of the rows by To. -/
def rowTurn (rs : List A3) : List A3 := (List.range rs.length).map fun j => revA (arg rs (placed (fun i => (arg rs i).2.1.toNat) rs.length rs.length j).toNat)

theorem arg_mem {rs : List A3} {i : Nat} (h : i < rs.length) : arg rs i ∈ rs := by unfold arg; rw [List.getD_eq_getElem?_getD, List.getElem?_eq_getElem h]; exact List.getElem_mem h
theorem mem_arg {rs : List A3} {x : A3} (h : x ∈ rs) : ∃ i, i < rs.length ∧ arg rs i = x := by
  obtain ⟨i, hi, e⟩ := List.mem_iff_getElem.1 h
  exact ⟨i, hi, by unfold arg; rw [List.getD_eq_getElem?_getD, List.getElem?_eq_getElem hi]; exact e⟩
theorem rise_arg {rs : List A3} (h : rs.Pairwise Less) {i k : Nat} (hi : i < k) (hk : k < rs.length) : Less (arg rs i) (arg rs k) := by
  have := List.pairwise_iff_getElem.1 h i k (by omega) hk hi
  unfold arg; rw [List.getD_eq_getElem?_getD, List.getElem?_eq_getElem (by omega), List.getD_eq_getElem?_getD, List.getElem?_eq_getElem hk]; exact this

theorem rowTurn_eq {rs : List A3} {n : Nat} (h : rs.Pairwise Less) (hn : ∀ i, i < rs.length → 0 ≤ (arg rs i).2.1 ∧ (arg rs i).2.1 < n) : rowTurn rs = turnL rs := by
  have hk : ∀ i, i < rs.length → (fun i => (arg rs i).2.1.toNat) i < n := fun i hi => by have := hn i hi; simp only; omega
  obtain ⟨t1, t2⟩ := turnL_spec h
  refine rise_ext ?_ t1 fun x => ?_
  · unfold rowTurn
    rw [List.pairwise_map]
    refine List.Pairwise.imp_of_mem ?_ (List.pairwise_lt_range (n := rs.length))
    intro p q hp hq hpq
    have hp' := List.mem_range.1 hp
    have hq' := List.mem_range.1 hq
    obtain ⟨i, hi, ei, pi⟩ := placed_inv _ rs.length n hk hp'
    obtain ⟨k, hk', ek, pk⟩ := placed_inv _ rs.length n hk hq'
    rw [ei, ek]
    have := pos_less _ hk' (by rw [pi, pk]; exact hpq)
    have n1 := hn i hi
    have n2 := hn k hk'
    unfold revA Less
    simp only [Int.toNat_natCast]
    rcases this with e | ⟨e, e'⟩
    · left; omega
    · right
      have := rise_arg h e' hk'
      unfold Less at this
      omega
  · rw [t2]
    unfold rowTurn
    rw [List.mem_map]
    constructor
    · rintro ⟨j, hj, rfl⟩
      obtain ⟨i, hi, ei, -⟩ := placed_inv _ rs.length n hk (List.mem_range.1 hj)
      rw [ei, revA_rev]
      exact arg_mem (by simpa using hi)
    · intro hx
      obtain ⟨i, hi, e⟩ := mem_arg hx
      refine ⟨pos (fun i => (arg rs i).2.1.toNat) rs.length i, List.mem_range.2 (pos_lt' _ hi), ?_⟩
      rw [placed_at _ (Nat.le_refl _) hi, Int.toNat_natCast, e]; rfl

/-- The arcs of a valid network rise. -/
theorem netB_rise {ps : List (Int × Int)} {rs : List A3} (h : netB ps rs = true) : rs.Pairwise Less := by
  obtain ⟨-, -, -, h4⟩ := netB_iff.1 h
  have step : ∀ k i, i < k → k < rs.length → Less (arg rs i) (arg rs k) := by
    intro k
    induction k with
    | zero => intro i hi; omega
    | succ k ih =>
      intro i hi hk
      have hs : Less (arg rs k) (arg rs (k + 1)) := by
        rcases (h4 (k + 1) hk).2 with e | e
        · omega
        · rw [Nat.add_sub_cancel] at e; exact less_iff.2 e
      rcases Nat.lt_or_ge i k with e | e
      · exact less_trans (ih i e (by omega)) hs
      · have : i = k := by omega
        subst this; exact hs
  rw [List.pairwise_iff_getElem]
  intro i k hi hk hik
  have := step k i hik hk
  unfold arg at this
  rwa [List.getD_eq_getElem?_getD, List.getElem?_eq_getElem hi, List.getD_eq_getElem?_getD, List.getElem?_eq_getElem hk] at this
theorem netB_arc {ps : List (Int × Int)} {rs : List A3} (h : netB ps rs = true) {i : Nat} (hi : i < rs.length) : (0 ≤ (arg rs i).1 ∧ (arg rs i).1 < ps.length) ∧ (0 ≤ (arg rs i).2.1 ∧ (arg rs i).2.1 < ps.length) ∧ (arg rs i).1 ≠ (arg rs i).2.1 ∧ 1 ≤ (arg rs i).2.2 ∧ (arg rs i).2.2 ≤ 10000 := by
  obtain ⟨-, -, -, h4⟩ := netB_iff.1 h
  obtain ⟨g1, g2, g3, g4⟩ := arcB_parts.1 (h4 i hi).1
  have := btB_iff.1 g1
  have := btB_iff.1 g2
  have := btB_iff.1 g4
  exact ⟨by omega, by omega, by simpa using g3, by omega, by omega⟩

end Go.Proofs.Ytagaildnfbegkab
