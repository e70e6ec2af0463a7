/-
  Texts cut at a byte, and the numbers of a line: mathematics alone.
-/
import Derived.Test.YtjaifbbkfgfdeaaDoorLines
import Derived.Test.YtjaifbbkfgfdeaaDoorRead
import Derived.Lib.SplitLaws
import Derived.Lib.IndexBytes
namespace Go.Proofs.YtjaifbbkfgfdeaaDoor
open Go.RowKit Go.Deep

/-- A text cut at every c. -/
def splitL (c : UInt8) : List UInt8 → List (List UInt8)
  | [] => [[]]
  | b :: r => if b = c then [] :: splitL c r else match splitL c r with
    | [] => [[b]]
    | p :: ps => (b :: p) :: ps

theorem splitL_sep (c : UInt8) (a r : List UInt8) (h : ∀ b ∈ a, b ≠ c) : splitL c (a ++ c :: r) = a :: splitL c r := by
  induction a with
  | nil => simp [splitL]
  | cons b t ih => rw [List.cons_append, splitL, if_neg (h b (by simp)), ih fun x hx => h x (List.mem_cons_of_mem _ hx)]
theorem splitL_none (c : UInt8) (a : List UInt8) (h : ∀ b ∈ a, b ≠ c) : splitL c a = [a] := by
  induction a with
  | nil => simp [splitL]
  | cons b t ih => rw [splitL, if_neg (h b (by simp)), ih fun x hx => h x (List.mem_cons_of_mem _ hx)]
theorem splitL_len (c : UInt8) (s : List UInt8) : (splitL c s).length = s.count c + 1 := by
  induction s with
  | nil => simp [splitL]
  | cons b t ih =>
    rw [splitL]
    by_cases h : b = c
    · rw [if_pos h, List.length_cons, ih, h, List.count_cons_self]
    · rw [if_neg h, List.count_cons_of_ne (by simpa using h), ← ih]
      cases hs : splitL c t with
      | nil => rw [hs] at ih; simp at ih
      | cons p ps => simp
theorem splitL_le (c : UInt8) (s : List UInt8) : ∀ p ∈ splitL c s, p.length ≤ s.length := by
  induction s with
  | nil => simp [splitL]
  | cons b t ih =>
    intro p hp
    rw [splitL] at hp
    by_cases h : b = c
    · rw [if_pos h] at hp
      rcases List.mem_cons.1 hp with rfl | h'
      · simp
      · have := ih p h'; simp only [List.length_cons]; omega
    · rw [if_neg h] at hp
      cases hs : splitL c t with
      | nil => rw [hs] at hp; simp at hp; subst hp; simp
      | cons q qs =>
        rw [hs] at hp ih
        rcases List.mem_cons.1 hp with rfl | h'
        · have := ih q (by simp); simp only [List.length_cons]; omega
        · have := ih p (List.mem_cons_of_mem _ h'); simp only [List.length_cons]; omega

/-- The first c of a text. -/
theorem first_c (c : UInt8) (s : List UInt8) : (Lib.index s [c] = -1 ∧ ∀ b ∈ s, b ≠ c) ∨ ∃ a r, s = a ++ c :: r ∧ (∀ b ∈ a, b ≠ c) ∧ Lib.index s [c] = a.length := by
  induction s with
  | nil => left; exact ⟨by simp [Lib.index], by simp⟩
  | cons b t ih =>
    by_cases h : b = c
    · right
      subst h
      exact ⟨[], t, rfl, by simp, by rw [Lib.index]; simp [List.isPrefixOf]⟩
    · have hp : ([c] : List UInt8).isPrefixOf (b :: t) = false := by simp [List.isPrefixOf, Ne.symm h]
      have hix : Lib.index (b :: t) [c] = if Lib.index t [c] == -1 then -1 else Lib.index t [c] + 1 := by rw [Lib.index, hp]; simp
      rcases ih with ⟨h1, h2⟩ | ⟨a, r, h1, h2, h3⟩
      · left
        refine ⟨by rw [hix, h1]; rfl, ?_⟩
        intro x hx
        rcases List.mem_cons.1 hx with rfl | hx
        · exact h
        · exact h2 x hx
      · right
        refine ⟨b :: a, r, by rw [h1]; rfl, ?_, ?_⟩
        · intro x hx
          rcases List.mem_cons.1 hx with rfl | hx
          · exact h
          · exact h2 x hx
        · rw [hix, h3, if_neg (by rw [beq_iff_eq]; omega)]; simp

theorem splitK_one (c : UInt8) : ∀ (k : Nat) (s : List UInt8), s.count c = k → Lib.splitK [c] 0 k s = splitL c s
  | 0, s, h => by
    rw [splitL_none c s fun b hb e => by subst e; have := List.count_pos_iff.2 hb; omega]; rfl
  | k + 1, s, h => by
    rcases first_c c s with ⟨_, h2⟩ | ⟨a, r, h1, h2, h3⟩
    · have := List.count_eq_zero.2 fun hb => h2 c hb rfl
      omega
    · have hc : r.count c = k := by
        have ha : a.count c = 0 := List.count_eq_zero.2 fun hb => h2 c hb rfl
        rw [h1, List.count_append, List.count_cons_self] at h
        omega
      rw [Lib.splitK, if_neg (by rw [h3, beq_iff_eq]; omega), h3]
      have e1 : s.take ((a.length : Int).toNat + 0) = a := by rw [h1]; simp
      have e2 : s.drop ((a.length : Int).toNat + [c].length) = r := by rw [h1]; simp
      rw [e1, e2, splitK_one c k r hc, h1, splitL_sep c a r h2]

theorem cut_one (c : UInt8) (s : List UInt8) : ((∀ b ∈ s, b ≠ c) ∧ Lib.cut s [c] = (s, [], false)) ∨ ∃ a r, s = a ++ c :: r ∧ (∀ b ∈ a, b ≠ c) ∧ Lib.cut s [c] = (a, r, true) := by
  rcases first_c c s with ⟨h1, h2⟩ | ⟨a, r, h1, h2, h3⟩
  · left; exact ⟨h2, by rw [Lib.cut, if_neg (by omega)]⟩
  · right
    refine ⟨a, r, h1, h2, ?_⟩
    rw [Lib.cut, if_pos (by omega), h3, h1]
    simp

/-- The pieces that strings.Split lays. -/
theorem splitB_tx (c : UInt8) (s : List UInt8) : Lib.splitB (tx [c]) 0 (Lib.countB (tx s) (tx [c])) (tx s) = (splitL c s).map tx := by
  have hc : Lib.countB (tx s) (tx [c]) = s.count c := by
    have := Lib.count_one c s
    unfold Lib.countB
    rw [tx_data, tx_data]
    exact this
  have h := Lib.splitB_data (tx [c]) 0 (Lib.countB (tx s) (tx [c])) (tx s)
  rw [tx_data, tx_data, splitK_one c _ s hc.symm] at h
  have hi : ∀ l : List ByteArray, (l.map (·.data.toList)).map tx = l := by
    intro l
    induction l with
    | nil => rfl
    | cons x r ih => rw [List.map_cons, List.map_cons, ih]; congr 1
  rw [← h, hi]

end Go.Proofs.YtjaifbbkfgfdeaaDoor
