/-
  The numbers of a line's words, and the network of a text's lines: mathematics alone.
-/
import Derived.Test.YtjaifbbkfgfdeaaDoorReadMath
namespace Go.Proofs.YtjaifbbkfgfdeaaDoor
open Go.RowKit Go.Deep

open Classical in
/-- The number of a word. -/
noncomputable def readN (l : List UInt8) : Option Int := if h : ∃ n, ReadsAs n l then some (Classical.choose h) else none
theorem readN_some {n : Int} {l : List UInt8} (h : ReadsAs n l) : readN l = some n := by
  have hx : ∃ n, ReadsAs n l := ⟨n, h⟩
  unfold readN
  rw [dif_pos hx]
  exact congrArg some (itoa_inj ((Classical.choose_spec hx).2.2.trans h.2.2.symm))
theorem readN_none {l : List UInt8} (h : ∀ n, ¬ ReadsAs n l) : readN l = none := by
  unfold readN
  rw [dif_neg fun ⟨n, hn⟩ => h n hn]
theorem readN_in {n : Int} {l : List UInt8} (h : readN l = some n) : ReadsAs n l := by
  unfold readN at h
  by_cases hx : ∃ n, ReadsAs n l
  · rw [dif_pos hx] at h
    cases h
    exact Classical.choose_spec hx
  · rw [dif_neg hx] at h; cases h

/-- The numbers of words: none where one is no number. -/
noncomputable def readNs : List (List UInt8) → Option (List Int)
  | [] => some []
  | w :: r => match readN w, readNs r with
    | some z, some zs => some (z :: zs)
    | _, _ => none
theorem readNs_snoc (a : List (List UInt8)) (x : List UInt8) : readNs (a ++ [x]) = match readNs a, readN x with
    | some zs, some z => some (zs ++ [z])
    | _, _ => none := by
  induction a with
  | nil =>
    simp only [List.nil_append, readNs]
    cases readN x <;> rfl
  | cons w r ih =>
    simp only [List.cons_append, readNs, ih]
    cases readN w <;> cases readNs r <;> cases readN x <;> rfl
theorem readNs_len : ∀ (a : List (List UInt8)) (zs : List Int), readNs a = some zs → zs.length = a.length
  | [], zs, h => by cases h; rfl
  | w :: r, zs, h => by
    rw [readNs] at h
    cases hw : readN w with
    | none => rw [hw] at h; cases h
    | some z =>
      cases hr : readNs r with
      | none => rw [hw, hr] at h; cases h
      | some t =>
        rw [hw, hr] at h
        cases h
        rw [List.length_cons, List.length_cons, readNs_len r t hr]
/-- Where a word is no number, the words have none. -/
theorem readNs_stop {a b : List (List UInt8)} {x : List UInt8} (h : readN x = none) : readNs (a ++ x :: b) = none := by
  induction a with
  | nil => simp only [List.nil_append, readNs, h]
  | cons w r ih =>
    simp only [List.cons_append, readNs, ih]
    cases readN w <;> rfl

/-- The first word of a line and its numbers. -/
def headW (l : List UInt8) : List UInt8 := (splitL 32 l).headD []
def tailW (l : List UInt8) : List (List UInt8) := (splitL 32 l).tail
theorem split_ht (l : List UInt8) : splitL 32 l = headW l :: tailW l := by
  unfold headW tailW
  cases h : splitL 32 l with
  | nil => have := splitL_len 32 l; rw [h] at this; simp at this
  | cons p ps => rfl
/-- The numbers of a line that begins with a word and has so many. -/
noncomputable def lineIs (word : List UInt8) (many : Nat) (l : List UInt8) : Option (List Int) := if headW l = word ∧ (tailW l).length = many then readNs (tailW l) else none

end Go.Proofs.YtjaifbbkfgfdeaaDoor
