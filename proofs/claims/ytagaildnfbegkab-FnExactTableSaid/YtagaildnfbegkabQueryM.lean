/-
  The least sum of two lists' numbers at one place, where both are there (mathematics).
-/
import Derived.Test.YtagaildnfbegkabClimbZ
namespace Go.Proofs.Ytagaildnfbegkab
open Go.RowKit Go.Deep

/-- The least sum at the first v places. -/
def qryL (u d : List Int) : Nat → Int
  | 0 => -1
  | v + 1 => if zg u v ≠ -1 ∧ zg d v ≠ -1 ∧ nrB (zg u v + zg d v) (qryL u d v) = true then zg u v + zg d v else qryL u d v
noncomputable def qryZ (zs : List Int) (rs : List A4) (s t : Int) : Int :=
  if clZ zs rs true s = [] ∨ clZ zs rs false t = [] then -1 else qryL (clZ zs rs true s) (clZ zs rs false t) zs.length
theorem qryL_on {u d : List Int} {v : Nat} (h1 : zg u v ≠ -1) (h2 : zg d v ≠ -1) (h3 : nrB (zg u v + zg d v) (qryL u d v) = true) : qryL u d (v + 1) = zg u v + zg d v := by
  show (if _ then _ else _) = _; rw [if_pos ⟨h1, h2, h3⟩]
theorem qryL_off {u d : List Int} {v : Nat} (h : zg u v = -1 ∨ zg d v = -1 ∨ nrB (zg u v + zg d v) (qryL u d v) = false) : qryL u d (v + 1) = qryL u d v := by
  show (if _ then _ else _) = _; rw [if_neg]; rintro ⟨a, b, c⟩; rcases h with h | h | h
  · exact a h
  · exact b h
  · rw [h] at c; cases c
/-- Two answers of one length, with their bounds, or one of them empty. -/
theorem two_cl (zs : List Int) (rs : List A4) (s t : Int) : (clZ zs rs true s = [] ∨ clZ zs rs false t = []) ∨
    ((clZ zs rs true s).length = zs.length ∧ (clZ zs rs false t).length = zs.length ∧ 0 < zs.length ∧ ∀ v, v < zs.length → (-1 ≤ zg (clZ zs rs true s) v ∧ zg (clZ zs rs true s) v ≤ (zs.length : Int) * 1000000) ∧ -1 ≤ zg (clZ zs rs false t) v ∧ zg (clZ zs rs false t) v ≤ (zs.length : Int) * 1000000) := by
  rcases clZ_nil_or zs rs true s with h | ⟨h1, h2, h3⟩
  · exact .inl (.inl h)
  rcases clZ_nil_or zs rs false t with k | ⟨k1, k2, k3⟩
  · exact .inl (.inr k)
  exact .inr ⟨h1, k1, h2, fun v hv => ⟨h3 v hv, k3 v hv⟩⟩

end Go.Proofs.Ytagaildnfbegkab
