/-
  The two tables for the law: at most 20 rows of at most 20 numbers.
-/
import Derived.Test.YtagaildnfbegkabTabSp2
namespace Go.Proofs.Ytagaildnfbegkab
open Go.RowKit Go.Deep Go.Maps

open Classical in
/-- The length of a table's rows; 0 where there are none. -/
noncomputable def tabW (zs : List Int) (rs : List A4) (fs ts : List Int) : Nat := if tabBad zs rs fs ts then 0 else ts.length
theorem tabN_20 (zs : List Int) (rs : List A4) (fs ts : List Int) : tabN zs rs fs ts ≤ 20 := by
  unfold tabN; split
  · omega
  · rename_i h
    rcases Nat.lt_or_ge 20 fs.length with q | q
    · exact absurd (.inl q) h
    · exact q
theorem tabW_20 (zs : List Int) (rs : List A4) (fs ts : List Int) : tabW zs rs fs ts ≤ 20 := by
  unfold tabW; split
  · omega
  · rename_i h
    rcases Nat.lt_or_ge 20 ts.length with q | q
    · exact absurd (.inr (.inl ⟨by omega, bksZ_long (by omega)⟩)) h
    · exact q
theorem tabMade_w {w w' : World} {zs : List Int} {rs : List A4} {fs ts : List Int} {e : Ending} (h : TabMade w (tabN zs rs fs ts) ts.length (tabF zs rs fs ts) e w') : TabMade w (tabN zs rs fs ts) (tabW zs rs fs ts) (tabF zs rs fs ts) e w' := by
  obtain ⟨R, cap, e1, h1, h2⟩ := h
  refine ⟨R, cap, e1, ?_, h2⟩
  by_cases hb : tabBad zs rs fs ts
  · rw [tabN_bad hb]; exact fun h => by omega
  · have : tabW zs rs fs ts = ts.length := by unfold tabW; rw [if_neg hb]
    rw [this]; exact h1

end Go.Proofs.Ytagaildnfbegkab
