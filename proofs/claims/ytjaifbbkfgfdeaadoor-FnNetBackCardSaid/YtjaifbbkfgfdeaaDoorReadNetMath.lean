/-
  The network of a text: mathematics alone.
-/
import Derived.Test.YtjaifbbkfgfdeaaDoorLineMath
namespace Go.Proofs.YtjaifbbkfgfdeaaDoor
open Go.RowKit Go.Deep

/-- The words that begin a line. -/
def nodeW : List UInt8 := [110, 111, 100, 101]
def arcW : List UInt8 := [97, 114, 99]
/-- A network with the node or the arc of one more line. -/
noncomputable def addL (ps : List (Int × Int)) (rs : List (Int × Int × Int)) (l : List UInt8) : Option (List (Int × Int) × List (Int × Int × Int)) :=
  match (if rs.length = 0 then lineIs nodeW 2 l else none) with
  | some zs => some (ps ++ [(zs.getD 0 0, zs.getD 1 0)], rs)
  | none => match lineIs arcW 3 l with
    | some zs => some (ps, rs ++ [(zs.getD 0 0, zs.getD 1 0, zs.getD 2 0)])
    | none => none
/-- The pieces of a text read on from the piece of this number: the number of the line that is wrong, or the network. -/
noncomputable def readL : Nat → List (Int × Int) → List (Int × Int × Int) → List (List UInt8) → Sum Nat (List (Int × Int) × List (Int × Int × Int))
  | _, ps, rs, [] => .inr (ps, rs)
  | num, ps, rs, [l] => if l = [] then .inr (ps, rs) else .inl num
  | num, ps, rs, l :: m :: r => match addL ps rs l with
    | none => .inl num
    | some st => readL (num + 1) st.1 st.2 (m :: r)
theorem readL_end (num : Nat) (ps : List (Int × Int)) (rs : List (Int × Int × Int)) : readL num ps rs (splitL 10 []) = .inr (ps, rs) := by simp [splitL, readL]
theorem readL_miss (num : Nat) (ps : List (Int × Int)) (rs : List (Int × Int × Int)) (s : List UInt8) (h : ∀ b ∈ s, b ≠ 10) (hs : s ≠ []) : readL num ps rs (splitL 10 s) = .inl num := by
  rw [splitL_none 10 s h, readL, if_neg hs]
theorem readL_line (num : Nat) (ps : List (Int × Int)) (rs : List (Int × Int × Int)) (a r : List UInt8) (h : ∀ b ∈ a, b ≠ 10) : readL num ps rs (splitL 10 (a ++ 10 :: r)) = match addL ps rs a with
    | none => .inl num
    | some st => readL (num + 1) st.1 st.2 (splitL 10 r) := by
  rw [splitL_sep 10 a r h]
  cases hr : splitL 10 r with
  | nil => have := splitL_len 10 r; rw [hr] at this; simp at this
  | cons p q => rw [readL]
/-- A line cannot be a node's and an arc's. -/
theorem node_not_arc {l : List UInt8} {zs : List Int} (h : lineIs nodeW 2 l = some zs) : lineIs arcW 3 l = none := by
  unfold lineIs at *
  by_cases hn : headW l = nodeW ∧ (tailW l).length = 2
  · rw [if_neg fun h2 => by omega]
  · rw [if_neg hn] at h; cases h

end Go.Proofs.YtjaifbbkfgfdeaaDoor
