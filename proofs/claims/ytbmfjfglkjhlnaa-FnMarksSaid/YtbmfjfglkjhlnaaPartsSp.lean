/-
  What spec.Parts computes: the smallest node of each strongly connected component.
-/
import Derived.Test.YtbmfjfglkjhlnaaDistTop
import Derived.Maps.AppendAt
namespace Go.Proofs.Ytbmfjfglkjhlnaa
open Go.RowKit Go.Deep

/-- The components of the first k nodes. -/
def prtL (n : Nat) (rs : List A3) (k : Nat) : List Int := (List.range k).map (fun u => (prt n rs u : Int))
theorem prtL_len (n : Nat) (rs : List A3) (k : Nat) : (prtL n rs k).length = k := by unfold prtL; simp
theorem prtL_succ (n : Nat) (rs : List A3) (k : Nat) : prtL n rs (k + 1) = prtL n rs k ++ [(prt n rs k : Int)] := by unfold prtL; rw [List.range_succ, List.map_append]; rfl
theorem prts_yes {ps : List (Int × Int)} {rs : List A3} (h : netB ps rs = true) : prts ps rs = prtL ps.length rs ps.length := by unfold prts; rw [if_pos h]; rfl
theorem prts_no {ps : List (Int × Int)} {rs : List A3} (h : netB ps rs = false) : prts ps rs = [] := by unfold prts; rw [if_neg (by rw [h]; simp)]
theorem prts_len (ps : List (Int × Int)) (rs : List A3) : (prts ps rs).length ≤ ps.length := by
  unfold prts; split
  · simp
  · simp

/-- What is at hand at the head of the outer loop. -/
def PartRel (w wr : World) (A B : Option Addr) (n ca m cb : Nat) (rs : List A3) (v : Value) (k : Nat) : Prop :=
  wr.ownsRow (w.heap.size + 1) 3 1 v k ((prtL n rs k).map (Value.int .i64)) ∧ Pair wr w.heap.size 34 (.slice A n ca) (.slice B m cb) ∧ Below w.heap.size w wr

end Go.Proofs.Ytbmfjfglkjhlnaa
