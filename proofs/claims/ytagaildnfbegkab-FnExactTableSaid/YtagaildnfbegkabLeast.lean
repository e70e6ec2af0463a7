/-
  What impl.smallest, impl.Least, impl.limited, impl.Sat, spec.Least, spec.l01Cost and spec.Sat compute.
-/
import Derived.Test.YtagaildnfbegkabMem
import Derived.WalkKit
import Derived.ProofKit
import Derived.Lib.Hide
namespace Go.Proofs.Ytagaildnfbegkab
open Go.RowKit

/-- The smallest of a list, 0 for the empty one. -/
def lst : List Int → Int
  | [] => 0
  | z :: r => r.foldl min z

theorem lst_take_one (zs : List Int) (h : 0 < zs.length) : lst (zs.take 1) = zg zs 0 := by
  cases zs with
  | nil => simp at h
  | cons z r => simp [lst, zg]

theorem lst_take_succ (zs : List Int) (k : Nat) (h0 : 0 < k) (h : k < zs.length) : lst (zs.take (k + 1)) = min (lst (zs.take k)) (zg zs k) := by
  cases zs with
  | nil => simp at h
  | cons z r =>
    cases k with
    | zero => omega
    | succ k =>
      have h' : k < r.length := by simpa using h
      rw [List.take_succ_cons, List.take_succ_eq_append_getElem h', List.take_succ_cons]
      show (r.take k ++ [r[k]]).foldl min z = min ((r.take k).foldl min z) ((z :: r).getD (k + 1) 0)
      rw [List.foldl_append]; simp [h']

theorem lst_take_if (zs : List Int) (k : Nat) (h : k < zs.length) : (if zg zs k < lst (zs.take (max k 1)) then zg zs k else lst (zs.take (max k 1))) = lst (zs.take (max (k + 1) 1)) := by
  rcases Nat.eq_zero_or_pos k with rfl | hp
  · rw [show max 0 1 = 1 from rfl, show max (0 + 1) 1 = 1 from rfl, lst_take_one zs h]; simp
  · rw [Nat.max_eq_left (by omega), Nat.max_eq_left (by omega), lst_take_succ zs k hp h]
    split
    · rw [Int.min_eq_right (by omega)]
    · rw [Int.min_eq_left (by omega)]

/-- A cost limited to 0..MaxCost. -/
def lim (n : Int) : Int := max 0 (min 1000000000000 n)

theorem lst_two (a b : Int) : lst [a, b] = min a b := by simp [lst]

theorem intsAt_two (w : World) (a b : Int) (t : TypeId) : IntsAt (w.alloc (.cells #[.int .i64 a, .int .i64 b] t)) w.heap.size 0 [a, b] := by
  intro i hi
  match i, hi with
  | 0, _ => simp [zg]
  | 1, _ => simp [zg]

theorem lim_bd (n : Int) : 0 ≤ lim n ∧ lim n ≤ 1000000000000 := by unfold lim; omega

/-- The sum of two costs, limited. -/
def sat (a b : Int) : Int := lim (lim a + lim b)

theorem sat_comm (a b : Int) : sat a b = sat b a := by unfold sat lim; omega

theorem sat_laws (x y : Int) : 0 ≤ sat x y ∧ sat x y ≤ 1000000000000 ∧ (¬ x < 0 → ¬ 1000000000000 < x → x ≤ sat x y) := by unfold sat lim; omega

end Go.Proofs.Ytagaildnfbegkab
