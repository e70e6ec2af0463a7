/-
  What spec.l04Node and spec.l04From compute: distances by rounds of shortening.
-/
import Derived.Test.YtagaildnfbegkabDistMath
import Derived.Test.YtagaildnfbegkabNetImpl
import Derived.Deep.LoopGhost
import Derived.StillTailTactics
namespace Go.Proofs.Ytagaildnfbegkab
open Go.RowKit Go.Deep

/-- The row while it is filled. -/
theorem IRow.fill {w : World} {b N k : Nat} (h : IRow w b N (fun j => if j < k then -1 else 0)) : IRow (w.setCell ⟨b, k, none⟩ (.int .i64 (-1))) b N (fun j => if j < k + 1 then -1 else 0) :=
  (h.set k (-1)).congr fun j _ => by
    by_cases e : j = k
    · subst e; rw [if_pos rfl, if_pos (by omega)]
    · rw [if_neg e]
      by_cases h' : j < k
      · rw [if_pos h', if_pos (by omega)]
      · rw [if_neg h', if_neg (by omega)]
theorem IRow.first {w : World} {b N s : Nat} (h : IRow w b N (fun _ => -1)) (hs : s < N) : IRow (w.setCell ⟨b, s, none⟩ (.int .i64 0)) b N (zg (dst0 N s)) :=
  (h.set s 0).congr fun j hj => by
    rw [zg_dst0 N s j hs hj]
    by_cases e : j = s
    · subst e; simp
    · rw [if_neg e, if_neg (fun h => e h.symm)]
theorem IRow.put {w : World} {b N : Nat} {d : List Int} (h : IRow w b N (zg d)) (hd : d.length = N) (i : Nat) (hi : i < N) (x : Int) : IRow (w.setCell ⟨b, i, none⟩ (.int .i64 x)) b N (zg (d.set i x)) :=
  (h.set i x).congr fun j _ => by
    rw [zg_set d i j x (by omega)]
    by_cases e : j = i
    · subst e; simp
    · rw [if_neg e, if_neg (fun h => e h.symm)]
theorem irow_made {w w' : World} {b : Nat} {zs : List Int} {n : Nat} (hn : zs.length = n) (h : IRow w' b n (zg zs)) (hb : w.heap.size ≤ b) (K : Below w.heap.size w w') : IntsMade w zs (.returned (.slice (some ⟨b, 0, none⟩) n n)) w' :=
  ⟨some ⟨b, 0, none⟩, n, by rw [hn], by omega, fun _ => ⟨b, 0, rfl, hb, by rw [hn]; exact h⟩, K⟩

theorem IRow.drewN {w : World} {b N : Nat} {f : Nat → Int} (h : IRow w b N f) (n : Nat) : IRow (w.drewN n) b N f := OwnAt.of_block h rfl
theorem Pair.drewM {w : World} {b : Nat} {t : TypeId} {u v : Value} (h : Pair w b t u v) (n : Nat) : Pair (w.drewN n) b t u v := h
theorem bool_same {x y z : Bool} (h : x = (y || z)) (hz : z = false) : Value.bool (!y) = Value.bool (!x) := by rw [h, hz, Bool.or_false]
theorem bool_false {x y z : Bool} (h : x = (y || z)) (hz : z = true) : Value.bool false = Value.bool (!x) := by rw [h, hz, Bool.or_true]; rfl

end Go.Proofs.Ytagaildnfbegkab
