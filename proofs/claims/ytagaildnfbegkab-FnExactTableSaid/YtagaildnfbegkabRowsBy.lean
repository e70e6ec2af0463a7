/-
  What impl.fromOf, impl.toOf, slices.Clone, impl.rowsBy and impl.row compute: a counting sort.
-/
import Derived.Test.YtagaildnfbegkabNetOkI
import Derived.Test.YtagaildnfbegkabNetArcs
import Derived.Test.YtagaildnfbegkabCount
import Derived.Lib.Walk
import Derived.Lib.SliceRun
namespace Go.Proofs.Ytagaildnfbegkab
open Go.RowKit Go.Deep

/-- Block b holds four cells, and is known whole. -/
def Quad (w : World) (b : Nat) (t : TypeId) (x y z u : Value) : Prop := w.heap[b]? = some (.cells #[x, y, z, u] t (0, 0))
section
variable {w w' : World} {b c : Nat} {t : TypeId} {x y z u : Value}
theorem Quad.lt (h : Quad w b t x y z u) : b < w.heap.size := (Array.getElem?_eq_some_iff.1 h).1
theorem Quad.new (w : World) (t : TypeId) (x y z u : Value) : Quad (w.alloc (.cells #[x, y, z, u] t)) w.heap.size t x y z u := heap_alloc_new w _
theorem Quad.alloc (h : Quad w b t x y z u) (o : Obj) : Quad (w.alloc o) b t x y z u := (Below.heap_alloc w o b h.lt).trans h
theorem Quad.below (h : Quad w b t x y z u) (hb : Below w.heap.size w w') : Quad w' b t x y z u := (hb.block b h.lt).trans h
theorem Quad.far (h : Quad w b t x y z u) (hc : b ≠ c) (i : Nat) (v : Value) : Quad (w.setCell ⟨c, i, none⟩ v) b t x y z u := (Below.heap_setCell w ⟨c, i, none⟩ v b hc).trans h
theorem Quad.cells (h : Quad w b t x y z u) : (w.cell? ⟨b, 0, none⟩ = some x ∧ w.cell? ⟨b, 1, none⟩ = some y ∧ w.cell? ⟨b, 2, none⟩ = some z ∧ w.cell? ⟨b, 3, none⟩ = some u) ∧
    w.frozen? ⟨b, 0, none⟩ = false ∧ w.frozen? ⟨b, 1, none⟩ = false ∧ w.frozen? ⟨b, 2, none⟩ = false ∧ w.frozen? ⟨b, 3, none⟩ = false :=
  ⟨⟨by rw [cell_of_block h]; rfl, by rw [cell_of_block h]; rfl, by rw [cell_of_block h]; rfl, by rw [cell_of_block h]; rfl⟩, frozen_of_block h, frozen_of_block h, frozen_of_block h, frozen_of_block h⟩
end

/-- Block b holds the N numbers f. -/
def IRow (w : World) (b N : Nat) (f : Nat → Int) : Prop := OwnAt w b 3 0 N f
section
variable {w w' : World} {b c N : Nat} {f f' : Nat → Int}
theorem IRow.lt (h : IRow w b N f) : b < w.heap.size := OwnAt.lt h
theorem IRow.cell (h : IRow w b N f) {i : Nat} (hi : i < N) : w.cell? ⟨b, i, none⟩ = some (.int .i64 (f i)) := by have := OwnAt.cell h hi; rwa [Nat.zero_add] at this
theorem IRow.frozen (h : IRow w b N f) (i : Nat) : w.frozen? ⟨b, i, none⟩ = false := OwnAt.frozen h i
theorem IRow.set (h : IRow w b N f) (i : Nat) (x : Int) : IRow (w.setCell ⟨b, i, none⟩ (.int .i64 x)) b N (fun j => if j = i then x else f j) := by have := OwnAt.set h i x; rwa [Nat.zero_add] at this
theorem IRow.congr (h : IRow w b N f) (e : ∀ i, i < N → f i = f' i) : IRow w b N f' := OwnAt.congr h e
theorem IRow.below (h : IRow w b N f) (hb : Below w.heap.size w w') : IRow w' b N f := OwnAt.below h hb
theorem IRow.alloc (h : IRow w b N f) (o : Obj) : IRow (w.alloc o) b N f := OwnAt.of_block h (Below.heap_alloc w o b h.lt)
theorem IRow.far (h : IRow w b N f) (hc : b ≠ c) (i : Nat) (x : Value) : IRow (w.setCell ⟨c, i, none⟩ x) b N f := OwnAt.of_block h (Below.heap_setCell w ⟨c, i, none⟩ x b hc)
theorem IRow.made (w : World) (n : Nat) : IRow (w.alloc (.cells (madeCells #[.int .i64 0] n) 3)) w.heap.size n (fun _ => 0) :=
  ⟨_, heap_alloc_new w _, by rw [size_madeCells]; omega, fun i hi => by simp [madeCells, hi, Nat.mod_one]⟩
theorem IRow.own {base : Nat} {v : Value} {zs : List Int} (h : w.ownsRow base 3 1 v zs.length (zs.map (Value.int .i64))) (hv : v ≠ .slice none 0 0) : ∃ g cap, v = .slice (some ⟨g, 0, none⟩) zs.length cap ∧ base ≤ g ∧ IRow w g zs.length (zg zs) := by
  rcases h.2 with ⟨h1, -⟩ | ⟨g, cap, cur, h1, h2, h3, h4, h5, h6, h7⟩
  · exact absurd h1 hv
  · refine ⟨g, cap, h1, h2, cur, h3, by omega, fun i hi => ?_⟩
    have e : (cur.toList.take (zs.length * 1))[i]? = (zs.map (Value.int .i64))[i]? := by rw [h7]
    rw [List.getElem?_take, if_pos (by omega), Array.getElem?_toList] at e
    rw [Nat.zero_add, e]
    simp [hi, zg]
theorem IRow.ints {n : Nat} (h : IRow w b N f) {off : Nat} (hn : off + n ≤ N) : IntsAt w b off ((List.range n).map fun j => f (off + j)) := fun i hi => by
  have hi' : i < n := by simpa using hi
  rw [h.cell (show off + i < N by omega)]
  simp [zg, hi']
end

theorem ArcBox.far {w : World} {b c : Nat} {f t l : Int} (h : ArcBox w b f t l) (hc : c ≠ b) (i : Nat) (v : Value) : ArcBox (w.setCell ⟨c, i, none⟩ v) b f t l :=
  ⟨by rw [World.cell?_setCell_far _ _ _ _ (by simpa using hc)]; exact h.1, by rw [World.cell?_setCell_far _ _ _ _ (by simpa using hc)]; exact h.2.1, by rw [World.cell?_setCell_far _ _ _ _ (by simpa using hc)]; exact h.2.2⟩
/-- The counts while they are taken; while they are summed; the places while the list is filled. -/
def s1 (kf : Nat → Nat) (k j : Nat) : Nat := if j = 0 then 0 else cE kf k (j - 1)
def s2 (kf : Nat → Nat) (m v j : Nat) : Nat := if j ≤ v then cL kf m j else cE kf m (j - 1)
def s3 (kf : Nat → Nat) (m k u : Nat) : Nat := cL kf m u + cE kf k u
theorem s1_zero (kf : Nat → Nat) (j : Nat) : s1 kf 0 j = 0 := by unfold s1; split <;> rfl
theorem s1_step (kf : Nat → Nat) (k j : Nat) : (if j = kf k + 1 then s1 kf k (kf k + 1) + 1 else s1 kf k j) = s1 kf (k + 1) j := by
  unfold s1
  by_cases e : j = kf k + 1
  · subst e; rw [if_pos rfl, if_neg (by omega), if_neg (by omega), Nat.add_sub_cancel, cE_same]
  · rw [if_neg e]
    by_cases e0 : j = 0
    · rw [if_pos e0, if_pos e0]
    · rw [if_neg e0, if_neg e0, cE_other kf k (j - 1) (by omega)]
theorem s1_le (kf : Nat → Nat) (k j : Nat) : s1 kf k j ≤ k := by unfold s1; split; omega; exact cE_le _ _ _
theorem s2_zero (kf : Nat → Nat) (m j : Nat) : s1 kf m j = s2 kf m 0 j := by
  unfold s1 s2
  by_cases e : j = 0
  · subst e; rw [if_pos rfl, if_pos (Nat.le_refl _), cL_zero]
  · rw [if_neg e, if_neg (by omega)]
theorem s2_step (kf : Nat → Nat) (m v j : Nat) : (if j = v + 1 then s2 kf m v (v + 1) + s2 kf m v v else s2 kf m v j) = s2 kf m (v + 1) j := by
  unfold s2
  by_cases e : j = v + 1
  · subst e; rw [if_pos rfl, if_neg (by omega), if_pos (Nat.le_refl _), if_pos (Nat.le_refl _), Nat.add_sub_cancel, cL_succ]; omega
  · rw [if_neg e]
    by_cases h : j ≤ v
    · rw [if_pos h, if_pos (by omega)]
    · rw [if_neg h, if_neg (by omega)]
theorem s2_le (kf : Nat → Nat) (m v j : Nat) : s2 kf m v j ≤ m := by unfold s2; split; exact cL_le _ _ _; exact cE_le _ _ _
theorem s2_all (kf : Nat → Nat) (m n j : Nat) (h : j ≤ n) : s2 kf m n j = cL kf m j := by unfold s2; rw [if_pos h]
theorem s3_step (kf : Nat → Nat) (m k u : Nat) : (if u = kf k then s3 kf m k (kf k) + 1 else s3 kf m k u) = s3 kf m (k + 1) u := by
  unfold s3
  by_cases e : u = kf k
  · subst e; rw [if_pos rfl, cE_same]; omega
  · rw [if_neg e, cE_other kf k u (fun h => e h.symm)]
theorem placed_step (kf : Nat → Nat) (m k j : Nat) : (if j = s3 kf m k (kf k) then (k : Int) else placed kf m k j) = placed kf m (k + 1) j := rfl

/-- The rows that rowsBy hands back. -/
def RowsMade (w : World) (A B : Option Addr) (n ca m cb : Nat) (kf : Nat → Nat) (e : Ending) (w' : World) : Prop :=
  ∃ s L, e = .returned (.agg #[.slice A n ca, .slice B m cb, .slice (some ⟨s, 0, none⟩) (n + 1) (n + 1), .slice (some ⟨L, 0, none⟩) m m]) ∧ w.heap.size ≤ s ∧ w.heap.size ≤ L ∧
    IRow w' s (n + 1) (fun j => (cL kf m j : Nat)) ∧ IRow w' L m (placed kf m m) ∧ Below w.heap.size w w'
def kfF (rs : List (Int × Int × Int)) (i : Nat) : Nat := (arg rs i).1.toNat
def kfT (rs : List (Int × Int × Int)) (i : Nat) : Nat := (arg rs i).2.1.toNat

end Go.Proofs.Ytagaildnfbegkab
