/-
  What spec.l03Put computes: an arc put into arcs that rise.
-/
import Derived.Test.YtagaildnfbegkabRowsBy
import Derived.Test.YtagaildnfbegkabTurnMath
import Derived.Laws.AppendOwnNone
namespace Go.Proofs.Ytagaildnfbegkab
open Go.RowKit Go.Deep

/-- Arcs, points as cells. -/
def cellsA (l : List A3) : List Value := l.flatMap fun a => [.int .i64 a.1, .int .i64 a.2.1, .int .i64 a.2.2]
theorem cellsA_append (a b : List A3) : cellsA (a ++ b) = cellsA a ++ cellsA b := List.flatMap_append
theorem cellsA_len (l : List A3) : (cellsA l).length = l.length * 3 := by
  induction l with
  | nil => rfl
  | cons a r ih => unfold cellsA at *; simp only [List.flatMap_cons, List.length_append, List.length_cons, List.length_nil, ih]; omega
theorem arg_succ (a : A3) (r : List A3) (i : Nat) : arg (a :: r) (i + 1) = arg r i := by simp [arg]
theorem flatA_succ (a : A3) (r : List A3) (j : Nat) : flatA (a :: r) (j + 3) = flatA r j := by
  unfold flatA
  rw [show (j + 3) % 3 = j % 3 by omega, show (j + 3) / 3 = j / 3 + 1 by omega, arg_succ]
theorem cellsA_get : ∀ (l : List A3) (j : Nat), j < l.length * 3 → (cellsA l)[j]? = some (.int .i64 (flatA l j))
  | [], j, h => by simp at h
  | a :: r, 0, _ => by simp [cellsA, flatA, arg]
  | a :: r, 1, _ => by simp [cellsA, flatA, arg]
  | a :: r, 2, _ => by simp [cellsA, flatA, arg]
  | a :: r, j + 3, h => by
    rw [flatA_succ, ← cellsA_get r j (by simp at h; omega)]
    simp [cellsA]
theorem cellsA_one (l : List A3) : ∀ u ∈ cellsA l, u.oneCell' = true := by
  intro u hu
  unfold cellsA at hu
  obtain ⟨a, -, h⟩ := List.mem_flatMap.1 hu
  rcases List.mem_cons.1 h with rfl | h
  · rfl
  · rcases List.mem_cons.1 h with rfl | h
    · rfl
    · rcases List.mem_cons.1 h with rfl | h
      · rfl
      · cases h
/-- The cells of arcs that are read, from the s-th on. -/
theorem IsArcs.news {w : World} {b off : Nat} {rs : List A3} (h : IsArcs w (some ⟨b, off, none⟩) rs) (s m : Nat) (hm : s + m ≤ rs.length) : ∀ j u, (cellsA ((rs.drop s).take m))[j]? = some u → w.cell? ((⟨b, off + s * 3, none⟩ : Addr).add j) = some u := by
  intro j u hj
  have hlen : ((rs.drop s).take m).length = m := by rw [List.length_take, List.length_drop]; omega
  have hjn : j < m * 3 := by have := (List.getElem?_eq_some_iff.1 hj).1; rw [cellsA_len, hlen] at this; exact this
  rw [cellsA_get _ _ (by rw [hlen]; exact hjn)] at hj
  have e : arg ((rs.drop s).take m) (j / 3) = arg rs (s + j / 3) := by
    unfold arg
    rw [List.getD_eq_getElem?_getD, List.getElem?_take, if_pos (by omega), List.getElem?_drop, ← List.getD_eq_getElem?_getD]
  obtain ⟨b', off', hA, -, hc⟩ := h (by omega)
  injection hA with hA
  injection hA with hA1 hA2
  subst hA1 hA2
  obtain ⟨c0, c1, c2⟩ := hc (s + j / 3) (by omega)
  rw [← hj, Addr.add_lit]
  unfold flatA
  rw [e]
  rcases (show j % 3 = 0 ∨ j % 3 = 1 ∨ j % 3 = 2 by omega) with r | r | r
  · rw [if_pos r, ← c0, show off + s * 3 + j = off + (s + j / 3) * 3 by omega]
  · rw [if_neg (by omega), if_pos r, ← c1, show off + s * 3 + j = off + (s + j / 3) * 3 + 1 by omega]
  · rw [if_neg (by omega), if_neg (by omega), ← c2, show off + s * 3 + j = off + (s + j / 3) * 3 + 2 by omega]
/-- Arcs of the call's own read as arcs. -/
theorem ownA_is {w : World} {base : Nat} {v : Value} {rs : List A3} (h : w.ownsRow base 161 3 v rs.length (cellsA rs)) : ∃ A cap, v = .slice A rs.length cap ∧ rs.length ≤ cap ∧ cap ≤ maxLen ∧ (0 < rs.length → ∃ g, A = some ⟨g, 0, none⟩ ∧ base ≤ g ∧ OwnAt w g 161 0 (rs.length * 3) (flatA rs)) := by
  rcases h.2 with ⟨h1, h2⟩ | ⟨g, cap, cur, h1, h2, h3, h4, h5, h6, h7⟩
  · exact ⟨none, 0, by rw [h1, h2], by omega, Nat.zero_le _, fun hp => by omega⟩
  · refine ⟨_, cap, h1, h4, h5, fun _ => ⟨g, rfl, h2, cur, h3, by omega, fun i hi => ?_⟩⟩
    have e : (cur.toList.take (rs.length * 3))[i]? = (cellsA rs)[i]? := by rw [h7]
    rw [List.getElem?_take, if_pos hi, Array.getElem?_toList, cellsA_get _ _ hi] at e
    rw [Nat.zero_add, e]
theorem OwnAt.arcs {w : World} {g : Nat} {rs : List A3} (h : OwnAt w g 161 0 (rs.length * 3) (flatA rs)) : IsArcs w (some ⟨g, 0, none⟩) rs := fun _ =>
  ⟨g, 0, rfl, h.lt, fun i hi => ⟨by rw [h.cell (show i * 3 < _ by omega), flatA_0], by rw [show 0 + i * 3 + 1 = 0 + (i * 3 + 1) by omega, h.cell (show i * 3 + 1 < _ by omega), flatA_1], by rw [show 0 + i * 3 + 2 = 0 + (i * 3 + 2) by omega, h.cell (show i * 3 + 2 < _ by omega), flatA_2]⟩⟩

/-- Block b holds three cells, and is known whole. -/
def Trip (w : World) (b : Nat) (t : TypeId) (x y z : Value) : Prop := w.heap[b]? = some (.cells #[x, y, z] t (0, 0))
section
variable {w w' : World} {b c : Nat} {t : TypeId} {x y z : Value}
theorem Trip.lt (h : Trip w b t x y z) : b < w.heap.size := (Array.getElem?_eq_some_iff.1 h).1
theorem Trip.new (w : World) (t : TypeId) (x y z : Value) : Trip (w.alloc (.cells #[x, y, z] t)) w.heap.size t x y z := heap_alloc_new w _
theorem Trip.alloc (h : Trip w b t x y z) (o : Obj) : Trip (w.alloc o) b t x y z := (Below.heap_alloc w o b h.lt).trans h
theorem Trip.below (h : Trip w b t x y z) (hb : Below w.heap.size w w') : Trip w' b t x y z := (hb.block b h.lt).trans h
theorem Trip.far (h : Trip w b t x y z) (hc : b ≠ c) (i : Nat) (v : Value) : Trip (w.setCell ⟨c, i, none⟩ v) b t x y z := (Below.heap_setCell w ⟨c, i, none⟩ v b hc).trans h
theorem Trip.set2 (h : Trip w b t x y z) (v : Value) : Trip (w.setCell ⟨b, 2, none⟩ v) b t x y v := block_set v h
theorem Trip.grownUp {r : Option Nat} (h : Trip w b t x y z) (hg : w.grownBy w' r) (hr : ∀ g, r = some g → b < g) : Trip w' b t x y z := (hg.block b h.lt (fun e => by have := hr b e.symm; omega)).trans h
theorem Trip.cells (h : Trip w b t x y z) : w.cell? ⟨b, 0, none⟩ = some x ∧ w.cell? ⟨b, 1, none⟩ = some y ∧ w.cell? ⟨b, 2, none⟩ = some z ∧ w.frozen? ⟨b, 2, none⟩ = false :=
  ⟨by rw [cell_of_block h]; rfl, by rw [cell_of_block h]; rfl, by rw [cell_of_block h]; rfl, frozen_of_block h⟩
end
/-- What a comparison reads: an arc of the list, the arc at hand. -/
abbrev PutS (base : World) (b o : Nat) (x y z : Int) (c : Nat) (p q r : Int) (w : World) : Prop :=
  w.cell? ⟨b, o, none⟩ = some (.int .i64 x) ∧ w.cell? ⟨b, o + 1, none⟩ = some (.int .i64 y) ∧ w.cell? ⟨b, o + 2, none⟩ = some (.int .i64 z) ∧ w.cell? ⟨c, 0, none⟩ = some (.int .i64 p) ∧ w.cell? ⟨c, 1, none⟩ = some (.int .i64 q) ∧ w.cell? ⟨c, 2, none⟩ = some (.int .i64 r) ∧ Below base.heap.size base w
section
variable {base w w' : World} {b o : Nat} {x y z : Int} {c : Nat} {p q r : Int}
theorem PutS.under (hb : Below w.heap.size w w') (h : PutS base b o x y z c p q r w) : PutS base b o x y z c p q r w' :=
  ⟨cell_under hb h.1, cell_under hb h.2.1, cell_under hb h.2.2.1, cell_under hb h.2.2.2.1, cell_under hb h.2.2.2.2.1, cell_under hb h.2.2.2.2.2.1, h.2.2.2.2.2.2.trans (hb.mono h.2.2.2.2.2.2.size)⟩
theorem PutS.drew (h : PutS base b o x y z c p q r w) : PutS base b o x y z c p q r w.drew := ⟨h.1, h.2.1, h.2.2.1, h.2.2.2.1, h.2.2.2.2.1, h.2.2.2.2.2.1, h.2.2.2.2.2.2.drew⟩
end
/-- Numbers that two nodes of a network have. -/
def Small (a : A3) : Prop := 0 ≤ a.1 ∧ a.1 ≤ 1000 ∧ 0 ≤ a.2.1 ∧ a.2.1 ≤ 1000
theorem small_arg {rs : List A3} (h : ∀ x ∈ rs, Small x) {i : Nat} (hi : i < rs.length) : Small (arg rs i) := h _ (arg_mem hi)
/-- Arcs of the call's own. -/
def ArcsMade (w : World) (rs : List A3) (e : Ending) (w' : World) : Prop := ∃ v, e = .returned v ∧ w'.ownsRow w.heap.size 161 3 v rs.length (cellsA rs) ∧ Below w.heap.size w w'

theorem cells3_new (w : World) (a : A3) (t : TypeId) : ∀ j u, (cellsA [a])[j]? = some u → (w.alloc (.cells #[.int .i64 a.1, .int .i64 a.2.1, .int .i64 a.2.2] t)).cell? ((⟨w.heap.size, 0, none⟩ : Addr).add j) = some u := by
  intro j u hj
  obtain ⟨c0, c1, c2⟩ := arc_new w a.1 a.2.1 a.2.2 t
  have hlt : j < 3 := by have := (List.getElem?_eq_some_iff.1 hj).1; rw [cellsA_len] at this; simpa using this
  rw [Addr.add_lit]
  match j, hlt with
  | 0, _ => simp [cellsA] at hj; rw [← hj]; exact c0
  | 1, _ => simp [cellsA] at hj; rw [← hj]; exact c1
  | 2, _ => simp [cellsA] at hj; rw [← hj]; exact c2

theorem IsArcs.here {w : World} {b off : Nat} {rs : List A3} (h : IsArcs w (some ⟨b, off, none⟩) rs) {k : Nat} (hk : k < rs.length) :
    w.cell? ⟨b, off + k * 3, none⟩ = some (.int .i64 (arg rs k).1) ∧ w.cell? ⟨b, off + k * 3 + 1, none⟩ = some (.int .i64 (arg rs k).2.1) ∧ w.cell? ⟨b, off + k * 3 + 2, none⟩ = some (.int .i64 (arg rs k).2.2) := by
  obtain ⟨b', off', hA, -, hc⟩ := h (by omega)
  injection hA with hA
  injection hA with hA1 hA2
  subst hA1 hA2
  exact hc k hk
theorem ownsRow_eq {w : World} {base : Nat} {v : Value} {n n' : Nat} {xs xs' : List Value} (h : w.ownsRow (base + 1) 161 3 v n xs) (e : n = n') (e' : xs = xs') : w.ownsRow base 161 3 v n' xs' := by
  subst e e'; exact ownsRow_base h (by omega)

end Go.Proofs.Ytagaildnfbegkab
