/-
  What spec.l06Put computes: an item put into a list of items.
-/
import Derived.Test.YtdobiapnkdgjoaaHeapPut
namespace Go.Proofs.Ytdobiapnkdgjoaa
open Go.RowKit Go.Deep Go.Maps

/-- Whether an item with the Id of x and no greater Key is among the items. -/
def stopB (q : List (Int × Int)) (x : Int × Int) : Bool := q.any (fun p => decide (p.2 = x.2 ∧ p.1 ≤ x.1))
/-- The items with other Ids. -/
def restL (q : List (Int × Int)) (x : Int × Int) : List (Int × Int) := q.filter (fun p => decide (p.2 ≠ x.2))
/-- The place of x among items in order. -/
def place (r : List (Int × Int)) (x : Int × Int) : Nat := r.findIdx (fun p => !ltB p x)
def insL (r : List (Int × Int)) (x : Int × Int) : List (Int × Int) := r.take (place r x) ++ [x] ++ r.drop (place r x)
def putL (q : List (Int × Int)) (x : Int × Int) : List (Int × Int) := if stopB q x = true then q else insL (restL q x) x

theorem ptg_mem {q : List (Int × Int)} {i : Nat} (hi : i < q.length) : ptg q i ∈ q := by unfold ptg; rw [List.getD_eq_getElem?_getD, List.getElem?_eq_getElem hi]; exact List.getElem_mem hi
theorem ptg_get {q : List (Int × Int)} {i : Nat} (hi : i < q.length) : ptg q i = q[i] := by unfold ptg; simp [hi]
theorem take_snocI (q : List (Int × Int)) {k : Nat} (hk : k < q.length) : q.take (k + 1) = q.take k ++ [ptg q k] := by rw [List.take_succ_eq_append_getElem hk, ptg_get hk]
theorem restL_len (q : List (Int × Int)) (x : Int × Int) : (restL q x).length ≤ q.length := List.length_filter_le _ _
theorem restL_same {q : List (Int × Int)} {x : Int × Int} {k : Nat} (hk : k < q.length) (h : (ptg q k).2 = x.2) : restL (q.take (k + 1)) x = restL (q.take k) x := by
  rw [take_snocI q hk]; unfold restL; rw [List.filter_append]; simp [h]
theorem restL_more {q : List (Int × Int)} {x : Int × Int} {k : Nat} (hk : k < q.length) (h : (ptg q k).2 ≠ x.2) : restL (q.take (k + 1)) x = restL (q.take k) x ++ [ptg q k] := by
  rw [take_snocI q hk]; unfold restL; rw [List.filter_append]; simp [h]
theorem stopB_yes {q : List (Int × Int)} {x : Int × Int} {k : Nat} (hk : k < q.length) (h : (ptg q k).2 = x.2) (h2 : (ptg q k).1 ≤ x.1) : stopB q x = true := by
  unfold stopB; rw [List.any_eq_true]; exact ⟨_, ptg_mem hk, decide_eq_true ⟨h, h2⟩⟩
theorem stopB_no {q : List (Int × Int)} {x : Int × Int} (h : ∀ i, i < q.length → (ptg q i).2 = x.2 → ¬ (ptg q i).1 ≤ x.1) : stopB q x = false := by
  cases e : stopB q x with
  | false => rfl
  | true =>
    unfold stopB at e; rw [List.any_eq_true] at e
    obtain ⟨p, hp, hd⟩ := e
    obtain ⟨i, hi, rfl⟩ := List.getElem_of_mem hp
    have hd := of_decide_eq_true hd
    rw [← ptg_get hi] at hd
    exact absurd hd.2 (h i hi hd.1)
theorem place_le (r : List (Int × Int)) (x : Int × Int) : place r x ≤ r.length := List.findIdx_le_length
theorem place_is {r : List (Int × Int)} {x : Int × Int} {j : Nat} (hj : j ≤ r.length) (h1 : ∀ i, i < j → ltB (ptg r i) x = true) (h2 : j < r.length → ltB (ptg r j) x = false) : place r x = j := by
  unfold place
  rcases Nat.lt_or_ge j r.length with h | h
  · rw [List.findIdx_eq h]
    refine ⟨by rw [← ptg_get h, h2 h]; rfl, fun i hi => ?_⟩
    rw [← ptg_get (by omega), h1 i hi]; rfl
  · obtain rfl : j = r.length := by omega
    rw [List.findIdx_eq_length]
    intro p hp
    obtain ⟨i, hi, rfl⟩ := List.getElem_of_mem hp
    rw [← ptg_get hi, h1 i hi]; rfl

theorem isPts_take {w : World} {b off : Nat} {q : List (Int × Int)} (i : Nat) (h : IsPts w (some ⟨b, off, none⟩) q) : IsPts w (some ⟨b, off, none⟩) (q.take i) := fun hp => by
  rw [List.length_take] at hp
  obtain ⟨b', off', e, hb, hc⟩ := h (by omega)
  cases e
  refine ⟨b, off, rfl, hb, fun j hj => ?_⟩
  rw [List.length_take] at hj
  have e : ptg (q.take i) j = ptg q j := by unfold ptg; simp [List.getElem?_take, show j < i by omega]
  rw [e]; exact hc j (by omega)
theorem isPts_drop {w : World} {b off : Nat} {q : List (Int × Int)} (i : Nat) (h : IsPts w (some ⟨b, off, none⟩) q) : IsPts w (some ⟨b, off + i * 2, none⟩) (q.drop i) := fun hp => by
  rw [List.length_drop] at hp
  obtain ⟨b', off', e, hb, hc⟩ := h (by omega)
  cases e
  refine ⟨b, off + i * 2, rfl, hb, fun j hj => ?_⟩
  rw [List.length_drop] at hj
  have e : ptg (q.drop i) j = ptg q (i + j) := by unfold ptg; simp [List.getElem?_drop]
  rw [e]
  obtain ⟨h1, h2⟩ := hc (i + j) (by omega)
  rw [show off + (i + j) * 2 = off + i * 2 + j * 2 by omega] at h1 h2
  exact ⟨h1, h2⟩
theorem own_pts {w : World} {base g cap : Nat} {q : List (Int × Int)} (own : w.ownsRow base 45 2 (.slice (some ⟨g, 0, none⟩) q.length cap) q.length (cellsP q)) : IsPts w (some ⟨g, 0, none⟩) q := fun hp => by
  have hl := (World.ownsRow.lt own g rfl).2
  refine ⟨g, 0, rfl, hl, fun i hi => ?_⟩
  obtain ⟨h0, h1, -, -⟩ := row_cell own hi
  rw [Nat.zero_add]; exact ⟨h0, h1⟩

/-- What is at hand in the first loop. -/
def Pu1 (w : World) (q : List (Int × Int)) (x y : Int) (v5 : Value) (k : Nat) (wr : World) : Prop :=
  (∃ g cap, v5 = .slice (some ⟨g, 0, none⟩) (restL (q.take k) (x, y)).length cap) ∧ wr.ownsRow (w.heap.size + 1) 45 2 v5 (restL (q.take k) (x, y)).length (cellsP (restL (q.take k) (x, y))) ∧ Pair wr w.heap.size 45 (.int .i64 x) (.int .i64 y) ∧ (∀ i, i < k → (ptg q i).2 = y → ¬ (ptg q i).1 ≤ x) ∧ Below w.heap.size w wr

/-- The cells that the second loop reads. -/
abbrev At2 (b1 o1 b2 : Nat) (k1 d1 x y : Int) (w : World) : Prop := (w.cell? ⟨b1, o1, none⟩ = some (.int .i64 k1) ∧ w.cell? ⟨b1, o1 + 1, none⟩ = some (.int .i64 d1)) ∧ w.cell? ⟨b2, 0, none⟩ = some (.int .i64 x) ∧ w.cell? ⟨b2, 1, none⟩ = some (.int .i64 y)
theorem At2.under {b1 o1 b2 : Nat} {k1 d1 x y : Int} {w w' : World} (hb : Below w.heap.size w w') (h : At2 b1 o1 b2 k1 d1 x y w) : At2 b1 o1 b2 k1 d1 x y w' := ⟨⟨cell_under hb h.1.1, cell_under hb h.1.2⟩, cell_under hb h.2.1, cell_under hb h.2.2⟩
theorem At2.drew {b1 o1 b2 : Nat} {k1 d1 x y : Int} {w : World} (h : At2 b1 o1 b2 k1 d1 x y w) : At2 b1 o1 b2 k1 d1 x y w.drew := h

/-- The rest of l06Put: the three appends, at the place j. -/
theorem cat3 {w wr : World} {g cap : Nat} {r : List (Int × Int)} {x y : Int} {j : Nat} (hj : j ≤ r.length) (hn : r.length ≤ 2097152) (own : wr.ownsRow (w.heap.size + 1) 45 2 (.slice (some ⟨g, 0, none⟩) r.length cap) r.length (cellsP r)) (P : Pair wr w.heap.size 45 (.int .i64 x) (.int .i64 y)) (K : Below w.heap.size w wr) (ad : Addr) (cd : Nat) (hd : ∀ W, Below wr.heap.size wr W → IsPts W (some ad) (r.drop j)) :
    ∃ v1 w1 v2 w2 v3 w3, (Builtin.append_ #[43, 43] 43 #[.slice (some ⟨wr.heap.size, 0, none⟩) 0 0, .slice (some ⟨g, 0, none⟩) j cap]).run Try.prog (wr.alloc (.cells #[] 45)) = .ok v1 w1 ∧
      Pair w1 w.heap.size 45 (.int .i64 x) (.int .i64 y) ∧
      (Builtin.append_ #[43, 43] 43 #[v1, .slice (some ⟨w1.heap.size, 0, none⟩) 1 1]).run Try.prog (w1.alloc (.cells #[.int .i64 x, .int .i64 y] 45)) = .ok v2 w2 ∧
      (Builtin.append_ #[43, 43] 43 #[v2, .slice (some ad) (r.length - j) cd]).run Try.prog w2 = .ok v3 w3 ∧
      w3.ownsRow w.heap.size 45 2 v3 (r.take j ++ [(x, y)] ++ r.drop j).length (cellsP (r.take j ++ [(x, y)] ++ r.drop j)) ∧ Below w.heap.size w w3 := by
  have hPl := P.lt
  have kb0 := below1 wr (.cells #[] 45)
  have own0 := World.ownsRow_made (base := wr.heap.size) (size := 2) (e := 45) wr #[] 0 (Nat.le_refl _) (by decide) rfl
  have hlt : (r.take j).length = j := by rw [List.length_take]; omega
  obtain ⟨v1, w1, h1, o1, g1, -⟩ := run_append_items (ty := 43) _ _ _ _ own0 (some ⟨g, 0, none⟩) j cap (r.take j) hlt (isPts_take j ((own_pts own).below kb0)) (by omega) (by simp)
  have K1 : Below wr.heap.size wr w1 := kb0.grown g1 kb0.size (fun g e => (World.ownsRow.lt own0 g e).1)
  have kb1 := below1 w1 (.cells #[.int .i64 x, .int .i64 y] 45)
  obtain ⟨v2, w2, h2, o2, g2, -⟩ := run_append_items (ty := 43) _ _ _ _ (ownsRow_below o1 kb1) (some ⟨w1.heap.size, 0, none⟩) 1 1 [(x, y)] rfl (one_pts w1 x y) (by omega) (by rw [World.size_alloc]; have := K1.size; omega)
  have K2 : Below wr.heap.size wr w2 := (K1.trans (kb1.mono K1.size)).grown g2 (by rw [World.size_alloc]; have := K1.size; omega) (fun g e => (World.ownsRow.lt o1 g e).1)
  obtain ⟨v3, w3, h3, o3, g3, -⟩ := run_append_items (ty := 43) _ _ _ _ o2 (some ad) (r.length - j) cd (r.drop j) (by rw [List.length_drop]) (hd w2 K2) (by omega) K2.size
  have K3 : Below wr.heap.size wr w3 := K2.grown g3 K2.size (fun g e => (World.ownsRow.lt o2 g e).1)
  refine ⟨v1, w1, v2, w2, v3, w3, h1, P.below K1, h2, h3, ?_, K.trans (K3.mono K.size)⟩
  have e1 : (r.take j ++ [(x, y)] ++ r.drop j).length = 0 + j + 1 + (r.length - j) := by simp [hlt]; omega
  rw [e1, cellsP_append, cellsP_append]
  have := ownsRow_base o3 K.size
  simpa using this

end Go.Proofs.Ytdobiapnkdgjoaa
