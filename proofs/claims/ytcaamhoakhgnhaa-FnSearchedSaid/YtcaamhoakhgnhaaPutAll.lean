/-
  What spec.l06Put computes: an item put into a list of items. What spec.l06Put computes: its walk. What spec.QueuePut and impl.queueOf compute. A queue behind a put, in order, is what spec.l06Put computes. What the law of queues asks of a put: the queue is right, the item is there, the first is the least.
-/
import Derived.Test.YtcaamhoakhgnhaaHeapAll
namespace Go.Proofs.Ytcaamhoakhgnhaa
open Go.RowKit Go.Deep Go.Maps

/-- Whether an item with the Id of x and no greater Key is among the items. -/
def stopB (q : List (Int × Int)) (x : Int × Int) : Bool := q.any (fun p => decide (p.2 = x.2 ∧ p.1 ≤ x.1))
/-- The items with other Ids. -/
def restL (q : List (Int × Int)) (x : Int × Int) : List (Int × Int) := q.filter (fun p => decide (p.2 ≠ x.2))
/-- The place of x among items in order. -/
def place (r : List (Int × Int)) (x : Int × Int) : Nat := r.findIdx (fun p => !ltB p x)
def insL (r : List (Int × Int)) (x : Int × Int) : List (Int × Int) := r.take (place r x) ++ [x] ++ r.drop (place r x)
def putL (q : List (Int × Int)) (x : Int × Int) : List (Int × Int) := if stopB q x = true then q else insL (restL q x) x

theorem ptg_mem {q : List (Int × Int)} {i : Nat} (hi : i < q.length) : ptg q i ∈ q := by unfold ptg; rw [List.getD_eq_getElem?_getD, List.getElem?_eq_getElem hi]; exact List.getElem_mem hi
theorem ptg_get {q : List (Int × Int)} {i : Nat} (hi : i < q.length) : ptg q i = q[i] := by unfold ptg; simp [hi]
theorem take_snocI (q : List (Int × Int)) {k : Nat} (hk : k < q.length) : q.take (k + 1) = q.take k ++ [ptg q k] := by rw [List.take_succ_eq_append_getElem hk, ptg_get hk]
theorem restL_len (q : List (Int × Int)) (x : Int × Int) : (restL q x).length ≤ q.length := List.length_filter_le _ _
theorem restL_same {q : List (Int × Int)} {x : Int × Int} {k : Nat} (hk : k < q.length) (h : (ptg q k).2 = x.2) : restL (q.take (k + 1)) x = restL (q.take k) x := by
  rw [take_snocI q hk]; unfold restL; rw [List.filter_append]; simp [h]
theorem restL_more {q : List (Int × Int)} {x : Int × Int} {k : Nat} (hk : k < q.length) (h : (ptg q k).2 ≠ x.2) : restL (q.take (k + 1)) x = restL (q.take k) x ++ [ptg q k] := by
  rw [take_snocI q hk]; unfold restL; rw [List.filter_append]; simp [h]
theorem stopB_yes {q : List (Int × Int)} {x : Int × Int} {k : Nat} (hk : k < q.length) (h : (ptg q k).2 = x.2) (h2 : (ptg q k).1 ≤ x.1) : stopB q x = true := by
  unfold stopB; rw [List.any_eq_true]; exact ⟨_, ptg_mem hk, decide_eq_true ⟨h, h2⟩⟩
theorem stopB_no {q : List (Int × Int)} {x : Int × Int} (h : ∀ i, i < q.length → (ptg q i).2 = x.2 → ¬ (ptg q i).1 ≤ x.1) : stopB q x = false := by
  cases e : stopB q x with
  | false => rfl
  | true =>
    unfold stopB at e; rw [List.any_eq_true] at e
    obtain ⟨p, hp, hd⟩ := e
    obtain ⟨i, hi, rfl⟩ := List.getElem_of_mem hp
    have hd := of_decide_eq_true hd
    rw [← ptg_get hi] at hd
    exact absurd hd.2 (h i hi hd.1)
theorem place_le (r : List (Int × Int)) (x : Int × Int) : place r x ≤ r.length := List.findIdx_le_length
theorem place_is {r : List (Int × Int)} {x : Int × Int} {j : Nat} (hj : j ≤ r.length) (h1 : ∀ i, i < j → ltB (ptg r i) x = true) (h2 : j < r.length → ltB (ptg r j) x = false) : place r x = j := by
  unfold place
  rcases Nat.lt_or_ge j r.length with h | h
  · rw [List.findIdx_eq h]
    refine ⟨by rw [← ptg_get h, h2 h]; rfl, fun i hi => ?_⟩
    rw [← ptg_get (by omega), h1 i hi]; rfl
  · obtain rfl : j = r.length := by omega
    rw [List.findIdx_eq_length]
    intro p hp
    obtain ⟨i, hi, rfl⟩ := List.getElem_of_mem hp
    rw [← ptg_get hi, h1 i hi]; rfl

theorem isPts_take {w : World} {b off : Nat} {q : List (Int × Int)} (i : Nat) (h : IsPts w (some ⟨b, off, none⟩) q) : IsPts w (some ⟨b, off, none⟩) (q.take i) := fun hp => by
  rw [List.length_take] at hp
  obtain ⟨b', off', e, hb, hc⟩ := h (by omega)
  cases e
  refine ⟨b, off, rfl, hb, fun j hj => ?_⟩
  rw [List.length_take] at hj
  have e : ptg (q.take i) j = ptg q j := by unfold ptg; simp [show j < i by omega]
  rw [e]; exact hc j (by omega)
theorem isPts_drop {w : World} {b off : Nat} {q : List (Int × Int)} (i : Nat) (h : IsPts w (some ⟨b, off, none⟩) q) : IsPts w (some ⟨b, off + i * 2, none⟩) (q.drop i) := fun hp => by
  rw [List.length_drop] at hp
  obtain ⟨b', off', e, hb, hc⟩ := h (by omega)
  cases e
  refine ⟨b, off + i * 2, rfl, hb, fun j hj => ?_⟩
  rw [List.length_drop] at hj
  have e : ptg (q.drop i) j = ptg q (i + j) := by unfold ptg; simp [List.getElem?_drop]
  rw [e]
  obtain ⟨h1, h2⟩ := hc (i + j) (by omega)
  rw [show off + (i + j) * 2 = off + i * 2 + j * 2 by omega] at h1 h2
  exact ⟨h1, h2⟩
theorem own_ptsI {w : World} {base g cap : Nat} {q : List (Int × Int)} (own : w.ownsRow base 73 2 (.slice (some ⟨g, 0, none⟩) q.length cap) q.length (cellsP q)) : IsPts w (some ⟨g, 0, none⟩) q := fun hp => by
  have hl := (World.ownsRow.lt own g rfl).2
  refine ⟨g, 0, rfl, hl, fun i hi => ?_⟩
  obtain ⟨h0, h1, -, -⟩ := row_cell own hi
  rw [Nat.zero_add]; exact ⟨h0, h1⟩

/-- What is at hand in the first loop. -/
def Pu1 (w : World) (q : List (Int × Int)) (x y : Int) (v5 : Value) (k : Nat) (wr : World) : Prop :=
  (∃ g cap, v5 = .slice (some ⟨g, 0, none⟩) (restL (q.take k) (x, y)).length cap) ∧ wr.ownsRow (w.heap.size + 1) 73 2 v5 (restL (q.take k) (x, y)).length (cellsP (restL (q.take k) (x, y))) ∧ Pair wr w.heap.size 73 (.int .i64 x) (.int .i64 y) ∧ (∀ i, i < k → (ptg q i).2 = y → ¬ (ptg q i).1 ≤ x) ∧ Below w.heap.size w wr

/-- The cells that the second loop reads. -/
abbrev At2 (b1 o1 b2 : Nat) (k1 d1 x y : Int) (w : World) : Prop := (w.cell? ⟨b1, o1, none⟩ = some (.int .i64 k1) ∧ w.cell? ⟨b1, o1 + 1, none⟩ = some (.int .i64 d1)) ∧ w.cell? ⟨b2, 0, none⟩ = some (.int .i64 x) ∧ w.cell? ⟨b2, 1, none⟩ = some (.int .i64 y)
theorem At2.under {b1 o1 b2 : Nat} {k1 d1 x y : Int} {w w' : World} (hb : Below w.heap.size w w') (h : At2 b1 o1 b2 k1 d1 x y w) : At2 b1 o1 b2 k1 d1 x y w' := ⟨⟨cell_under hb h.1.1, cell_under hb h.1.2⟩, cell_under hb h.2.1, cell_under hb h.2.2⟩
theorem At2.drew {b1 o1 b2 : Nat} {k1 d1 x y : Int} {w : World} (h : At2 b1 o1 b2 k1 d1 x y w) : At2 b1 o1 b2 k1 d1 x y w.drew := h

/-- The rest of l06Put: the three appends, at the place j. -/
theorem cat3 {w wr : World} {g cap : Nat} {r : List (Int × Int)} {x y : Int} {j : Nat} (hj : j ≤ r.length) (hn : r.length ≤ 2097152) (own : wr.ownsRow (w.heap.size + 1) 73 2 (.slice (some ⟨g, 0, none⟩) r.length cap) r.length (cellsP r)) (P : Pair wr w.heap.size 73 (.int .i64 x) (.int .i64 y)) (K : Below w.heap.size w wr) (ad : Addr) (cd : Nat) (hd : ∀ W, Below wr.heap.size wr W → IsPts W (some ad) (r.drop j)) :
    ∃ v1 w1 v2 w2 v3 w3, (Builtin.append_ #[70, 70] 70 #[.slice (some ⟨wr.heap.size, 0, none⟩) 0 0, .slice (some ⟨g, 0, none⟩) j cap]).run Try.prog (wr.alloc (.cells #[] 73)) = .ok v1 w1 ∧
      Pair w1 w.heap.size 73 (.int .i64 x) (.int .i64 y) ∧
      (Builtin.append_ #[70, 70] 70 #[v1, .slice (some ⟨w1.heap.size, 0, none⟩) 1 1]).run Try.prog (w1.alloc (.cells #[.int .i64 x, .int .i64 y] 73)) = .ok v2 w2 ∧
      (Builtin.append_ #[70, 70] 70 #[v2, .slice (some ad) (r.length - j) cd]).run Try.prog w2 = .ok v3 w3 ∧
      w3.ownsRow w.heap.size 73 2 v3 (r.take j ++ [(x, y)] ++ r.drop j).length (cellsP (r.take j ++ [(x, y)] ++ r.drop j)) ∧ Below w.heap.size w w3 := by
  have hPl := P.lt
  have kb0 := below1 wr (.cells #[] 73)
  have own0 := World.ownsRow_made (base := wr.heap.size) (size := 2) (e := 73) wr #[] 0 (Nat.le_refl _) (by decide) rfl
  have hlt : (r.take j).length = j := by rw [List.length_take]; omega
  obtain ⟨v1, w1, h1, o1, g1, -⟩ := run_append_items (ty := 70) _ _ _ _ own0 (some ⟨g, 0, none⟩) j cap (r.take j) hlt (isPts_take j ((own_ptsI own).below kb0)) (by omega) (by simp)
  have K1 : Below wr.heap.size wr w1 := kb0.grown g1 kb0.size (fun g e => (World.ownsRow.lt own0 g e).1)
  have kb1 := below1 w1 (.cells #[.int .i64 x, .int .i64 y] 73)
  obtain ⟨v2, w2, h2, o2, g2, -⟩ := run_append_items (ty := 70) _ _ _ _ (ownsRow_below o1 kb1) (some ⟨w1.heap.size, 0, none⟩) 1 1 [(x, y)] rfl (one_pts w1 x y) (by omega) (by rw [World.size_alloc]; have := K1.size; omega)
  have K2 : Below wr.heap.size wr w2 := (K1.trans (kb1.mono K1.size)).grown g2 (by rw [World.size_alloc]; have := K1.size; omega) (fun g e => (World.ownsRow.lt o1 g e).1)
  obtain ⟨v3, w3, h3, o3, g3, -⟩ := run_append_items (ty := 70) _ _ _ _ o2 (some ad) (r.length - j) cd (r.drop j) (by rw [List.length_drop]) (hd w2 K2) (by omega) K2.size
  have K3 : Below wr.heap.size wr w3 := K2.grown g3 K2.size (fun g e => (World.ownsRow.lt o2 g e).1)
  refine ⟨v1, w1, v2, w2, v3, w3, h1, P.below K1, h2, h3, ?_, K.trans (K3.mono K.size)⟩
  have e1 : (r.take j ++ [(x, y)] ++ r.drop j).length = 0 + j + 1 + (r.length - j) := by simp [hlt]; omega
  rw [e1, cellsP_append, cellsP_append]
  have := ownsRow_base o3 K.size
  simpa using this

end Go.Proofs.Ytcaamhoakhgnhaa

namespace Go.Proofs.Ytcaamhoakhgnhaa
open Go.RowKit Go.Deep Go.Maps

/-- Items in a row of the call's own. -/
def PutOwn (w : World) (zs : List (Int × Int)) (e : Ending) (w' : World) : Prop := ∃ v, e = .returned v ∧ w'.ownsRow w.heap.size 73 2 v zs.length (cellsP zs) ∧ Below w.heap.size w w'

theorem putOwn_of {w w' : World} {q r : List (Int × Int)} {x y : Int} {j : Nat} {v : Value} (hs : stopB q (x, y) = false) (hr : restL q (x, y) = r) (hp : place r (x, y) = j)
    (own : w'.ownsRow w.heap.size 73 2 v (r.take j ++ [(x, y)] ++ r.drop j).length (cellsP (r.take j ++ [(x, y)] ++ r.drop j))) (K : Below w.heap.size w w') : PutOwn w (putL q (x, y)) (.returned v) w' := by
  have e : putL q (x, y) = r.take j ++ [(x, y)] ++ r.drop j := by unfold putL insL; rw [hs, hr, hp]; simp
  rw [e]; exact ⟨v, rfl, own, K⟩
theorem putOwn_same {w w' : World} {q : List (Int × Int)} {x y : Int} {v : Value} (hs : stopB q (x, y) = true) (own : w'.ownsRow w.heap.size 73 2 v q.length (cellsP q)) (K : Below w.heap.size w w') : PutOwn w (putL q (x, y)) (.returned v) w' := by
  have e : putL q (x, y) = q := by unfold putL; rw [hs]; simp
  rw [e]; exact ⟨v, rfl, own, K⟩

theorem Pu1.below {w wr wd : World} {q : List (Int × Int)} {x y : Int} {v : Value} {k : Nat} (h : Pu1 w q x y v k wr) (hb : Below wr.heap.size wr wd) : Pu1 w q x y v k wd := by
  obtain ⟨h1, h2, h3, h4, h5⟩ := h
  exact ⟨h1, ownsRow_below h2 hb, h3.below hb, h4, h5.trans (hb.mono h5.size)⟩
theorem pu1_start (w : World) (q : List (Int × Int)) (x y : Int) : Pu1 w q x y (.slice (some ⟨w.heap.size + 1, 0, none⟩) 0 0) 0 ((w.alloc (.cells #[.int .i64 x, .int .i64 y] 73)).alloc (.cells #[] 73)) := by
  have own0 := World.ownsRow_made (base := w.heap.size + 1) (size := 2) (e := 73) (w.alloc (.cells #[.int .i64 x, .int .i64 y] 73)) #[] 0 (by simp) (by decide) rfl
  rw [World.size_alloc] at own0
  exact ⟨⟨_, _, rfl⟩, own0, (Pair.new w _ _ _).alloc _, fun i hi => by omega, below2 w _ _⟩
theorem pu1_skip {w wr : World} {q : List (Int × Int)} {x y : Int} {v : Value} {k : Nat} (h : Pu1 w q x y v k wr) (hk : k < q.length) (he : (ptg q k).2 = y) (hle : ¬ (ptg q k).1 ≤ x) : Pu1 w q x y v (k + 1) wr := by
  obtain ⟨h1, h2, h3, h4, h5⟩ := h
  unfold Pu1
  rw [restL_same (x := (x, y)) hk he]
  refine ⟨h1, h2, h3, fun i hi => ?_, h5⟩
  rcases Nat.lt_or_ge i k with h' | h'
  · exact h4 i h'
  · obtain rfl : i = k := by omega
    exact fun _ => hle
/-- One item appended to the rest. -/
theorem pu1_more {w wr : World} {q : List (Int × Int)} {x y : Int} {v : Value} {k : Nat} (h : Pu1 w q x y v k wr) (hk : k < q.length) (hn : q.length ≤ 1048576) (he : (ptg q k).2 ≠ y) :
    ∃ v' w', (Builtin.append_ #[70, 70] 70 #[v, .slice (some ⟨wr.heap.size, 0, none⟩) 1 1]).run Try.prog (wr.alloc (.cells #[.int .i64 (ptg q k).1, .int .i64 (ptg q k).2] 73)) = .ok v' w' ∧ Pu1 w q x y v' (k + 1) w' := by
  obtain ⟨h1, h2, h3, h4, h5⟩ := h
  have hPl := h3.lt
  have hl : (restL (q.take k) (x, y)).length ≤ k := by have := restL_len (q.take k) (x, y); rw [List.length_take] at this; omega
  have kb := below1 wr (.cells #[.int .i64 (ptg q k).1, .int .i64 (ptg q k).2] 73)
  obtain ⟨v', w', hr, o', g', -⟩ := run_append_items (ty := 70) _ _ _ _ (ownsRow_below h2 kb) (some ⟨wr.heap.size, 0, none⟩) 1 1 [((ptg q k).1, (ptg q k).2)] rfl (one_pts wr _ _) (by omega) (by rw [World.size_alloc]; omega)
  refine ⟨v', w', hr, ?_⟩
  have hown : w'.ownsRow (w.heap.size + 1) 73 2 v' (restL (q.take (k + 1)) (x, y)).length (cellsP (restL (q.take (k + 1)) (x, y))) := by
    rw [restL_more (x := (x, y)) hk he, List.length_append, cellsP_append]; exact o'
  have hP : Pair w' w.heap.size 73 (.int .i64 x) (.int .i64 y) := (h3.alloc _).grown' (w := wr.alloc _) g' (fun g e => by have := (World.ownsRow.lt h2 g e).1; omega)
  have hK : Below w.heap.size w w' := (h5.trans (kb.mono h5.size)).grown g' (by rw [World.size_alloc]; omega) (fun g e => by have := (World.ownsRow.lt h2 g e).1; omega)
  refine ⟨?_, hown, hP, fun i hi => ?_, hK⟩
  · obtain ⟨A, cap, rfl, -, hA⟩ := ownI_is hown
    obtain ⟨g, rfl, -, -⟩ := hA (by rw [restL_more (x := (x, y)) hk he]; simp)
    exact ⟨g, cap, rfl⟩
  · rcases Nat.lt_or_ge i k with h' | h'
    · exact h4 i h'
    · obtain rfl : i = k := by omega
      exact fun h => absurd h he
/-- The whole queue anew. -/
theorem pu1_whole {w wr : World} {q : List (Int × Int)} {x y : Int} {v : Value} {k : Nat} (h : Pu1 w q x y v k wr) (hn : q.length ≤ 1048576) (A : Option Addr) (ca : Nat) (hA : IsPts w A q) :
    ∃ v' w', (Builtin.append_ #[70, 70] 70 #[.slice (some ⟨wr.heap.size, 0, none⟩) 0 0, .slice A q.length ca]).run Try.prog (wr.alloc (.cells #[] 73)) = .ok v' w' ∧ w'.ownsRow w.heap.size 73 2 v' q.length (cellsP q) ∧ Below w.heap.size w w' := by
  obtain ⟨-, -, h3, -, h5⟩ := h
  have kb := below1 wr (.cells #[] 73)
  have own0 := World.ownsRow_made (base := wr.heap.size) (size := 2) (e := 73) wr #[] 0 (Nat.le_refl _) (by decide) rfl
  obtain ⟨v', w', hr, o', g', -⟩ := run_append_items (ty := 70) _ _ _ _ own0 A q.length ca q rfl ((hA.below h5).below kb) (by omega) (by simp)
  exact ⟨v', w', hr, ownsRow_base (by simpa using o') h5.size, h5.trans ((kb.grown g' kb.size (fun g e => (World.ownsRow.lt own0 g e).1)).mono h5.size)⟩

/-- The cells that the second loop reads, and nothing older has turned. -/
abbrev At3 (w0 : World) (b1 o1 b2 : Nat) (k1 d1 x y : Int) (w : World) : Prop := w.cell? ⟨b1, o1, none⟩ = some (.int .i64 k1) ∧ w.cell? ⟨b1, o1 + 1, none⟩ = some (.int .i64 d1) ∧ w.cell? ⟨b2, 0, none⟩ = some (.int .i64 x) ∧ w.cell? ⟨b2, 1, none⟩ = some (.int .i64 y) ∧ Below w0.heap.size w0 w
theorem At3.under {w0 : World} {b1 o1 b2 : Nat} {k1 d1 x y : Int} {w w' : World} (hb : Below w.heap.size w w') (h : At3 w0 b1 o1 b2 k1 d1 x y w) : At3 w0 b1 o1 b2 k1 d1 x y w' := ⟨cell_under hb h.1, cell_under hb h.2.1, cell_under hb h.2.2.1, cell_under hb h.2.2.2.1, h.2.2.2.2.trans (hb.mono h.2.2.2.2.size)⟩
theorem At3.drew {w0 : World} {b1 o1 b2 : Nat} {k1 d1 x y : Int} {w : World} (h : At3 w0 b1 o1 b2 k1 d1 x y w) : At3 w0 b1 o1 b2 k1 d1 x y w.drew := ⟨h.1, h.2.1, h.2.2.1, h.2.2.2.1, h.2.2.2.2.drew⟩

set_option maxRecDepth 100000 in
set_option maxHeartbeats 4000000 in
theorem l06Put_any (A : Option Addr) (ca : Nat) (q : List (Int × Int)) (x y : Int) (w : World) (hn : q.length ≤ 1048576) (h : IsPts w A q) :
    Calls Try.prog 86 #[.slice A q.length ca, .agg #[.int .i64 x, .int .i64 y]] w (PutOwn w (putL q (x, y))) := by
  have U0 := pu1_start w q x y
  go_enter Try.func86, Try.ntmps86
  go_wp2_with fail
  go_loopw [5, 6] (fun v i wr => ∃ k : Nat, k ≤ q.length ∧ i = .int .i64 k ∧ Pu1 w q x y v k wr) (fun _ i _ => q.length - (intOf i).toNat)
  case atStart => exact ⟨0, by omega, rfl, U0⟩
  case round =>
    clear U0
    obtain ⟨k, hk, rfl, U⟩ := hrel
    by_cases hlt : k < q.length
    · obtain ⟨b, off, rfl, -, z1, z2⟩ := (h.below U.2.2.2.2).at_ (k := k) hlt
      obtain ⟨p0, p1, p2, p3⟩ := U.2.2.1.cells
      by_cases he : (ptg q k).2 = y
      · have he' : ((ptg q k).2 == y) = true := by simpa using he
        have HE := Lib.hid he
        by_cases hle : (ptg q k).1 ≤ x
        · have HS := Lib.hid (stopB_yes (x := (x, y)) hlt he hle)
          have HLE := Lib.hid hle
          have HU := Lib.hid U
          clear U he hle
          go_wp2_with fail
          go_quiet (fail)
          have Kd := below_drewN (Below.refl wr.heap.size wr) nq
          have U := HU.out.below Kd
          clear HU Kd z1 z2 p0 p1 p2 p3 he'
          generalize World.drewN wr nq = wd at U ⊢
          obtain ⟨b2, o2, e2, -, z1, z2⟩ := (h.below U.2.2.2.2).at_ (k := k) hlt
          cases e2
          obtain ⟨p0, p1, p2, p3⟩ := U.2.2.1.cells
          have hle := HLE.out
          have HU := Lib.hid U
          clear U
          go_wp2_with fail
          go_quiet (fail)
          have Kd := below_drewN (Below.refl wd.heap.size wd) nq
          have U := HU.out.below Kd
          clear HU Kd z1 z2 p0 p1 p2 p3 hle
          generalize World.drewN wd nq = we at U ⊢
          obtain ⟨v', w', hr, own', K'⟩ := pu1_whole U hn _ ca h
          clear U
          go_wp2_with (at_builtin; refine Lib.wpList_append_run _ rfl _ _ _ _ rfl _ _ rfl rfl _ _ hr ?_)
          go_ret
          exact putOwn_same HS.out own' K'
        · have HLE := Lib.hid hle
          have HU := Lib.hid U
          clear U he hle
          go_wp2_with fail
          go_quiet (fail)
          have Kd := below_drewN (Below.refl wr.heap.size wr) nq
          have U := HU.out.below Kd
          clear HU Kd z1 z2 p0 p1 p2 p3 he'
          generalize World.drewN wr nq = wd at U ⊢
          obtain ⟨b2, o2, e2, -, z1, z2⟩ := (h.below U.2.2.2.2).at_ (k := k) hlt
          cases e2
          obtain ⟨p0, p1, p2, p3⟩ := U.2.2.1.cells
          have hle : decide ((ptg q k).1 ≤ x) = false := decide_eq_false (by have := HLE.out; omega)
          have HU := Lib.hid U
          clear U
          go_wp2_with fail
          go_quiet (fail)
          have Kd := below_drewN (Below.refl wd.heap.size wd) nq
          have HU2 := Lib.hid (pu1_skip (HU.out.below Kd) hlt HE.out (by have := HLE.out; omega))
          clear HU Kd z1 z2 p0 p1 p2 p3
          go_wp2
          go_roundw
          case rel => exact ⟨k + 1, by omega, by go_num, HU2.out⟩
          case measure => simp [intOf]; omega
      · have he' : ((ptg q k).2 == y) = false := by simpa using he
        have HE := Lib.hid he
        have HU := Lib.hid U
        clear U he
        go_wp2_with fail
        go_quiet (fail)
        have Kd := below_drewN (Below.refl wr.heap.size wr) nq
        have U := HU.out.below Kd
        clear HU Kd z1 z2 p0 p1 p2 p3 he'
        generalize World.drewN wr nq = wd at U ⊢
        obtain ⟨b2, o2, e2, -, z1, z2⟩ := (h.below U.2.2.2.2).at_ (k := k) hlt
        cases e2
        obtain ⟨v', w', hr, U'⟩ := pu1_more U hlt hn HE.out
        have HU := Lib.hid U'
        clear U U'
        go_wp2_with (at_builtin; refine Lib.wpList_append_run _ rfl _ _ _ _ rfl _ _ rfl rfl _ _ hr ?_)
        go_roundw
        case rel => exact ⟨k + 1, by omega, by go_num, HU.out⟩
        case measure => simp [intOf]; omega
    · obtain rfl : k = q.length := by omega
      obtain ⟨⟨g, cap, e⟩, own0, P0, hno, K0⟩ := U
      rw [List.take_length] at e own0
      subst e
      have HS := Lib.hid (stopB_no (x := (x, y)) hno)
      have hl := restL_len q (x, y)
      obtain ⟨r, HR⟩ : ∃ r, Hid (restL q (x, y) = r) := ⟨_, Lib.hid rfl⟩
      rw [HR.out] at own0 hl ⊢
      have hcap : r.length ≤ cap := by obtain ⟨A, cap', e, h', -⟩ := ownI_is own0; cases e; exact h'
      have hPl := P0.lt
      clear hno hlt hk
      obtain ⟨wo, rfl⟩ : ∃ wo, wo = wr := ⟨_, rfl⟩
      go_wp2_with fail
      go_loopw [7] (fun i wr2 => ∃ j : Nat, j ≤ r.length ∧ i = .int .i64 j ∧ (∀ i, i < j → ltB (ptg r i) (x, y) = true) ∧ Below wo.heap.size wo wr2) (fun i _ => r.length - (intOf i).toNat)
      case atStart => exact ⟨0, by omega, rfl, fun i hi => by omega, Below.refl _ _⟩
      case round =>
        obtain ⟨j, hj, rfl, hbe, KJ⟩ := hrel
        by_cases hjr : j < r.length
        · obtain ⟨b1, o1, e1, -, z1, z2⟩ := ((own_ptsI own0).below KJ).at_ (k := j) hjr
          cases e1
          rw [Nat.zero_add] at z1 z2
          obtain ⟨p0, p1, -, -⟩ := (P0.below KJ).cells
          have T : At3 wo g (j * 2) w.heap.size (ptg r j).1 (ptg r j).2 x y _ := ⟨z1, z2, p0, p1, KJ⟩
          have hd0 : decide ((j : Int) < (r.length : Int)) = true := decide_eq_true (by omega)
          have hd1 : decide (j < r.length) = true := decide_eq_true hjr
          have hji : (j : Int) < r.length := by omega
          clear z1 z2 p0 p1 KJ
          by_cases hs : ltB (ptg r j) (x, y) = true
          · have hc : cmpI ((ptg r j).1, (ptg r j).2) (x, y) < 0 := of_decide_eq_true hs
            have HB := Lib.hid (show ∀ i, i < j + 1 → ltB (ptg r i) (x, y) = true from fun i hi => by
              rcases Nat.lt_or_ge i j with h' | h'
              · exact hbe i h'
              · obtain rfl : i = j := by omega
                exact hs)
            obtain ⟨c, HC⟩ : ∃ c, Hid (cmpI ((ptg r j).1, (ptg r j).2) (x, y) = c) := ⟨_, Lib.hid rfl⟩
            rw [HC.out] at hc
            have hc2 : decide (c < 0) = true := decide_eq_true hc
            clear hs hbe
            go_wp2_with fail
            go_region_held3 (fun w' => At3 wo g (j * 2) w.heap.size (ptg r j).1 (ptg r j).2 x y w')
              (first | exact At3.drew T | (refine At3.under (by assumption) ?_; assumption))
              ((go_at_call 104; refine (l06Cmp_any _ _ _ _ _).mono ?_; rw [HC.out]; rintro e w3 ⟨rfl, b3⟩))
            rename_i hU
            obtain ⟨-, -, -, -, KJ⟩ := hU
            clear T b3 HC hc hc2
            go_wp2
            go_roundw
            case rel => exact ⟨j + 1, by omega, by go_num, HB.out, KJ⟩
            case measure => simp [intOf]; omega
          · have hs' : ltB (ptg r j) (x, y) = false := by simpa using hs
            have HPL := Lib.hid (place_is hj hbe (fun _ => hs'))
            have hc : ¬ cmpI ((ptg r j).1, (ptg r j).2) (x, y) < 0 := of_decide_eq_false hs'
            obtain ⟨c, HC⟩ : ∃ c, Hid (cmpI ((ptg r j).1, (ptg r j).2) (x, y) = c) := ⟨_, Lib.hid rfl⟩
            rw [HC.out] at hc
            have hc2 : decide (c < 0) = false := decide_eq_false hc
            clear hs hs' hbe
            go_wp2_with fail
            go_region_held3 (fun w' => At3 wo g (j * 2) w.heap.size (ptg r j).1 (ptg r j).2 x y w')
              (first | exact At3.drew T | (refine At3.under (by assumption) ?_; assumption))
              ((go_at_call 104; refine (l06Cmp_any _ _ _ _ _).mono ?_; rw [HC.out]; rintro e w3 ⟨rfl, b3⟩))
            rename_i hU
            obtain ⟨-, -, -, -, KJ⟩ := hU
            clear T b3 HC hc hc2
            have own := ownsRow_below own0 KJ
            have P := P0.below KJ
            have KW := K0.trans (KJ.mono K0.size)
            clear own0 P0 K0 KJ
            obtain ⟨v1, w1, v2, w2, v3, w3, h1, P1, h2, h3, own3, K3⟩ := cat3 (w := w) (j := j) (by omega) (by omega) own P KW ⟨g, j * 2, none⟩ (cap - j) (fun W hW => by have := isPts_drop j ((own_ptsI own).below hW); rw [Nat.zero_add] at this; exact this)
            obtain ⟨r0, r1, r2, r3⟩ := P1.cells
            have HO := Lib.hid own3
            have HK := Lib.hid K3
            have hjc : (j : Int) ≤ cap := by omega
            have hjl : ¬ ((r.length : Int) < j) := by omega
            have hjr : j ≤ r.length := by omega
            have hjk : j ≤ cap := by omega
            clear own3 K3 own P P1 KW
            go_wp2_with (at_builtin; first | refine Lib.wpList_append_run _ rfl _ _ _ _ rfl _ _ rfl rfl _ _ h1 ?_ | refine Lib.wpList_append_run _ rfl _ _ _ _ rfl _ _ rfl rfl _ _ h2 ?_ | refine Lib.wpList_append_run _ rfl _ _ _ _ rfl _ _ rfl rfl _ _ h3 ?_)
            go_ret
            exact putOwn_of HS.out HR.out HPL.out HO.out HK.out
        · obtain rfl : j = r.length := by omega
          have HPL := Lib.hid (place_is hj hbe (fun h' => by omega))
          have hd0 : decide ((r.length : Int) < (r.length : Int)) = false := decide_eq_false (by omega)
          have hd1 : decide (r.length < r.length) = false := decide_eq_false (by omega)
          clear hbe
          go_wp2_with fail
          go_quiet (fail)
          replace KJ := below_drewN KJ nq
          generalize World.drewN wr nq = wd at KJ ⊢
          have own := ownsRow_below own0 KJ
          have P := P0.below KJ
          have KW := K0.trans (KJ.mono K0.size)
          clear own0 P0 K0 KJ
          by_cases hcj : r.length = cap
          · obtain ⟨v1, w1, v2, w2, v3, w3, h1, P1, h2, h3, own3, K3⟩ := cat3 (w := w) (j := r.length) (by omega) (by omega) own P KW ⟨g, 0, none⟩ 0 (fun W _ => by rw [List.drop_length]; exact fun hp => by simp at hp)
            rw [Nat.sub_self] at h3
            obtain ⟨r0, r1, r2, r3⟩ := P1.cells
            have HO := Lib.hid own3
            have HK := Lib.hid K3
            clear own3 K3 own P P1 KW
            subst hcj
            go_wp2_with (at_builtin; first | refine Lib.wpList_append_run _ rfl _ _ _ _ rfl _ _ rfl rfl _ _ h1 ?_ | refine Lib.wpList_append_run _ rfl _ _ _ _ rfl _ _ rfl rfl _ _ h2 ?_ | refine Lib.wpList_append_run _ rfl _ _ _ _ rfl _ _ rfl rfl _ _ h3 ?_)
            go_ret
            exact putOwn_of HS.out HR.out HPL.out HO.out HK.out
          · obtain ⟨v1, w1, v2, w2, v3, w3, h1, P1, h2, h3, own3, K3⟩ := cat3 (w := w) (j := r.length) (by omega) (by omega) own P KW ⟨g, r.length * 2, none⟩ (cap - r.length) (fun W _ => by rw [List.drop_length]; exact fun hp => by simp at hp)
            rw [Nat.sub_self] at h3
            obtain ⟨r0, r1, r2, r3⟩ := P1.cells
            have HO := Lib.hid own3
            have HK := Lib.hid K3
            have hjc : (r.length : Int) ≤ cap := by omega
            clear own3 K3 own P P1 KW
            go_wp2_with (at_builtin; first | refine Lib.wpList_append_run _ rfl _ _ _ _ rfl _ _ rfl rfl _ _ h1 ?_ | refine Lib.wpList_append_run _ rfl _ _ _ _ rfl _ _ rfl rfl _ _ h2 ?_ | refine Lib.wpList_append_run _ rfl _ _ _ _ rfl _ _ rfl rfl _ _ h3 ?_)
            go_ret
            exact putOwn_of HS.out HR.out HPL.out HO.out HK.out

end Go.Proofs.Ytcaamhoakhgnhaa

namespace Go.Proofs.Ytcaamhoakhgnhaa
open Go.RowKit Go.Deep Go.Maps

noncomputable def putR (q : List (Int × Int)) (x : Int × Int) : List (Int × Int) := if qB q = true then putL q x else []
/-- What QueuePut answers. -/
def PutRes (w : World) (q : List (Int × Int)) (x : Int × Int) (e : Ending) (w' : World) : Prop :=
  ∃ A cap, e = .returned (.tuple #[.slice A (putR q x).length cap, .bool (qB q)]) ∧ (putR q x).length ≤ cap ∧ OwnSl w' w.heap.size 73 A ((putR q x).length * 2) (flatP (putR q x)) ∧ Below w.heap.size w w'
theorem putRes_no {w w' : World} {q : List (Int × Int)} {x : Int × Int} (h : qB q = false) (A : Option Addr) (c : Nat) (K : Below w.heap.size w w') : PutRes w q x (.returned (.tuple #[.slice A 0 c, .bool false])) w' := by
  have e2 : putR q x = [] := by unfold putR; rw [h]; simp
  unfold PutRes
  rw [e2, h]
  exact ⟨A, c, rfl, Nat.zero_le _, fun hp => by simp at hp, K⟩
theorem putRes_yes {w w' : World} {q zs : List (Int × Int)} {x : Int × Int} {v : Value} (h : qB q = true) (hz : zs = putL q x) (own : w'.ownsRow w.heap.size 73 2 v zs.length (cellsP zs)) (K : Below w.heap.size w w') : PutRes w q x (.returned (.tuple #[v, .bool true])) w' := by
  have e2 : putR q x = zs := by unfold putR; rw [if_pos h, hz]
  unfold PutRes
  rw [e2, h]
  obtain ⟨A, cap, rfl, h1, h2⟩ := ownI_is own
  exact ⟨A, cap, rfl, h1, fun hp => by obtain ⟨g, e, hg, ho⟩ := h2 (by omega); exact ⟨g, 0, e, hg, ho⟩, K⟩

set_option maxRecDepth 100000 in
set_option maxHeartbeats 4000000 in
theorem queueOf_any (A : Option Addr) (ca : Nat) (q : List (Int × Int)) (w : World) (hn : q.length ≤ 1048576) (h : IsPts w A q) (hi64 : ∀ i, i < q.length → In64 (idg q i)) (hap : ∀ i, i < q.length → ∀ j, j < i → idg q j ≠ idg q i) :
    Calls Try.prog 79 #[.slice A q.length ca] w fun e w' => ∃ qa, e = .returned (.pointer (some ⟨qa, 0, none⟩)) ∧ QSt w' (fun b => b < w.heap.size) qa q ∧ Below w.heap.size w w' := by
  have HAP := Lib.hid hap
  have HI := Lib.hid hi64
  clear hap hi64
  go_enter Try.func79, Try.ntmps79
  go_wp2_with fail
  refine (cloneIts_any A q.length ca q _ rfl (by omega) h).mono ?_; rintro e w1 ⟨v, rfl, own, b1⟩
  go_wp2_with fail
  refine (placesOf_any A ca q _ (by omega) (h.below b1) HI.out).mono ?_; rintro e w2 ⟨B, D, rfl, hB, hm, hu, b2⟩
  replace own := ownsRow_below own b2
  have K := b1.trans (b2.mono b1.size)
  have kb := below1 w2 (.cells #[v, .map (some B)] 127)
  have X := Pair.new w2 127 v (.map (some B))
  replace own := ownsRow_below own kb
  replace hm := ownsMap_below hm kb
  have hk := K.size
  have hb1 := b1.size
  have HK := Lib.hid (K.trans (kb.mono K.size))
  have HQ : Hid (QSt (w2.alloc (.cells #[v, .map (some B)] 127)) (fun b => b < w.heap.size) w2.heap.size q) := Lib.hid ⟨v, B, D, X, ownsRow_base own (Nat.zero_le _), hm, plOf_up hu HAP.out, by omega, by omega, HI.out, fun g e => by have := (World.ownsRow.lt own g e).1; omega, fun b hb => by rw [World.size_alloc]; omega⟩
  obtain ⟨A1, c1, rfl, -, -⟩ := ownI_is own
  clear own hm hu X K kb b1 b2 h
  go_wp2
  go_ret
  exact ⟨_, rfl, HQ.out, HK.out⟩

end Go.Proofs.Ytcaamhoakhgnhaa

namespace Go.Proofs.Ytcaamhoakhgnhaa
open Go.RowKit Go.Deep Go.Maps

/-- Not greater. -/
def leI (a b : Int × Int) : Prop := ¬ ltI b a
theorem leI_anti {a b : Int × Int} (h1 : leI a b) (h2 : leI b a) : a = b := by
  unfold leI ltI at *
  exact Prod.ext (by omega) (by omega)
theorem qOk_lt {q : List (Int × Int)} (h : QOk q) : ∀ j i, i < j → j < q.length → ltI (ptg q i) (ptg q j) := fun j => by
  induction j with
  | zero => intro i hi; omega
  | succ j ih =>
    intro i hi hj
    have h1 := (h (j + 1) hj).1 (by omega)
    rw [Nat.add_sub_cancel] at h1
    rcases Nat.lt_or_ge i j with g | g
    · exact ltI_trans (ih i g (by omega)) h1
    · obtain rfl : i = j := by omega
      exact h1
theorem qOk_heap {q : List (Int × Int)} (h : QOk q) : HeapN q q.length := fun c c0 hc => ltI_asymm (qOk_lt h c _ (by omega) hc)
theorem qOk_pair {q : List (Int × Int)} (h : QOk q) : q.Pairwise ltI := by
  rw [List.pairwise_iff_getElem]
  intro i j hi hj hij
  rw [← ptg_get hi, ← ptg_get hj]; exact qOk_lt h j i hij hj
theorem asc_pair {q : List (Int × Int)} (h : Asc q) : q.Pairwise leI := by
  rw [List.pairwise_iff_getElem]
  intro i j hi hj hij
  rw [← ptg_get hi, ← ptg_get hj]; exact h i j hij hj
theorem pair_le {q : List (Int × Int)} (h : q.Pairwise ltI) : q.Pairwise leI := h.imp (fun g => ltI_asymm g)

theorem insL_perm (r : List (Int × Int)) (x : Int × Int) : (insL r x).Perm (x :: r) := by
  unfold insL
  have := @List.perm_middle _ x (r.take (place r x)) (r.drop (place r x))
  rw [List.take_append_drop] at this
  simpa using this
theorem insL_pair {r : List (Int × Int)} {x : Int × Int} (h : r.Pairwise ltI) : (insL r x).Pairwise leI := by
  unfold insL
  have h1 : ∀ a ∈ r.take (place r x), ltI a x := fun a ha => by
    obtain ⟨i, hi, rfl⟩ := List.getElem_of_mem ha
    rw [List.length_take] at hi
    rw [List.getElem_take]
    have hp := List.not_of_lt_findIdx (p := fun p => !ltB p x) (xs := r) (i := i) (by unfold place at hi; omega)
    have hp' : ltB (r[i]'(by omega)) x = true := by simpa using hp
    exact ltB_iff.1 hp'
  have h2 : ∀ b ∈ r.drop (place r x), leI x b := fun b hb => by
    obtain ⟨i, hi, rfl⟩ := List.getElem_of_mem hb
    rw [List.length_drop] at hi
    rw [List.getElem_drop]
    have hw : place r x < r.length := by omega
    have hp := List.findIdx_getElem (p := fun p => !ltB p x) (xs := r) (w := hw)
    have hp' : ¬ ltI (r[place r x]'hw) x := fun g => by
      have := ltB_iff.2 g
      unfold place at this
      simp [this] at hp
    intro g
    rcases Nat.eq_zero_or_pos i with h0 | h0
    · subst h0; exact hp' g
    · exact hp' (ltI_trans ((List.pairwise_iff_getElem.1 h) _ _ hw (by omega) (by omega)) g)
  have hl := pair_le h
  rw [← List.take_append_drop (place r x) r, List.pairwise_append] at hl
  obtain ⟨l1, l2, l3⟩ := hl
  rw [List.append_assoc, List.pairwise_append]
  refine ⟨l1, ?_, fun a ha b hb => ?_⟩
  · simp only [List.singleton_append, List.pairwise_cons]
    exact ⟨h2, l2⟩
  · simp only [List.singleton_append, List.mem_cons] at hb
    rcases hb with rfl | hb
    · exact ltI_asymm (h1 a ha)
    · exact l3 a ha b hb
theorem putL_pair {q : List (Int × Int)} {x : Int × Int} (h : QOk q) : (putL q x).Pairwise leI := by
  unfold putL
  split
  · exact pair_le (qOk_pair h)
  · exact insL_pair ((qOk_pair h).filter _)

theorem restL_at {q : List (Int × Int)} {x : Int × Int} {i : Nat} (h : QOk q) (hi : i < q.length) (he : idg q i = x.2) : restL q x = q.take i ++ q.drop (i + 1) := by
  have e : q = q.take i ++ (ptg q i :: q.drop (i + 1)) := by
    rw [ptg_get hi, ← List.drop_eq_getElem_cons hi, List.take_append_drop]
  have ha : ∀ j, j < q.length → j ≠ i → idg q j ≠ x.2 := fun j hj hne g => by
    rw [← he] at g
    rcases Nat.lt_or_ge j i with h' | h'
    · exact (h i hi).2 j h' g
    · exact (h j hj).2 i (by omega) g.symm
  unfold restL
  conv => lhs; rw [e]
  rw [List.filter_append, List.filter_cons_of_neg (by unfold idg at he; simp [he])]
  congr 1
  · rw [List.filter_eq_self]
    intro a hm
    obtain ⟨j, hj, rfl⟩ := List.getElem_of_mem hm
    rw [List.length_take] at hj
    have := ha j (by omega) (by omega)
    unfold idg at this; rw [ptg_get (by omega)] at this
    rw [List.getElem_take]; exact decide_eq_true this
  · rw [List.filter_eq_self]
    intro a hm
    obtain ⟨j, hj, rfl⟩ := List.getElem_of_mem hm
    rw [List.length_drop] at hj
    have := ha (i + 1 + j) (by omega) (by omega)
    unfold idg at this; rw [ptg_get (by omega)] at this
    rw [List.getElem_drop]; exact decide_eq_true this
theorem putL_perm {q q' : List (Int × Int)} {x : Int × Int} (h : QOk q) (hr : PutRel q x q') : q'.Perm (putL q x) := by
  rcases hr with ⟨hno, hp⟩ | ⟨i, hi, he, ⟨hlt, hp⟩ | ⟨hlt, hp⟩⟩
  · have h1 : stopB q x = false := stopB_no fun j hj g => absurd g (hno j hj)
    have h2 : restL q x = q := by
      unfold restL; rw [List.filter_eq_self]
      intro a hm
      obtain ⟨j, hj, rfl⟩ := List.getElem_of_mem hm
      have := hno j hj
      unfold idg at this; rw [ptg_get hj] at this
      exact decide_eq_true this
    unfold putL; rw [h1, h2, if_neg (by simp)]
    refine hp.trans ?_
    refine List.Perm.trans ?_ (insL_perm q x).symm
    simp
  · have h1 : stopB q x = false := stopB_no fun j hj g => by
      have : j = i := by
        have g' : idg q j = idg q i := by rw [he]; exact g
        rcases Nat.lt_trichotomy j i with h' | h' | h'
        · exact absurd g' ((h i hi).2 j h')
        · exact h'
        · exact absurd g'.symm ((h j hj).2 i h')
      subst this; omega
    unfold putL; rw [h1, restL_at h hi he, if_neg (by simp)]
    refine hp.trans ?_
    refine List.Perm.trans ?_ (insL_perm _ x).symm
    rw [List.set_eq_take_append_cons_drop, if_pos hi]
    exact List.perm_middle
  · have h1 : stopB q x = true := stopB_yes hi he (by omega)
    unfold putL; rw [h1, if_pos rfl]; exact hp
/-- A queue behind a put, in order. -/
theorem put_is {q q' q2 : List (Int × Int)} {x : Int × Int} (h : QOk q) (hr : PutRel q x q') (hp : q2.Perm q') (ha : Asc q2) : q2 = putL q x :=
  List.Perm.eq_of_pairwise (fun _ _ _ _ h1 h2 => leI_anti h1 h2) (asc_pair ha) (putL_pair h) (hp.trans (putL_perm h hr))
theorem putL_len {q : List (Int × Int)} {x : Int × Int} : (putL q x).length ≤ q.length + 1 := by
  unfold putL; split
  · omega
  · rw [(insL_perm _ x).length_eq, List.length_cons]; have := restL_len q x; omega
theorem putRel_pos {q q' : List (Int × Int)} {x : Int × Int} (hr : PutRel q x q') : 0 < q'.length ∧ q'.length ≤ q.length + 1 := by
  rcases hr with ⟨-, hp⟩ | ⟨i, hi, -, ⟨-, hp⟩ | ⟨-, hp⟩⟩
  · rw [hp.length_eq]; simp
  · rw [hp.length_eq, List.length_set]; omega
  · rw [hp.length_eq]; omega

end Go.Proofs.Ytcaamhoakhgnhaa

namespace Go.Proofs.Ytcaamhoakhgnhaa

theorem qOk_ids {q : List (Int × Int)} (h : QOk q) : (q.map Prod.snd).Nodup := by
  rw [List.Nodup, List.pairwise_map, List.pairwise_iff_getElem]
  intro i j hi hj hij g
  rw [← ptg_get hi, ← ptg_get hj] at g
  exact (h j hj).2 i hij g
theorem qOk_of {q : List (Int × Int)} (hs : q.Pairwise leI) (hd : (q.map Prod.snd).Nodup) : QOk q := fun i hi => by
  rw [List.Nodup, List.pairwise_map, List.pairwise_iff_getElem] at hd
  rw [List.pairwise_iff_getElem] at hs
  refine ⟨fun h0 => ?_, fun j hj g => ?_⟩
  · have h1 := hs (i - 1) i (by omega) hi (by omega)
    have h2 := hd (i - 1) i (by omega) hi (by omega)
    rw [← ptg_get (by omega), ← ptg_get hi] at h1 h2
    exact ltI_tri h1 (fun e => h2 (by rw [e]))
  · have := hd j i (by omega) hi hj
    rw [← ptg_get (by omega), ← ptg_get hi] at this
    exact this g
theorem restL_no {q : List (Int × Int)} {x : Int × Int} : x.2 ∉ (restL q x).map Prod.snd := fun h => by
  obtain ⟨p, hp, e⟩ := List.mem_map.1 h
  have := of_decide_eq_true (List.mem_filter.1 hp).2
  exact this e
theorem putL_ok {q : List (Int × Int)} (x : Int × Int) (h : QOk q) : QOk (putL q x) := by
  refine qOk_of (putL_pair h) ?_
  unfold putL
  split
  · exact qOk_ids h
  · rw [((insL_perm (restL q x) x).map Prod.snd).nodup_iff, List.map_cons, List.nodup_cons]
    exact ⟨restL_no, (qOk_ids h).sublist (List.Sublist.map _ List.filter_sublist)⟩
theorem putL_has {q : List (Int × Int)} (x : Int × Int) : ∃ i, i < (putL q x).length ∧ (ptg (putL q x) i).2 = x.2 ∧ (ptg (putL q x) i).1 ≤ x.1 := by
  have hm : ∃ p ∈ putL q x, p.2 = x.2 ∧ p.1 ≤ x.1 := by
    unfold putL
    split
    · rename_i hs
      unfold stopB at hs
      rw [List.any_eq_true] at hs
      obtain ⟨p, hp, hd⟩ := hs
      exact ⟨p, hp, of_decide_eq_true hd⟩
    · exact ⟨x, (insL_perm _ x).mem_iff.2 (by simp), rfl, Int.le_refl _⟩
  obtain ⟨p, hp, h1, h2⟩ := hm
  obtain ⟨i, hi, rfl⟩ := List.getElem_of_mem hp
  exact ⟨i, hi, by rw [ptg_get hi]; exact h1, by rw [ptg_get hi]; exact h2⟩
theorem qOk_first {q : List (Int × Int)} (h : QOk q) {i : Nat} (hi : i < (q.drop 1).length) : ¬ (ptg (q.drop 1) i).1 < (ptg q 0).1 ∧ (ptg (q.drop 1) i).2 ≠ (ptg q 0).2 := by
  rw [List.length_drop] at hi
  have e : ptg (q.drop 1) i = ptg q (1 + i) := by unfold ptg; simp [Nat.add_comm]
  rw [e]
  have h1 := qOk_lt h (1 + i) 0 (by omega) (by omega)
  have h2 := (h (1 + i) (by omega)).2 0 (by omega)
  refine ⟨fun g => ?_, fun g => h2 g.symm⟩
  unfold ltI at h1; omega

end Go.Proofs.Ytcaamhoakhgnhaa
