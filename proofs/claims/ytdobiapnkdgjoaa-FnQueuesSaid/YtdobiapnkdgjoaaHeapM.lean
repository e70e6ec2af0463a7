/-
  The other methods of the queue: Len, Less, Push, Pop.
-/
import Derived.Test.YtdobiapnkdgjoaaHeapQ
namespace Go.Proofs.Ytdobiapnkdgjoaa
open Go.RowKit Go.Deep Go.Maps

theorem QSt.below {w w' : World} {base qa : Nat} {q : List (Int × Int)} (h : QSt w base qa q) (hb : Below w.heap.size w w') : QSt w' base qa q := by
  obtain ⟨v, B, D, X, own, hmap, r⟩ := h
  exact ⟨v, B, D, X.below hb, ownsRow_below own hb, ownsMap_below hmap hb, r⟩
theorem QSt.lt {w : World} {base qa : Nat} {q : List (Int × Int)} (h : QSt w base qa q) : qa < w.heap.size := by
  obtain ⟨v, B, D, X, -⟩ := h; exact X.lt
theorem QSt.len {w : World} {base qa : Nat} {q : List (Int × Int)} (h : QSt w base qa q) : ∃ A cap B, w.cell? ⟨qa, 0, none⟩ = some (.slice A q.length cap) ∧ w.cell? ⟨qa, 1, none⟩ = some (.map (some B)) := by
  obtain ⟨v, B, D, X, own, -⟩ := h
  obtain ⟨A, cap, rfl, -⟩ := ownI_is own
  exact ⟨A, cap, B, X.cells.1, X.cells.2.1⟩

theorem queueLen_any (w : World) (base qa : Nat) (q : List (Int × Int)) (h : QSt w base qa q) :
    Calls Try.prog 128 #[.pointer (some ⟨qa, 0, none⟩)] w fun e w' => e = .returned (.int .i64 (q.length : Int)) ∧ w = w' := by
  obtain ⟨A, cap, B, x0, -⟩ := h.len
  go_enter Try.func128, Try.ntmps128
  go_wp2
  go_ret
  exact ⟨rfl, rfl⟩

/-- One item of a queue ahead of another. -/
def ltB (a b : Int × Int) : Bool := decide (cmpI a b < 0)
theorem ltB_iff {a b : Int × Int} : ltB a b = true ↔ ltI a b := by unfold ltB; rw [decide_eq_true_eq, cmpI_neg]

/-- What Less reads: the queue's box, two items. -/
abbrev LsS (qa : Nat) (u : Value) (g o1 o2 : Nat) (k1 d1 k2 d2 : Int) (w : World) : Prop := w.cell? ⟨qa, 0, none⟩ = some u ∧ (w.cell? ⟨g, o1, none⟩ = some (.int .i64 k1) ∧ w.cell? ⟨g, o1 + 1, none⟩ = some (.int .i64 d1)) ∧ w.cell? ⟨g, o2, none⟩ = some (.int .i64 k2) ∧ w.cell? ⟨g, o2 + 1, none⟩ = some (.int .i64 d2)
theorem LsS.under {qa : Nat} {u : Value} {g o1 o2 : Nat} {k1 d1 k2 d2 : Int} {w w' : World} (hb : Below w.heap.size w w') (h : LsS qa u g o1 o2 k1 d1 k2 d2 w) : LsS qa u g o1 o2 k1 d1 k2 d2 w' := ⟨cell_under hb h.1, ⟨cell_under hb h.2.1.1, cell_under hb h.2.1.2⟩, cell_under hb h.2.2.1, cell_under hb h.2.2.2⟩
theorem LsS.drew {qa : Nat} {u : Value} {g o1 o2 : Nat} {k1 d1 k2 d2 : Int} {w : World} (h : LsS qa u g o1 o2 k1 d1 k2 d2 w) : LsS qa u g o1 o2 k1 d1 k2 d2 w.drew := h

set_option maxRecDepth 100000 in
set_option maxHeartbeats 4000000 in
theorem queueLess_any (w : World) (base qa : Nat) (q : List (Int × Int)) (i j : Nat) (hi : i < q.length) (hj : j < q.length) (hn : q.length ≤ 4194304) (h : QSt w base qa q) :
    Calls Try.prog 188 #[.pointer (some ⟨qa, 0, none⟩), .int .i64 (i : Int), .int .i64 (j : Int)] w fun e w' => e = .returned (.bool (ltB (ptg q i) (ptg q j))) ∧ Below w.heap.size w w' := by
  obtain ⟨v, B, D, X, own, -⟩ := h
  obtain ⟨g, cap, cur, rfl, hcap, -, -⟩ := QSt.cells_at own hi
  obtain ⟨a0, a1, -, -⟩ := row_cell own hi
  obtain ⟨b0, b1, -, -⟩ := row_cell own hj
  have hii : (i : Int) < q.length := by omega
  have hji : (j : Int) < q.length := by omega
  have T : LsS qa (.slice (some ⟨g, 0, none⟩) q.length cap) g (i * 2) (j * 2) (ptg q i).1 (ptg q i).2 (ptg q j).1 (ptg q j).2 w := ⟨X.cells.1, ⟨a0, a1⟩, b0, b1⟩
  have HL := Lib.hid (show ltB (ptg q i) (ptg q j) = decide (cmpI ((ptg q i).1, (ptg q i).2) ((ptg q j).1, (ptg q j).2) < 0) from rfl)
  generalize (ptg q i).1 = k1 at T HL
  generalize (ptg q i).2 = d1 at T HL
  generalize (ptg q j).1 = k2 at T HL
  generalize (ptg q j).2 = d2 at T HL
  clear a0 a1 b0 b1 X own
  go_enter Try.func188, Try.ntmps188
  go_wp2_with fail
  go_region_held3 (fun w' => LsS qa (.slice (some ⟨g, 0, none⟩) q.length cap) g (i * 2) (j * 2) k1 d1 k2 d2 w')
    (first | exact LsS.drew T | (refine LsS.under (by assumption) ?_; assumption))
    ((go_at_call 80; refine (itemCmp_any _ _ _ _ _).mono ?_; rintro e w3 ⟨rfl, b3⟩))
  have K : Below w.heap.size w w3 := ((Below.refl w.heap.size w).drew).trans b3
  clear T b3
  go_wp2
  go_ret
  exact ⟨retB HL.out.symm, K⟩

-- PUSH BEGINS
theorem idg_snoc (q : List (Int × Int)) (x : Int × Int) (i : Nat) : idg (q ++ [x]) i = if i < q.length then idg q i else if i = q.length then x.2 else 0 := by
  unfold idg ptg
  by_cases h : i < q.length
  · rw [if_pos h]; simp [List.getElem?_append, h]
  · rw [if_neg h]
    by_cases e : i = q.length
    · subst e; simp
    · rw [if_neg e]; simp [List.getElem?_append, h, show ¬ i - q.length = 0 by omega]
theorem PlOf.push {q : List (Int × Int)} {D : DataW Unit} (h : PlOf q D) (x : Int × Int) (hx : ∀ i, i < q.length → idg q i ≠ x.2) : PlOf (q ++ [x]) (D.put (kI x.2) (.lit (kI (q.length : Int)))) := by
  have hm := h.tidy.isMap
  have hno : Maps.has D (kI x.2) = false := by
    cases e : Maps.has D (kI x.2) with
    | false => rfl
    | true => obtain ⟨i, hi, g⟩ := (h.has _).1 e; exact absurd g (hx i hi)
  refine ⟨h.tidy.put (isKey_int _) _, by rw [size_put h.tidy, hno, h.size]; simp, fun y => ?_, fun i hi z => ?_, fun i hi j hj => ?_⟩
  · by_cases e : y = x.2
    · subst e
      rw [has_put_same hm (isKey_int _)]
      exact ⟨fun _ => ⟨q.length, by simp, by rw [idg_snoc, if_neg (by omega), if_pos rfl]⟩, fun _ => rfl⟩
    · rw [has_put_other (kI_ne e), h.has]
      constructor
      · rintro ⟨i, hi, g⟩; exact ⟨i, by simp; omega, by rw [idg_snoc, if_pos hi]; exact g⟩
      · rintro ⟨i, hi, g⟩
        rw [idg_snoc] at g
        by_cases h' : i < q.length
        · rw [if_pos h'] at g; exact ⟨i, h', g⟩
        · rw [if_neg h', if_pos (by simp at hi; omega)] at g; exact absurd g.symm e
  · rw [idg_snoc]
    by_cases h' : i < q.length
    · rw [if_pos h', atKey_put_other (kI_ne (hx i h'))]; exact h.at_ i h' z
    · have e : i = q.length := by simp at hi; omega
      rw [if_neg h', if_pos e, atKey_put_same hm (isKey_int _), e]
  · rw [idg_snoc, idg_snoc]
    simp at hi
    rw [if_pos (show j < q.length by omega)]
    by_cases h' : i < q.length
    · rw [if_pos h']; exact h.apart i h' j hj
    · rw [if_neg h', if_pos (by omega)]; exact hx j (by omega)

theorem assertItem (v : Value) (w : World) : (Instr.typeAssert (.iface 45 v) 20 45 false).run Try.prog w = .ok v w := by
  simp [Instr.typeAssert, run_underlying Try.underlying45]

theorem one_pts (w : World) (k d : Int) : IsPts (w.alloc (.cells #[.int .i64 k, .int .i64 d] 45)) (some ⟨w.heap.size, 0, none⟩) [(k, d)] := fun _ => ⟨w.heap.size, 0, rfl, by simp, fun i hi => by
  obtain rfl : i = 0 := by simp at hi; omega
  exact ⟨(cell_of_block (heap_alloc_new w _)).trans rfl, (cell_of_block (heap_alloc_new w _)).trans rfl⟩⟩

/-- What Push reads: the queue's box, the item. -/
abbrev PuS (qa : Nat) (u v : Value) (b : Nat) (k d : Int) (w : World) : Prop := (w.cell? ⟨qa, 0, none⟩ = some u ∧ w.cell? ⟨qa, 1, none⟩ = some v) ∧ w.cell? ⟨b, 0, none⟩ = some (.int .i64 k) ∧ w.cell? ⟨b, 1, none⟩ = some (.int .i64 d)

set_option maxRecDepth 1000000 in
set_option maxHeartbeats 16000000 in
theorem queuePush_any (w : World) (base qa : Nat) (q : List (Int × Int)) (k d : Int) (hd : In64 d) (hn : q.length ≤ 4194304) (hfresh : ∀ i, i < q.length → idg q i ≠ d) (h : QSt w base qa q) :
    Calls Try.prog 190 #[.pointer (some ⟨qa, 0, none⟩), .iface 45 (.agg #[.int .i64 k, .int .i64 d])] w fun e w' => e = .returned (.tuple #[]) ∧ QSt w' base qa (q ++ [(k, d)]) ∧ Below base w w' := by
  have hlt := h.lt
  have kb0 := below1 w (.cells #[.int .i64 k, .int .i64 d] 45)
  have P := Pair.new w 45 (.int .i64 k) (.int .i64 d)
  replace h := h.below kb0
  obtain ⟨W, hW⟩ : ∃ W, W = w.alloc (.cells #[.int .i64 k, .int .i64 d] 45) := ⟨_, rfl⟩
  rw [← hW] at h P kb0
  have HW := Lib.hid hW
  clear hW
  obtain ⟨v, B, D, X, own, hmap, hpl, hqa, hB, h64⟩ := h
  obtain ⟨A, cap, rfl, hcap, -⟩ := ownI_is own
  have HPL := Lib.hid (hpl.push (k, d) hfresh)
  have HM := Lib.hid hmap
  obtain ⟨es, ck, hmb, -⟩ := hmap
  have hBq : B ≠ qa := fun e => by subst e; have := X.symm.trans hmb; simp at this
  have hBb : B ≠ w.heap.size := fun e => by subst e; have := P.symm.trans hmb; simp at this
  obtain ⟨w1, hup, hown1, ht1⟩ := HM.out.drew.store Try.law Try.underlying105 (by unfold maxLen; omega) (keyOf_int_mk Try.underlying3 (WalkArith.wf_i64 hd)) (plainElem_int (a := (q.length : Int)) Try.underlying3 (WalkArith.wf_i64 ⟨by omega, by omega⟩))
  have g1 : W.drew.grownBy w1 (some B) := ht1.grown
  have T : PuS qa (.slice A q.length cap) (.map (some B)) w.heap.size k d W.drew := ⟨⟨X.cells.1, X.cells.2.1⟩, P.cells.1, P.cells.2.1⟩
  have X1 := Pair.grown' (w := W.drew) X g1 (fun g e => by injection e with e; omega)
  have P1 := Pair.grown' (w := W.drew) P g1 (fun g e => by injection e with e; omega)
  have T1 : PuS qa (.slice A q.length cap) (.map (some B)) w.heap.size k d w1 := ⟨⟨X1.cells.1, X1.cells.2.1⟩, P1.cells.1, P1.cells.2.1⟩
  have own1 : w1.ownsRow base 45 2 (.slice A q.length cap) q.length (cellsP q) := by
    refine World.ownsRow.kept (w := W.drew) own g1 ?_
    rcases own.2 with ⟨e1, -⟩ | ⟨g, c', cur, e1, -, hgb, -⟩
    · exact .inl (by rw [e1]; rfl)
    · rw [e1]; exact .inr (ownB_ne (fun e => by subst e; have := hgb.symm.trans hmb; simp at this))
  have K1 : Below base w w1 := Below.grown (kb0.mono (by omega)).drew g1 (show base ≤ W.heap.size by have := X.lt; omega) (fun g e => by injection e with e; omega)
  -- the append
  have kb1 := below1 w1.drew (.cells #[.int .i64 k, .int .i64 d] 45)
  have own2 := ownsRow_below (w := w1.drew) own1 kb1
  have X2 := Pair.below (w := w1.drew) X1 kb1
  have hs1 : base ≤ w1.heap.size := by have := X1.lt; omega
  obtain ⟨v3, w3, hr, own3, g3, hv3⟩ := run_append_items (ty := 43) _ _ _ _ own2 (some ⟨w1.heap.size, 0, none⟩) 1 1 [(k, d)] rfl (one_pts w1.drew k d) (by omega) (by rw [World.size_alloc]; show base ≤ w1.heap.size + 1; omega)
  have hvq : ∀ g, Value.ownBlock (.slice A q.length cap) = some g → g ≠ qa := fun g e => by
    rcases own1.2 with ⟨e1, -⟩ | ⟨g', c', cur, e1, -, hgb, -⟩
    · rw [e1] at e; cases e
    · rw [e1] at e; simp [Value.ownBlock] at e; subst e; exact fun e => by subst e; have := X1.symm.trans hgb; simp at this
  have X3 := X2.grown' g3 (fun g e => hvq g e)
  have M3 : w3.ownsMap Try.prog 3 (plainElem Try.prog 3) B (q.length + 1) (D.put (kI d) (.lit (kI (q.length : Int)))) := by
    refine (hown1.drew.alloc _).kept g3 (fun e => ?_)
    rcases own1.2 with ⟨e1, -⟩ | ⟨g', c', cur, e1, -, hgb, -⟩
    · rw [e1] at e; cases e
    · obtain ⟨es1, ck1, hmb1, -⟩ := hown1
      rw [e1] at e; simp [Value.ownBlock] at e; subst e; have := hgb.symm.trans hmb1; simp at this
  have K3 : Below base w w3 := Below.grown (Below.trans K1.drew (kb1.mono (by show base ≤ w1.heap.size; omega))) g3 (by rw [World.size_alloc]; show base ≤ w1.heap.size + 1; omega) (fun g e => (World.ownsRow.lt own2 g e).1)
  obtain ⟨A3, c3, rfl, -, -⟩ := ownI_is (ps := q ++ [(k, d)]) (by rw [List.length_append, cellsP_append]; exact own3)
  rw [List.length_append] at hr hv3 own3
  obtain ⟨x0, x1, f0, f1⟩ := X3.cells
  have own4 := own3.kept (w' := w3.setCell ⟨qa, 0, none⟩ (.slice A3 (q.length + 1) c3)) (row := some qa) ⟨rfl, rfl, rfl, by simp [World.setCell], fun b hb hne => Below.heap_setCell _ _ _ _ (fun e => hne (by rw [e]))⟩ (.inr (fun e => by
    rcases hv3 with h3 | h3
    · rw [h3] at e; exact hvq qa e rfl
    · rw [h3] at e; injection e with e; have := X1.lt; have e' : w1.heap.size + 1 = qa := by simpa using e
      omega))
  have X4 := X3.set0 (.slice A3 (q.length + 1) c3)
  have M4 := M3.setCell (a := ⟨qa, 0, none⟩) hBq (.slice A3 (q.length + 1) c3)
  have FIN : QSt (w3.setCell ⟨qa, 0, none⟩ (.slice A3 (q.length + 1) c3)) base qa (q ++ [(k, d)]) := ⟨_, B, _, X4, by rw [List.length_append, cellsP_append]; exact own4, by rw [List.length_append]; exact M4, HPL.out, hqa, hB, fun i hi => by
    rw [idg_snoc]; split
    · exact h64 i ‹_›
    · split
      · exact hd
      · exact ⟨by omega, by omega⟩⟩
  have KF : Below base w (w3.setCell ⟨qa, 0, none⟩ (.slice A3 (q.length + 1) c3)) := K3.setCell (p := ⟨qa, 0, none⟩) hqa _
  obtain ⟨p0, p1, -, -⟩ := X1.cells
  obtain ⟨p2, p3, -, -⟩ := P1.cells
  have p4 := (X1.alloc (.cells #[.int .i64 k, .int .i64 d] 45)).cells.1
  clear own own1 own2 own3 own4 hmb hown1 ht1 M3 M4 X2 X3 X4 P HPL K1 K3 kb0 kb1 hvq hv3 h64 hpl HM hfresh
  have hta := assertItem
  go_enter Try.func190, Try.ntmps190
  go_wp2_with fail
  rw [← HW.out]
  refine wp_region_held_drew (S := (fun w' => PuS qa (.slice A q.length cap) (.map (some B)) w.heap.size k d w')) (by kernel_rfl) ?_ (fun hHeld => ?_)
  · exact T
  clear T
  refine wpAnyH_take (i := 0) (oi := ⟨some 7, _, _, _, _, _⟩) (v := .pointer (some ⟨qa, 0, none⟩)) rfl (by kernel_rfl) (by kernel_rfl) (by kernel_rfl) (fun _ _ _ h => h) (Or.inl ⟨by rfl, fun w' hw => ?hy⟩) hHeld ?_
  case hy => (try dsimp only at hw); go_simp
  simp only [Act.put, List.setIfInBounds_toArray, List.set_cons_zero, List.set_cons_succ]
  refine wpAnyH_take (i := 1) (oi := ⟨some 8, _, _, _, _, _⟩) (v := .pointer (some ⟨qa, 0, none⟩)) rfl (by kernel_rfl) (by kernel_rfl) (by kernel_rfl) (fun _ _ _ h => h) (Or.inl ⟨by rfl, fun w' hw => ?hy⟩) hHeld ?_
  case hy => (try dsimp only at hw); go_simp
  simp only [Act.put, List.setIfInBounds_toArray, List.set_cons_zero, List.set_cons_succ]
  refine wpAnyH_take (i := 2) (oi := ⟨some 9, _, _, _, _, _⟩) (v := .pointer (some ⟨qa, 1, none⟩)) rfl (by kernel_rfl) (by kernel_rfl) (by kernel_rfl) (fun _ _ _ h => h) (Or.inl ⟨by rfl, fun w' hw => ?hy⟩) hHeld ?_
  case hy => (try dsimp only at hw); go_simp
  simp only [Act.put, List.setIfInBounds_toArray, List.set_cons_zero, List.set_cons_succ]
  refine wpAnyH_take (i := 3) (oi := ⟨some 10, _, _, _, _, _⟩) (v := .map (some B)) rfl (by kernel_rfl) (by kernel_rfl) (by kernel_rfl) (fun _ _ _ h => h) (Or.inl ⟨by rfl, fun w' hw => ?hy⟩) hHeld ?_
  case hy => (try dsimp only at hw); have hx0 := hw.1.2; clear hw; go_simp
  simp only [Act.put, List.setIfInBounds_toArray, List.set_cons_zero, List.set_cons_succ]
  refine wpAnyH_take (i := 4) (oi := ⟨some 11, _, _, _, _, _⟩) (v := .pointer (some ⟨w.heap.size, 1, none⟩)) rfl (by kernel_rfl) (by kernel_rfl) (by kernel_rfl) (fun _ _ _ h => h) (Or.inl ⟨by rfl, fun w' hw => ?hy⟩) hHeld ?_
  case hy => (try dsimp only at hw); go_simp
  simp only [Act.put, List.setIfInBounds_toArray, List.set_cons_zero, List.set_cons_succ]
  refine wpAnyH_take (i := 5) (oi := ⟨some 12, _, _, _, _, _⟩) (v := .int .i64 d) rfl (by kernel_rfl) (by kernel_rfl) (by kernel_rfl) (fun _ _ _ h => h) (Or.inl ⟨by rfl, fun w' hw => ?hy⟩) hHeld ?_
  case hy => (try dsimp only at hw); have hx0 := hw.2.2; clear hw; go_simp
  simp only [Act.put, List.setIfInBounds_toArray, List.set_cons_zero, List.set_cons_succ]
  refine wpAnyH_take (i := 6) (oi := ⟨some 13, _, _, _, _, _⟩) (v := .pointer (some ⟨qa, 0, none⟩)) rfl (by kernel_rfl) (by kernel_rfl) (by kernel_rfl) (fun _ _ _ h => h) (Or.inl ⟨by rfl, fun w' hw => ?hy⟩) hHeld ?_
  case hy => (try dsimp only at hw); go_simp
  simp only [Act.put, List.setIfInBounds_toArray, List.set_cons_zero, List.set_cons_succ]
  refine wpAnyH_take (i := 7) (oi := ⟨some 14, _, _, _, _, _⟩) (v := .pointer (some ⟨qa, 0, none⟩)) rfl (by kernel_rfl) (by kernel_rfl) (by kernel_rfl) (fun _ _ _ h => h) (Or.inl ⟨by rfl, fun w' hw => ?hy⟩) hHeld ?_
  case hy => (try dsimp only at hw); go_simp
  simp only [Act.put, List.setIfInBounds_toArray, List.set_cons_zero, List.set_cons_succ]
  refine wpAnyH_take (i := 8) (oi := ⟨some 15, _, _, _, _, _⟩) (v := .pointer (some ⟨qa, 0, none⟩)) rfl (by kernel_rfl) (by kernel_rfl) (by kernel_rfl) (fun _ _ _ h => h) (Or.inl ⟨by rfl, fun w' hw => ?hy⟩) hHeld ?_
  case hy => (try dsimp only at hw); go_simp
  simp only [Act.put, List.setIfInBounds_toArray, List.set_cons_zero, List.set_cons_succ]
  refine wpAnyH_take (i := 9) (oi := ⟨some 16, _, _, _, _, _⟩) (v := .slice A q.length cap) rfl (by kernel_rfl) (by kernel_rfl) (by kernel_rfl) (fun _ _ _ h => h) (Or.inl ⟨by rfl, fun w' hw => ?hy⟩) hHeld ?_
  case hy => (try dsimp only at hw); have hx0 := hw.1.1; clear hw; go_simp
  simp only [Act.put, List.setIfInBounds_toArray, List.set_cons_zero, List.set_cons_succ]
  refine wpAnyH_take (i := 10) (oi := ⟨some 17, _, _, _, _, _⟩) (v := .int .i64 (q.length : Int)) rfl (by kernel_rfl) (by kernel_rfl) (by kernel_rfl) (fun _ _ _ h => h) (Or.inl ⟨by rfl, fun w' hw => ?hy⟩) hHeld ?_
  case hy => (try dsimp only at hw); go_simp
  simp only [Act.put, List.setIfInBounds_toArray, List.set_cons_zero, List.set_cons_succ]
  refine wpAnyH_ready (rs := [11]) (by kernel_rfl) (by simp) ?_
  refine AllReadyH.cons (o := ⟨none, _, _, _, _, _⟩) rfl (fun K hK => ?_) AllReadyH.nil
  go_simp
  refine hK.out _ _ ?_ (fun hHeld => ?_)
  · exact T1
  clear hK K
  try simp only [Act.put, List.setIfInBounds_toArray, List.set_cons_zero, List.set_cons_succ]
  refine wpAnyH_done (by kernel_rfl) ?_ _
  clear T1 hHeld
  go_wp2_with fail
  go_region_law (refine step_append_run rfl (.tmp 22) (.tmp 24) _ _ rfl _ _ rfl rfl _ _ hr ?_)
  all_goals (
    go_wp2
    go_end0
    exact ⟨rfl, FIN, KF⟩)

-- POP BEGINS
theorem PlOf.pop {q : List (Int × Int)} {x : Int × Int} {D : DataW Unit} (h : PlOf (q ++ [x]) D) : PlOf q (D.del (kI x.2)) := by
  have hl : (q ++ [x]).length = q.length + 1 := by simp
  have hlast : idg (q ++ [x]) q.length = x.2 := by rw [idg_snoc, if_neg (by omega), if_pos rfl]
  have hhas : Maps.has D (kI x.2) = true := (h.has _).2 ⟨q.length, by omega, hlast⟩
  have hin : ∀ i, i < q.length → idg (q ++ [x]) i = idg q i := fun i hi => by rw [idg_snoc, if_pos hi]
  have hne : ∀ i, i < q.length → idg q i ≠ x.2 := fun i hi e => by
    have := h.apart q.length (by omega) i hi
    rw [hin i hi, hlast] at this; exact this e
  refine ⟨h.tidy.del _, ?_, fun y => ?_, fun i hi z => ?_, fun i hi j hj => ?_⟩
  · have := size_del (k := kI x.2) h.tidy
    rw [if_pos hhas, h.size, hl] at this; omega
  · by_cases e : y = x.2
    · subst e
      rw [has_del_same]
      exact ⟨(fun g => by cases g), fun ⟨i, hi, g⟩ => absurd g (hne i hi)⟩
    · rw [has_del_other (kI_ne e), h.has]
      constructor
      · rintro ⟨i, hi, g⟩
        by_cases h' : i < q.length
        · exact ⟨i, h', by rw [← hin i h']; exact g⟩
        · obtain rfl : i = q.length := by omega
          rw [hlast] at g; exact absurd g.symm e
      · rintro ⟨i, hi, g⟩; exact ⟨i, by omega, by rw [hin i hi]; exact g⟩
  · rw [atKey_del_other (kI_ne (hne i hi)), ← hin i hi]; exact h.at_ i (by omega) z
  · have := h.apart i (by omega) j hj
    rw [hin i hi, hin j (by omega)] at this; exact this

theorem own_less {w : World} {base g cap : Nat} {q : List (Int × Int)} {x : Int × Int} (own : w.ownsRow base 45 2 (.slice (some ⟨g, 0, none⟩) (q.length + 1) cap) (q.length + 1) (cellsP (q ++ [x]))) : w.ownsRow base 45 2 (.slice (some ⟨g, 0, none⟩) q.length cap) q.length (cellsP q) := by
  rcases own.2 with ⟨h1, -⟩ | ⟨g', cap', cur, h1, h2, h3, h4, h5, h6, h7⟩
  · cases h1
  · injection h1 with h1 _ h1c
    injection h1 with h1
    injection h1 with h1
    subst h1 h1c
    refine ⟨cellsP_len q, .inr ⟨g, cap, cur, rfl, h2, h3, by omega, h5, h6, ?_⟩⟩
    have e : cellsP (q ++ [x]) = cellsP q ++ cellsP [x] := cellsP_append q [x]
    rw [e] at h7
    have := congrArg (List.take (q.length * 2)) h7
    rw [List.take_take, show min (q.length * 2) ((q.length + 1) * 2) = q.length * 2 by omega] at this
    rw [this, List.take_append_of_le_length (by rw [cellsP_len]; omega), List.take_of_length_le (by rw [cellsP_len]; omega)]

set_option maxRecDepth 1000000 in
set_option maxHeartbeats 16000000 in
theorem queuePop_any (w : World) (base qa : Nat) (q : List (Int × Int)) (k d : Int) (hn : q.length ≤ 4194304) (h : QSt w base qa (q ++ [(k, d)])) :
    Calls Try.prog 189 #[.pointer (some ⟨qa, 0, none⟩)] w fun e w' => e = .returned (.iface 45 (.agg #[.int .i64 k, .int .i64 d])) ∧ QSt w' base qa q ∧ Below base w w' := by
  have hlt := h.lt
  have hl : (q ++ [(k, d)]).length = q.length + 1 := by simp
  obtain ⟨v, B, D, X, own, hmap, hpl, hqa, hB, h64⟩ := h
  obtain ⟨g, cap, cur, rfl, hcap, hg, hgb⟩ := QSt.cells_at own (i := q.length) (by omega)
  obtain ⟨a0, a1, -, -⟩ := row_cell own (i := q.length) (by omega)
  have e1 : ptg (q ++ [(k, d)]) q.length = (k, d) := by unfold ptg; simp
  rw [e1] at a0 a1
  rw [hl] at X own hmap hcap
  have hgq : g ≠ qa := fun e => by subst e; have := X.symm.trans hgb; simp at this
  have hgl : g < w.heap.size := (Array.getElem?_eq_some_iff.1 hgb).1
  have hd : In64 d := by have := h64 q.length (by omega); rwa [idg_snoc, if_neg (by omega), if_pos rfl] at this
  have HPL := Lib.hid hpl.pop
  have h64q : ∀ i, i < q.length → In64 (idg q i) := fun i hi => by have := h64 i (by omega); rwa [idg_snoc, if_pos hi] at this
  have hsz : (w.setCell ⟨qa, 0, none⟩ (.slice (some ⟨g, 0, none⟩) q.length cap)).heap.size = w.heap.size := by simp [World.setCell]
  have X1 := (X.set0 (.slice (some ⟨g, 0, none⟩) q.length cap)).alloc (.cells #[.int .i64 k, .int .i64 d] 45)
  have P1 := Pair.new (w.setCell ⟨qa, 0, none⟩ (.slice (some ⟨g, 0, none⟩) q.length cap)) 45 (.int .i64 k) (.int .i64 d)
  rw [hsz] at P1
  have own1 : ((w.setCell ⟨qa, 0, none⟩ (.slice (some ⟨g, 0, none⟩) q.length cap)).alloc (.cells #[.int .i64 k, .int .i64 d] 45)).ownsRow base 45 2 (.slice (some ⟨g, 0, none⟩) q.length cap) q.length (cellsP q) :=
    ((own_less own).kept (w' := w.setCell ⟨qa, 0, none⟩ (.slice (some ⟨g, 0, none⟩) q.length cap)) (row := some qa) ⟨rfl, rfl, rfl, by simp [World.setCell], fun b hb hne => Below.heap_setCell _ _ _ _ (fun e => hne (by rw [e]))⟩ (.inr (ownB_ne (Ne.symm hgq)))).alloc _
  have HM := Lib.hid hmap
  obtain ⟨es, ck, hmb, -⟩ := hmap
  have hBq : B ≠ qa := fun e => by subst e; have := X.symm.trans hmb; simp at this
  have hBg : B ≠ g := fun e => by subst e; have := hgb.symm.trans hmb; simp at this
  have hBl : B < w.heap.size := (Array.getElem?_eq_some_iff.1 hmb).1
  have M1 := (HM.out.setCell (a := ⟨qa, 0, none⟩) hBq (.slice (some ⟨g, 0, none⟩) q.length cap)).alloc (.cells #[.int .i64 k, .int .i64 d] 45)
  have K1 := ((Below.refl base w).setCell (p := ⟨qa, 0, none⟩) hqa (.slice (some ⟨g, 0, none⟩) q.length cap)).alloc (show base ≤ _ by rw [hsz]; omega) (.cells #[.int .i64 k, .int .i64 d] 45)
  obtain ⟨x0, x1, f0, f1⟩ := X.cells
  obtain ⟨W, hW⟩ : ∃ W, W = (w.setCell ⟨qa, 0, none⟩ (.slice (some ⟨g, 0, none⟩) q.length cap)).alloc (.cells #[.int .i64 k, .int .i64 d] 45) := ⟨_, rfl⟩
  rw [← hW] at X1 P1 own1 M1 K1
  have HW := Lib.hid hW
  clear hW
  obtain ⟨w1, hdel, M2, ht⟩ := M1.drew.drop Try.law Try.underlying105 (keyOf_int_mk Try.underlying3 (WalkArith.wf_i64 hd)) 0
  have g1 : W.drew.grownBy w1 (some B) := ht.grown
  have X2 := Pair.grown' (w := W.drew) X1 g1 (fun g e => by injection e with e; omega)
  have P2 := Pair.grown' (w := W.drew) P1 g1 (fun g e => by injection e with e; omega)
  have T : PuS qa (.slice (some ⟨g, 0, none⟩) q.length cap) (.map (some B)) w.heap.size k d W.drew := ⟨⟨X1.cells.1, X1.cells.2.1⟩, P1.cells.1, P1.cells.2.1⟩
  have T1 : PuS qa (.slice (some ⟨g, 0, none⟩) q.length cap) (.map (some B)) w.heap.size k d w1 := ⟨⟨X2.cells.1, X2.cells.2.1⟩, P2.cells.1, P2.cells.2.1⟩
  have m2 := ownsMap_size M2
  rw [HPL.out.size] at m2
  have FIN : QSt w1 base qa q := ⟨_, B, _, X2, World.ownsRow.kept (w := W.drew) own1 g1 (.inr (ownB_ne hBg)), m2, HPL.out, hqa, hB, h64q⟩
  have KF : Below base w w1 := Below.grown K1.drew g1 (show base ≤ W.heap.size by have := X1.lt; omega) (fun g e => by injection e with e; omega)
  obtain ⟨p2, p3, -, -⟩ := P2.cells
  have hw0 : IntKind.i64.wrap (((q.length + 1 : Nat) : Int) - 1) = q.length := by rw [IntWalk.i64_in _ (by omega)]; omega
  have hw1 : ((q.length + 1 : Nat) : Int) - 1 = q.length := by omega
  have hw2 : (q.length : Int) + 1 - 1 = q.length := by omega
  have hw3 : (q.length : Int) < (q.length : Int) + 1 := by omega
  have hw4 : (q.length : Int) ≤ (cap : Int) := by omega
  clear own own1 hmb hgb M1 M2 m2 X X1 X2 P1 P2 K1 hsz HPL HM h64 h64q hpl ht g1
  go_enter Try.func189, Try.ntmps189
  go_wp2_with fail
  rw [← HW.out]
  refine wp_region_held_drew (S := (fun w' => PuS qa (.slice (some ⟨g, 0, none⟩) q.length cap) (.map (some B)) w.heap.size k d w')) (by kernel_rfl) ?_ (fun hHeld => ?_)
  · exact T
  clear T
  refine wpAnyH_take (i := 0) (oi := ⟨some 27, _, _, _, _, _⟩) (v := .pointer (some ⟨qa, 0, none⟩)) rfl (by kernel_rfl) (by kernel_rfl) (by kernel_rfl) (fun _ _ _ h => h) (Or.inl ⟨by rfl, fun w' hw => ?hy⟩) hHeld ?_
  case hy => (try dsimp only at hw); go_simp
  simp only [Act.put, List.setIfInBounds_toArray, List.set_cons_zero, List.set_cons_succ]
  refine wpAnyH_take (i := 1) (oi := ⟨some 28, _, _, _, _, _⟩) (v := .pointer (some ⟨qa, 0, none⟩)) rfl (by kernel_rfl) (by kernel_rfl) (by kernel_rfl) (fun _ _ _ h => h) (Or.inl ⟨by rfl, fun w' hw => ?hy⟩) hHeld ?_
  case hy => (try dsimp only at hw); go_simp
  simp only [Act.put, List.setIfInBounds_toArray, List.set_cons_zero, List.set_cons_succ]
  refine wpAnyH_take (i := 2) (oi := ⟨some 29, _, _, _, _, _⟩) (v := .pointer (some ⟨qa, 1, none⟩)) rfl (by kernel_rfl) (by kernel_rfl) (by kernel_rfl) (fun _ _ _ h => h) (Or.inl ⟨by rfl, fun w' hw => ?hy⟩) hHeld ?_
  case hy => (try dsimp only at hw); go_simp
  simp only [Act.put, List.setIfInBounds_toArray, List.set_cons_zero, List.set_cons_succ]
  refine wpAnyH_take (i := 3) (oi := ⟨some 30, _, _, _, _, _⟩) (v := .map (some B)) rfl (by kernel_rfl) (by kernel_rfl) (by kernel_rfl) (fun _ _ _ h => h) (Or.inl ⟨by rfl, fun w' hw => ?hy⟩) hHeld ?_
  case hy => (try dsimp only at hw); have hx0 := hw.1.2; clear hw; go_simp
  simp only [Act.put, List.setIfInBounds_toArray, List.set_cons_zero, List.set_cons_succ]
  refine wpAnyH_take (i := 4) (oi := ⟨some 31, _, _, _, _, _⟩) (v := .pointer (some ⟨w.heap.size, 1, none⟩)) rfl (by kernel_rfl) (by kernel_rfl) (by kernel_rfl) (fun _ _ _ h => h) (Or.inl ⟨by rfl, fun w' hw => ?hy⟩) hHeld ?_
  case hy => (try dsimp only at hw); go_simp
  simp only [Act.put, List.setIfInBounds_toArray, List.set_cons_zero, List.set_cons_succ]
  refine wpAnyH_take (i := 5) (oi := ⟨some 32, _, _, _, _, _⟩) (v := .int .i64 d) rfl (by kernel_rfl) (by kernel_rfl) (by kernel_rfl) (fun _ _ _ h => h) (Or.inl ⟨by rfl, fun w' hw => ?hy⟩) hHeld ?_
  case hy => (try dsimp only at hw); have hx0 := hw.2.2; clear hw; go_simp
  simp only [Act.put, List.setIfInBounds_toArray, List.set_cons_zero, List.set_cons_succ]
  refine wpAnyH_ready (rs := [6]) (by kernel_rfl) (by simp) ?_
  refine AllReadyH.cons (o := ⟨none, _, _, _, _, _⟩) rfl (fun K hK => ?_) AllReadyH.nil
  go_simp
  refine hK.out _ _ ?_ (fun hHeld => ?_)
  · exact T1
  clear hK K
  try simp only [Act.put, List.setIfInBounds_toArray, List.set_cons_zero, List.set_cons_succ]
  refine wpAnyH_done (by kernel_rfl) ?_ _
  clear T1 hHeld
  go_wp2
  go_ret
  exact ⟨rfl, FIN, KF⟩

end Go.Proofs.Ytdobiapnkdgjoaa
