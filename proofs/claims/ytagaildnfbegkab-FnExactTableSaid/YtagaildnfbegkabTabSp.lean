/-
  What spec.Table computes.
-/
import Derived.Test.YtagaildnfbegkabTabIm
import Derived.BigRegion
namespace Go.Proofs.Ytagaildnfbegkab
open Go.RowKit Go.Deep Go.Maps

section
variable {wr w' : World} {base n m : Nat} {v : Value} {A : Nat → Option Addr} {c : Nat → Nat} {f : Nat → Nat → Int}
set_option maxRecDepth 100000 in
/-- One row more: its block is younger than all that was there at the world wo. -/
theorem TabS.put2 {wo : World} (h : TabS wo base v n m A c f) (kb : Below wo.heap.size wo wr) (hb : base ≤ wo.heap.size) (hn : n ≤ 20) {B : Option Addr} {d : Nat} {fn : Nat → Int} (hB : OwnSl wr wo.heap.size 3 B m fn) :
    ∃ v' w', (Builtin.append_ #[45, 45] 45 #[v, .slice (some ⟨wr.heap.size, 0, none⟩) 1 1]).run Try.prog (wr.alloc (.cells #[.slice B m d] 80)) = .ok v' w' ∧
      TabS w' base v' (n + 1) m (fun i => if i = n then B else A i) (fun i => if i = n then d else c i) (fun i => if i = n then fn else f i) ∧ (∀ q, q ≤ base → q ≤ wr.heap.size → Below q wr w') ∧ (∃ VB cB, v' = .slice VB (n + 1) cB) ∧ (wr.alloc (.cells #[.slice B m d] 80)).grownBy w' v.ownBlock ∧ (v'.ownBlock = v.ownBlock ∨ v'.ownBlock = some (wr.heap.size + 1)) := by
  obtain ⟨i0, hi, hz0, hz1, hz2⟩ := info_parts Try.infoRow
  have hT := h.below kb
  have ka := below1 wr (.cells #[.slice B m d] 80)
  have cell0 : (wr.alloc (.cells #[.slice B m d] 80)).cell? ⟨wr.heap.size, 0, none⟩ = some (.slice B m d) := cell_of_block (heap_alloc_new _ _)
  obtain ⟨v', w', hr, own', g', -, hob⟩ := run_append_own_at (P := Try.prog) (wr.alloc (.cells #[.slice B m d] 80)) base 45 45 80 i0 (.agg #[.slice none 0 0]) 1 24 Try.underlying45 hi hz0 hz1 hz2 rfl (by decide) v n _ (ownsRow_below hT.own ka) ⟨wr.heap.size, 0, none⟩ 1 1 [.slice B m d] rfl
    (fun j u hj => by
      have hj0 : j = 0 := by have := (List.getElem?_eq_some_iff.1 hj).1; simpa using this
      subst hj0
      have hu : Value.slice B m d = u := by simpa using hj
      rw [Addr.add_lit, ← hu]; exact cell0)
    (fun u hu => by simp at hu; subst hu; rfl) (by unfold maxLen; omega) (by omega) (by rw [World.size_alloc]; have := kb.size; omega)
  have hvo : ∀ g, v.ownBlock = some g → base ≤ g ∧ g < wo.heap.size := fun g e => ⟨ownsRow_block h.own g e, own_lt h.own e⟩
  have hao : ∀ i g, i < n → blk (A i) m = some g → base ≤ g ∧ g < wo.heap.size := fun i g hi e => blk_own (h.rows i hi) e
  have hbo : ∀ g, blk B m = some g → wo.heap.size ≤ g ∧ g < wr.heap.size := fun g e => blk_own hB e
  have hs := kb.size
  have hnew : ∀ g, v'.ownBlock = some g → v.ownBlock = some g ∨ g = wr.heap.size + 1 := fun g e => by
    rcases hob with q | q
    · exact .inl (by rw [← q]; exact e)
    · rw [q, World.size_alloc] at e; injection e with e; exact .inr e.symm
  refine ⟨v', w', hr, ⟨?_, fun i hi' => ?_, fun i j hi' hj' hij b eb => ?_, fun i hi' b eb => ?_⟩, fun q hq1 hq2 => ((Below.refl q wr).trans (ka.mono hq2)).grown g' (by rw [World.size_alloc]; omega) (fun g e => by have := (hvo g e).1; omega), own_formB own', g', by rw [World.size_alloc] at hob; exact hob⟩
  · rw [rowCells_succ, if_pos rfl, if_pos rfl, rowCells_congr (B := A) (d := c) (fun i hi' => ⟨if_neg (by omega), if_neg (by omega)⟩)]; exact own'
  · by_cases e : i = n
    · subst e
      simp only [if_pos]
      exact (fun hp => by
        obtain ⟨q, o, e1, h1, h2⟩ := ((hB.below ka).of_block (fun b eb hb2 => g'.block b hb2 (fun e' => by have := (hvo b e'.symm).2; have := (hbo b eb).1; omega))) hp
        exact ⟨q, o, e1, by omega, h2⟩)
    · simp only [if_neg e]
      exact ((hT.rows i (by omega)).below ka).of_block (fun b eb hb2 => g'.block b hb2 (fun e' => h.apart i (by omega) b eb e'.symm))
  · by_cases e : i = n
    · have hj2 : ¬ j = n := fun q => hij (by rw [e, q])
      simp only [if_pos e] at eb
      simp only [if_neg hj2]
      intro ej
      have := (hbo b eb).1
      have := (hao j b (by omega) ej).2
      omega
    · simp only [if_neg e] at eb
      by_cases e2 : j = n
      · simp only [if_pos e2]
        intro ej
        have := (hbo b ej).1
        have := (hao i b (by omega) eb).2
        omega
      · simp only [if_neg e2]
        exact h.sep i j (by omega) (by omega) hij b eb
  · intro ev
    by_cases e : i = n
    · simp only [if_pos e] at eb
      rcases hnew b ev with q | q
      · have := (hvo b q).2; have := (hbo b eb).1; omega
      · have := (hbo b eb).2; omega
    · simp only [if_neg e] at eb
      rcases hnew b ev with q | q
      · exact h.apart i (by omega) b eb q
      · have := (hao i b (by omega) eb).2; omega
end
/-- A box of one cell. -/
def OneB (w : World) (b : Nat) (t : TypeId) (v : Value) : Prop := w.heap[b]? = some (.cells #[v] t (0, 0))
section
variable {w w' : World} {b c : Nat} {t : TypeId} {v : Value}
theorem OneB.lt (h : OneB w b t v) : b < w.heap.size := (Array.getElem?_eq_some_iff.1 h).1
theorem OneB.below (h : OneB w b t v) (hb : Below w.heap.size w w') : OneB w' b t v := (hb.block b h.lt).trans h
theorem OneB.cell (h : OneB w b t v) : w.cell? ⟨b, 0, none⟩ = some v := cell_of_block h
theorem OneB.frz (h : OneB w b t v) : w.frozen? ⟨b, 0, none⟩ = false := frozen_of_block h
theorem OneB.set (h : OneB w b t v) (x : Value) : OneB (w.setCell ⟨b, 0, none⟩ x) b t x := block_set x h
theorem OneB.far (h : OneB w b t v) (hc : b ≠ c) (i : Nat) (x : Value) : OneB (w.setCell ⟨c, i, none⟩ x) b t v := (Below.heap_setCell w ⟨c, i, none⟩ x b hc).trans h
end
set_option maxRecDepth 100000 in
theorem put_int {w : World} {base n : Nat} {v : Value} {xs : List Value} (h : w.ownsRow base 3 1 v n xs) (x : Int) (hn : n ≤ 1048576) (hb : base ≤ w.heap.size) :
    ∃ v' w', (Builtin.append_ #[22, 22] 22 #[v, .slice (some ⟨w.heap.size, 0, none⟩) 1 1]).run Try.prog (w.alloc (.cells #[.int .i64 x] 3)) = .ok v' w' ∧
      w'.ownsRow base 3 1 v' (n + 1) (xs ++ [.int .i64 x]) ∧ (w.alloc (.cells #[.int .i64 x] 3)).grownBy w' v.ownBlock := by
  obtain ⟨i0, hi, hz0, hz1, hz2⟩ := info_parts Try.infoInt
  have cell0 : (w.alloc (.cells #[.int .i64 x] 3)).cell? ⟨w.heap.size, 0, none⟩ = some (.int .i64 x) := cell_of_block (heap_alloc_new _ _)
  obtain ⟨v', w', hr, own', g', -⟩ := run_append_own_at (P := Try.prog) (w.alloc (.cells #[.int .i64 x] 3)) base 22 22 3 i0 (.int .i64 0) 1 8 Try.underlying22 hi hz0 hz1 hz2 rfl (by decide) v n xs (h.alloc _) ⟨w.heap.size, 0, none⟩ 1 1 [.int .i64 x] rfl
    (fun j u hj => by
      have hj0 : j = 0 := by have := (List.getElem?_eq_some_iff.1 hj).1; simpa using this
      subst hj0
      have hu : Value.int .i64 x = u := by simpa using hj
      rw [Addr.add_lit, ← hu]; exact cell0)
    (fun u hu => by simp at hu; subst hu; rfl) (by unfold maxLen; omega) (by omega) (by rw [World.size_alloc]; omega)
  exact ⟨v', w', hr, own', g'⟩
/-- The box r and its row, all -1 as far as it goes. -/
structure DRow (w2 wr : World) (rb k : Nat) (v : Value) : Prop where
  box : OneB wr rb 80 v
  own : wr.ownsRow (rb + 1) 3 1 v k (List.replicate k (.int .i64 (-1)))
  bel : Below rb w2 wr
set_option maxRecDepth 100000 in
theorem DRow.put {w2 wr : World} {rb k : Nat} {v : Value} (h : DRow w2 wr rb k v) (hk : k ≤ 20) :
    ∃ v' w', (Builtin.append_ #[22, 22] 22 #[v, .slice (some ⟨wr.heap.size, 0, none⟩) 1 1]).run Try.prog (wr.alloc (.cells #[.int .i64 (-1)] 3)) = .ok v' w' ∧
      w'.cell? ⟨rb, 0, none⟩ = some v ∧ w'.frozen? ⟨rb, 0, none⟩ = false ∧ DRow w2 (w'.setCell ⟨rb, 0, none⟩ v') rb (k + 1) v' ∧ (∃ VB cB, v' = .slice VB (k + 1) cB) := by
  have hlt := h.box.lt
  obtain ⟨v', w', hr, own', g'⟩ := put_int h.own (-1) (by omega) (by omega)
  have ka := below1 wr (.cells #[.int .i64 (-1)] 3)
  have hlo : ∀ g, v.ownBlock = some g → rb + 1 ≤ g := ownsRow_block h.own
  have hB : OneB w' rb 80 v := (g'.block rb (by rw [World.size_alloc]; omega) (fun e => by have := hlo rb e.symm; omega)).trans (h.box.below ka)
  refine ⟨v', w', hr, hB.cell, hB.frz, ⟨hB.set v', ?_, ?_⟩, own_formB own'⟩
  · have := ownsRow_far (c := rb) own' (by omega) 0 v'
    rw [List.replicate_succ']; exact this
  · exact ((h.bel.trans (ka.mono (by omega))).grown g' (by rw [World.size_alloc]; omega) (fun g e => by have := hlo g e; omega)).setCell (p := ⟨rb, 0, none⟩) (by simp) v'
theorem spT_off {u : List Int} {qs : List A3} {j i : Nat} (h : zg u (arg qs j).1.toNat = -1 ∨ (arg qs j).2.1 ≠ (i : Int) ∨ ¬ (spT u qs j i = -1 ∨ zg u (arg qs j).1.toNat + (arg qs j).2.2 < spT u qs j i)) : spT u qs (j + 1) i = spT u qs j i := if_neg (by
  rintro ⟨a, b, c⟩
  rcases h with h | h | h
  · exact a h
  · exact h b
  · exact h c)
theorem spT_on {u : List Int} {qs : List A3} {j i : Nat} (h1 : zg u (arg qs j).1.toNat ≠ -1) (h2 : (arg qs j).2.1 = (i : Int)) (h3 : spT u qs j i = -1 ∨ zg u (arg qs j).1.toNat + (arg qs j).2.2 < spT u qs j i) : spT u qs (j + 1) i = zg u (arg qs j).1.toNat + (arg qs j).2.2 := if_pos ⟨h1, h2, h3⟩

end Go.Proofs.Ytagaildnfbegkab
