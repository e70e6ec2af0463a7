/-
  Rows of truth values; what a queue allows to happen beside it; rows that are kept.
-/
import Derived.Test.YtcaamhoakhgnhaaHeapAll
import Derived.Test.YtcaamhoakhgnhaaSearchMath
namespace Go.Proofs.Ytcaamhoakhgnhaa
open Go.RowKit Go.Deep Go.Maps

theorem Try.infoBool : (Try.prog.info? 4).map (fun i => (i.zero, i.size, i.bytes)) = some (some (.bool false), 1, 1) := by kernel_rfl
/-- Block b holds N truth values. -/
def BRow (w : World) (b N : Nat) (f : Nat → Bool) : Prop :=
  ∃ cur : Array Value, w.heap[b]? = some (.cells cur 4 (0, 0)) ∧ N ≤ cur.size ∧ ∀ i, i < N → cur[i]? = some (.bool (f i))
section
variable {w w' : World} {b N : Nat} {f f' : Nat → Bool}
theorem BRow.lt (h : BRow w b N f) : b < w.heap.size := by obtain ⟨cur, h1, _⟩ := h; exact (Array.getElem?_eq_some_iff.1 h1).1
theorem BRow.cell (h : BRow w b N f) {i : Nat} (hi : i < N) : w.cell? ⟨b, i, none⟩ = some (.bool (f i)) := by obtain ⟨cur, h1, -, h3⟩ := h; rw [cell_of_block h1]; exact h3 i hi
theorem BRow.frozen (h : BRow w b N f) (i : Nat) : w.frozen? ⟨b, i, none⟩ = false := by obtain ⟨cur, h1, -⟩ := h; exact frozen_of_block h1
theorem BRow.set (h : BRow w b N f) (i : Nat) (x : Bool) : BRow (w.setCell ⟨b, i, none⟩ (.bool x)) b N (fun j => if j = i then x else f j) := by
  obtain ⟨cur, h1, h2, h3⟩ := h
  refine ⟨cur.setIfInBounds i (.bool x), block_set _ h1, by simpa using h2, fun j hj => ?_⟩
  rw [Array.getElem?_setIfInBounds]
  by_cases e : j = i
  · subst e; simp; omega
  · rw [if_neg (fun e' => e e'.symm)]; show cur[j]? = some (.bool (if j = i then x else f j)); rw [if_neg e]; exact h3 j hj
theorem BRow.congr (h : BRow w b N f) (e : ∀ i, i < N → f i = f' i) : BRow w b N f' := by
  obtain ⟨cur, h1, h2, h3⟩ := h
  exact ⟨cur, h1, h2, fun i hi => by rw [h3 i hi, e i hi]⟩
theorem BRow.of_block (h : BRow w b N f) (e : w'.heap[b]? = w.heap[b]?) : BRow w' b N f := by
  obtain ⟨cur, h1, h2⟩ := h
  exact ⟨cur, e.trans h1, h2⟩
theorem BRow.below (h : BRow w b N f) (hb : Below w.heap.size w w') : BRow w' b N f := h.of_block (hb.block b h.lt)
theorem BRow.kp {P : Nat → Prop} (h : BRow w b N f) (k : Kp P w w') (hb : P b) : BRow w' b N f := h.of_block (k.block b hb h.lt)
theorem BRow.made (w : World) (n : Nat) : BRow (w.alloc (.cells (madeCells #[.bool false] n) 4)) w.heap.size n (fun _ => false) :=
  ⟨_, heap_alloc_new w _, by rw [size_madeCells]; omega, fun i hi => by simp [madeCells, hi, Nat.mod_one]⟩
end

theorem QSt.grow {w w' : World} {base : Nat → Prop} {qa : Nat} {q : List (Int × Int)} (h : QSt w base qa q) {r : Option Nat} (hg : w.grownBy w' r) (hr : ∀ g, r = some g → base g) : QSt w' (fun b => base b ∨ w.heap.size ≤ b ∧ b < w'.heap.size) qa q := by
  have hs := hg.size
  obtain ⟨v, B, D, X, own, hmap, hpl, hqa, hB, h64, hvP, hPin⟩ := h
  have hql := X.lt
  have hBl : B < w.heap.size := by obtain ⟨es, ck, hmb, -⟩ := hmap; exact (Array.getElem?_eq_some_iff.1 hmb).1
  have hgl := World.ownsRow.lt own
  refine ⟨v, B, D, Pair.grown' X hg (fun g e e' => hqa (e' ▸ hr g e)), ?_, ?_, hpl, ?_, ?_, h64, fun g e => ?_, fun b k => ?_⟩
  · cases r with
    | none =>
      refine World.ownsRow.kept own hg ?_
      cases hv : v.ownBlock with
      | none => exact Or.inl rfl
      | some g => exact Or.inr (by simp)
    | some r => exact World.ownsRow.kept own hg (Or.inr fun e => hvP r e (hr r rfl))
  · obtain ⟨es, ck, hmb, F, hs'⟩ := hmap
    exact ⟨es, ck, (hg.block B hBl (fun e => hB (hr B e.symm))).trans hmb, F, hs'⟩
  · rintro (g | g)
    · exact hqa g
    · omega
  · rintro (g | g)
    · exact hB g
    · omega
  · rintro (k | k)
    · exact hvP g e k
    · have := (hgl g e).2; omega
  · rcases k with k | k
    · have := hPin b k; omega
    · exact k.2
theorem grown_below {w w' : World} (h : Below w.heap.size w w') : w.grownBy w' none := ⟨h.os, h.tape, h.output, h.size, fun b hb _ => h.block b hb⟩
theorem ownsRow_kp {P : Nat → Prop} {w w' : World} {base : Nat} {e : TypeId} {size n : Nat} {v : Value} {xs : List Value} (h : w.ownsRow base e size v n xs) (k : Kp P w w') (hv : ∀ g, v.ownBlock = some g → P g) : w'.ownsRow base e size v n xs := by
  refine ⟨h.1, ?_⟩
  rcases h.2 with h2 | ⟨g, cap, cur, h1, h2, h3, h4⟩
  · exact .inl h2
  · refine .inr ⟨g, cap, cur, h1, h2, (k.block g (hv g (by rw [h1]; rfl)) (Array.getElem?_eq_some_iff.1 h3).1).trans h3, h4⟩

/-- The items that are taken. -/
def TakenMade (w : World) (L : List (Int × Int)) (e : Ending) (w' : World) : Prop := ∃ v, e = .returned v ∧ w'.ownsRow w.heap.size 73 2 v L.length (cellsP L) ∧ Below w.heap.size w w'

theorem idsIn_row {n : Nat} {D : List (Int × Int)} {x : Int × Int} {U : Nat} (hx : x.2 = (U : Int)) : ∀ i, i < n → (if i = U then true else idsIn D (i : Int)) = idsIn (D ++ [x]) (i : Int) := fun i _ => by
  rw [idsIn_snoc, hx]
  by_cases e : i = U
  · subst e; rw [if_pos rfl]; simp
  · rw [if_neg e]
    have : ((U : Int) == (i : Int)) = false := by simp; omega
    rw [this, Bool.or_false]
theorem row_step {kf : Nat → Nat} {u m j i : Nat} (h : (rowL kf u m)[j]? = some i) : (rowL kf u m).take (j + 1) = (rowL kf u m).take j ++ [i] := by
  have hl := (List.getElem?_eq_some_iff.1 h).1
  rw [List.take_succ_eq_append_getElem hl, (List.getElem?_eq_some_iff.1 h).2]
theorem puL_all {n : Nat} {zs : List Int} {rs : List A3} {x : Int × Int} {D q : List (Int × Int)} {U : Nat} (hr : ArcsIn n rs) (hx : x.2 = (U : Int)) : puL zs rs x D q (rowL (kfF rs) U rs.length) = puK zs rs x D q rs.length := by
  unfold rowL
  refine puL_row _ _ fun i hi => ?_
  have := (hr _ (arg_mem hi)).1
  unfold kfF
  rw [decide_eq_true_eq, hx]; omega

end Go.Proofs.Ytcaamhoakhgnhaa
