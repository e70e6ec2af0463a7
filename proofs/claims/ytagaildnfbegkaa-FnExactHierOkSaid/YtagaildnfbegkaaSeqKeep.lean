/-
  What a round of a loop over a function keeps for the iterator: every block of cells but the loop's own variable and the row that this variable holds.
-/
import Derived.RangeFuncNested
import Derived.RangeFuncBound
import Derived.RangeFuncCalls
import Derived.RangeFuncLeaves
import Derived.RangeFuncBox
import Derived.Shelf.Abstract
import Derived.Shelf.RegionOpen
import Derived.WalkKit
import Derived.OwnWalkIn
import Derived.TacticsInMore
import Derived.LoopNIn
import Derived.LoopIn
import Derived.Test.YtagaildnfbegkaaNetImpl
namespace Go.Proofs.Ytagaildnfbegkaa
open Go.RowKit Go.Deep

/-- The row that the variable in block B holds, if it holds one, lies at T or behind it. -/
def RowFrom (B T : Nat) (W : World) : Prop := ∀ u v k, Boxed W B u v → v.ownBlock = some k → T ≤ k

structure Kpt (B : Nat) (W W' : World) : Prop where
  size : W.heap.size ≤ W'.heap.size
  low : ∀ T, T ≤ W.heap.size → RowFrom B T W → RowFrom B T W' ∧ ∀ k cs t z, k < T → k ≠ B → W.heap[k]? = some (.cells cs t z) → W'.heap[k]? = W.heap[k]?

theorem Kpt.refl (B : Nat) (W : World) : Kpt B W W := ⟨Nat.le_refl _, fun _ _ h => ⟨h, fun _ _ _ _ _ _ _ => rfl⟩⟩
theorem Kpt.trans {B : Nat} {X Y Z : World} (h : Kpt B X Y) (k : Kpt B Y Z) : Kpt B X Z :=
  ⟨Nat.le_trans h.size k.size, fun T hT hX => by
    obtain ⟨hY, h1⟩ := h.low T hT hX
    obtain ⟨hZ, h2⟩ := k.low T (Nat.le_trans hT h.size) hY
    refine ⟨hZ, fun i cs t z hi hB e => ?_⟩
    have e1 := h1 i cs t z hi hB e
    exact (h2 i cs t z hi hB (e1.trans e)).trans e1⟩
theorem boxed_same {W W' : World} {B : Nat} (h : W'.heap[B]? = W.heap[B]?) {u : TypeId} {v : Value} (hb : Boxed W' B u v) : Boxed W B u v := h.symm.trans hb
theorem Kpt.of_below {B : Nat} {W W' : World} (hb : Below W.heap.size W W') (hB : B < W.heap.size) : Kpt B W W' :=
  ⟨hb.size, fun T hT h => ⟨fun u v k e ek => h u v k (boxed_same (hb.block B hB) e) ek, fun k _ _ _ hk _ _ => hb.block k (by omega)⟩⟩
theorem Kpt.putObj {B : Nat} {W : World} {l : Nat} {o : Obj} (o' : Obj) (h : W.heap[l]? = some o) (ho : o.isCells = false) (hl : l ≠ B) : Kpt B W (W.putObj l o') :=
  ⟨by simp, fun T hT hr => ⟨fun u v k e ek => hr u v k (boxed_same (World.putObj_heap_other (fun e => hl e.symm)) e) ek, fun k cs t z _ _ e => World.putObj_heap_other (fun e' => by
    subst e'; rw [h] at e; cases e; cases ho)⟩⟩
/-- The variable is written with a value that is no slice. -/
theorem Kpt.set {B : Nat} {W : World} {t : TypeId} {v v' : Value} (hv : Boxed W B t v) (hn : v'.ownBlock = none) : Kpt B W (W.setCell ⟨B, 0, none⟩ v') :=
  ⟨by show W.heap.size ≤ (W.heap.modify _ _).size; rw [Array.size_modify]; exact Nat.le_refl _, fun T hT hr => ⟨fun u x k e ek => (by
    have := (hv.set v').symm.trans e
    simp at this
    rw [← this.1, hn] at ek; cases ek), fun k cs t z _ hB _ => Below.heap_setCell _ _ _ k hB⟩⟩
theorem Kpt.drew {B : Nat} {W : World} : Kpt B W W.drew := ⟨Nat.le_refl _, fun _ _ h => ⟨h, fun _ _ _ _ _ _ _ => rfl⟩⟩

theorem cells_of_cell {W : World} {a : Addr} {v : Value} (h : W.cell? a = some v) : ∃ cs t z, W.heap[a.block]? = some (.cells cs t z) := by
  unfold World.cell? at h
  cases ho : W.heap[a.block]? with
  | none => simp [ho] at h
  | some o => cases o <;> simp_all

/-- A cell that lay ahead of the row, in another block than the variable's, is kept. -/
theorem Kpt.cell {B T : Nat} {W W' : World} (h : Kpt B W W') (hT : T ≤ W.heap.size) (hr : RowFrom B T W) {b i : Nat} {v : Value} (hb : b < T) (hB : b ≠ B) (hc : W.cell? ⟨b, i, none⟩ = some v) : W'.cell? ⟨b, i, none⟩ = some v := by
  obtain ⟨cs, t, z, e⟩ := cells_of_cell hc
  exact (World.cell?_of_block (a := ⟨b, i, none⟩) ((h.low T hT hr).2 b cs t z hb hB e)).trans hc

/-- What lay in w0 is read behind: w0's blocks end ahead of the variable and of its row. -/
theorem Kpt.ints {B T : Nat} {w0 W W' : World} (h : Kpt B W W') (hT : T ≤ W.heap.size) (hr : RowFrom B T W) (h0 : Below w0.heap.size w0 W) (hB : w0.heap.size ≤ B) (hT0 : w0.heap.size ≤ T) {A : Option Addr} {zs : List Int} (hi : IsInts w0 A zs) : IsInts W' A zs := fun hp => by
  obtain ⟨b, off, e, hb, hc⟩ := hi hp
  exact ⟨b, off, e, by have := h.size; have := h0.size; omega, fun i hi' => h.cell hT hr (by omega) (by omega) ((h0.cell (p := ⟨b, off + i, none⟩) hb).trans (hc i hi'))⟩
theorem Kpt.pts {B T : Nat} {w0 W W' : World} (h : Kpt B W W') (hT : T ≤ W.heap.size) (hr : RowFrom B T W) (h0 : Below w0.heap.size w0 W) (hB : w0.heap.size ≤ B) (hT0 : w0.heap.size ≤ T) {A : Option Addr} {ps : List (Int × Int)} (hi : IsPts w0 A ps) : IsPts W' A ps := fun hp => by
  obtain ⟨b, off, e, hb, hc⟩ := hi hp
  exact ⟨b, off, e, by have := h.size; have := h0.size; omega, fun i hi' => by
    obtain ⟨c0, c1⟩ := hc i hi'
    exact ⟨h.cell hT hr (by omega) (by omega) ((h0.cell (p := ⟨b, _, none⟩) hb).trans c0), h.cell hT hr (by omega) (by omega) ((h0.cell (p := ⟨b, _, none⟩) hb).trans c1)⟩⟩
theorem Kpt.arcs {B T : Nat} {w0 W W' : World} (h : Kpt B W W') (hT : T ≤ W.heap.size) (hr : RowFrom B T W) (h0 : Below w0.heap.size w0 W) (hB : w0.heap.size ≤ B) (hT0 : w0.heap.size ≤ T) {A : Option Addr} {rs : List (Int × Int × Int)} (hi : IsArcs w0 A rs) : IsArcs W' A rs := fun hp => by
  obtain ⟨b, off, e, hb, hc⟩ := hi hp
  exact ⟨b, off, e, by have := h.size; have := h0.size; omega, fun i hi' => by
    obtain ⟨c0, c1, c2⟩ := hc i hi'
    exact ⟨h.cell hT hr (by omega) (by omega) ((h0.cell (p := ⟨b, _, none⟩) hb).trans c0), h.cell hT hr (by omega) (by omega) ((h0.cell (p := ⟨b, _, none⟩) hb).trans c1), h.cell hT hr (by omega) (by omega) ((h0.cell (p := ⟨b, _, none⟩) hb).trans c2)⟩⟩

/-- An iterator whose rounds need keep less serves a caller that keeps more. -/
theorem seqStops_mono {α : Type} {F : Fence} {n : Nat} {P : Program} {g : Nat} {lb : Array Value} {encs : α → Array Value} {Kp Kp' : World → World → Prop} {S Sp : List α → Prop} {N : Nat} {w : World}
    (h : SeqStopsK F n P g lb encs Kp S Sp N w) (hK : ∀ X Y, Kp' X Y → Kp X Y) : SeqStopsK F n P g lb encs Kp' S Sp N w :=
  fun l J Jx W hW hJ hJx hY h0 => h l J Jx W hW hJ hJx (fun pre x W1 hj hl => (hY pre x W1 hj hl).mono fun e W' hr => hr.imp (fun ⟨a, b, c⟩ => ⟨a, b, hK _ _ c⟩) id) h0

/-- The iterator's own steps: only new blocks. -/
theorem abides_below {β : Type} {B : Nat} {J : β → World → Prop} (hJ : AbidesFrom B J) {s : β} {W W' : World} (h : J s W) (hb : Below W.heap.size W W') : J s W' :=
  hJ s W W' none h ⟨hb.os, hb.tape, hb.output, hb.size, fun k hk _ => hb.block k hk⟩ (fun r e => by cases e)

/-- A walk in which nothing panics. -/
def noPanic (Q : Exit → Act → World → Prop) : Exit → Act → World → Prop
  | .panic _, _, _ => False
  | e, a, w => Q e a w
theorem noPanic_normal (Q : Exit → Act → World → Prop) (a : Act) (w : World) : noPanic Q .normal a w = Q .normal a w := rfl
theorem noPanic_ret (Q : Exit → Act → World → Prop) (a : Act) (w : World) : noPanic Q .ret a w = Q .ret a w := rfl
theorem wp_noPanic {P : Program} {c : Code} {Q : Exit → Act → World → Prop} {a : Act} {w : World} (h : c.wp P (noPanic Q) a w) : c.wpIn Fence.wide 9 P Q a w :=
  wpIn_mono (wpIn_wide.2 h) fun e a w h => by cases e <;> first | exact h | exact h.elim

theorem wideD (n : Nat) : Fence.wide.depth.isSome = true → 1 ≤ n := fun h => by simp [Fence.wide] at h

def upto {α : Type} (f : Nat → α) (k : Nat) : List α := (List.range k).map f
theorem upto_succ {α : Type} (f : Nat → α) (k : Nat) : upto f (k + 1) = upto f k ++ [f k] := by simp [upto, List.range_succ]
theorem upto_len {α : Type} (f : Nat → α) (k : Nat) : (upto f k).length = k := by simp [upto]

end Go.Proofs.Ytagaildnfbegkaa
