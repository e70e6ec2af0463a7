/-
  What the cursor's once and pt answer, and spec.DrawDistOf: some bool; some point of numbers of 64 bits; two of them.
-/
import Derived.Test.YtcaamhoakhgnhaaDraw
import Derived.Test.YtcaamhoakhgnhaaPoints
import Derived.Deep.RegionWith
namespace Go.Proofs.Ytcaamhoakhgnhaa
open Go.RowKit Go.Deep

/-- Block b holds a point, and is known whole. -/
def BlockIs (w : World) (b : Nat) (x y : Int) : Prop := w.heap[b]? = some (.cells #[.int .i64 x, .int .i64 y] 85 (0, 0))

theorem BlockIs.lt {w : World} {b : Nat} {x y : Int} (h : BlockIs w b x y) : b < w.heap.size := (Array.getElem?_eq_some_iff.1 h).1
theorem BlockIs.new (w : World) (x y : Int) : BlockIs (w.alloc (.cells #[.int .i64 x, .int .i64 y] 85)) w.heap.size x y := heap_alloc_new w _
theorem BlockIs.alloc {w : World} {b : Nat} {x y : Int} (h : BlockIs w b x y) (o : Obj) : BlockIs (w.alloc o) b x y := (Below.heap_alloc w o b h.lt).trans h
theorem BlockIs.grown {w w' : World} {b c : Nat} {x y : Int} (h : BlockIs w b x y) (hg : w.grownBy w' (some c)) (hc : ¬ b = c) : BlockIs w' b x y := (hg.block b h.lt (fun e => by injection e with e; exact hc e)).trans h
theorem BlockIs.cells {w : World} {b : Nat} {x y : Int} (h : BlockIs w b x y) : w.cell? ⟨b, 0, none⟩ = some (.int .i64 x) ∧ w.cell? ⟨b, 1, none⟩ = some (.int .i64 y) ∧ w.frozen? ⟨b, 0, none⟩ = false ∧ w.frozen? ⟨b, 1, none⟩ = false :=
  ⟨by rw [cell_of_block h]; rfl, by rw [cell_of_block h]; rfl, frozen_of_block h, frozen_of_block h⟩
theorem BlockIs.set {w : World} {b c i : Nat} {x y : Int} {v : Value} (h : BlockIs w b x y) (hc : b ≠ c) : BlockIs (w.setCell ⟨c, i, none⟩ v) b x y := (Below.heap_setCell w ⟨c, i, none⟩ v b hc).trans h

theorem only_set {a w : World} {row : Option Nat} (h : a.grownBy w row) {b i : Nat} (hb : a.heap.size ≤ b) (v : Value) : a.grownBy (w.setCell ⟨b, i, none⟩ v) row :=
  ⟨h.os, h.tape, h.output, by simpa [World.setCell] using h.size, fun k hk hne => (Below.heap_setCell w ⟨b, i, none⟩ v k (by simp; omega)).trans (h.block k hk hne)⟩

theorem CurAt.set {w : World} {c : Nat} {A : Option Addr} {len cap m : Nat} (h : CurAt w c A len cap m) {b i : Nat} (hb : c < b) (v : Value) : CurAt (w.setCell ⟨b, i, none⟩ v) c A len cap m :=
  h.later (grown_set (World.grownBy.refl w (some b)) i v) (fun g e => by injection e with e; omega)

/-- What once leaves: some bool; the cursor; all else as it was. -/
def Onced (w : World) (c : Nat) (A : Option Addr) (len cap m : Nat) (e : Ending) (w' : World) : Prop :=
  ∃ b : Bool, e = .returned (.bool b) ∧ CurAt w' c A len cap (m + 1) ∧ w.grownBy w' (some c)

theorem once_any (w : World) (c : Nat) (A : Option Addr) (len cap m : Nat) (n : Int) (hm : m ≤ 500000000) (h : CurAt w c A len cap m) (h0 : 2 ≤ n) (hn : n ≤ 1000000000) :
    Calls Try.prog 72 #[.pointer (some ⟨c, 0, none⟩), .int .i64 n] w (Onced w c A len cap m) := by
  go_enter Try.func72, Try.ntmps72
  go_wp2_with fail
  refine (pick_any w c A len cap m n (by omega) h (by omega)).mono ?_
  rintro e w1 ⟨v, rfl, hv0, hv1, -, hc1, hg1, -⟩
  clear hv1
  go_wp2
  go_ret
  exact ⟨_, rfl, hc1, hg1⟩

/-- What pt leaves: a point of numbers of 64 bits; the cursor; all else as it was, but for new memory. -/
def Pointed (w : World) (c : Nat) (A : Option Addr) (len cap m : Nat) (e : Ending) (w' : World) : Prop :=
  ∃ x y : Int, e = .returned (.agg #[.int .i64 x, .int .i64 y]) ∧ In64 x ∧ In64 y ∧ CurAt w' c A len cap (m + 6) ∧ w.grownBy w' (some c)

/-- Two points of numbers of 64 bits; nothing that was there has turned. -/
def TwoPts (w : World) (e : Ending) (w' : World) : Prop :=
  ∃ ax ay bx by_ : Int, e = .returned (.tuple #[.agg #[.int .i64 ax, .int .i64 ay], .agg #[.int .i64 bx, .int .i64 by_]]) ∧ In64 ax ∧ In64 ay ∧ In64 bx ∧ In64 by_ ∧ Below w.heap.size w w'

theorem CodeIn.alloc {w : World} {A : Option Addr} {len : Nat} (h : CodeIn w A len) (o : Obj) : CodeIn (w.alloc o) A len := h.below (below1 w o)
theorem BlockIs.below {w w' : World} {b : Nat} {x y : Int} (h : BlockIs w b x y) (hb : Below w.heap.size w w') : BlockIs w' b x y := (hb.block b h.lt).trans h
theorem BlockIs.drew {w : World} {b : Nat} {x y : Int} (h : BlockIs w b x y) : BlockIs w.drew b x y := h

end Go.Proofs.Ytcaamhoakhgnhaa
