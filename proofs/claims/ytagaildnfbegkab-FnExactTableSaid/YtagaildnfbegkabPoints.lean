/-
  What PtOk, Dist2, DistOf, minus and times compute: whether a point is valid; squared distances and distances; vectors.
-/
import Derived.Test.YtagaildnfbegkabMem
import Derived.Test.YtagaildnfbegkabDiv
import Derived.Test.YtagaildnfbegkabRoot
import Derived.Deep.RegionHeld3
namespace Go.Proofs.Ytagaildnfbegkab
open Go.RowKit Go.Deep

theorem retB {a b : Bool} (h : a = b) : Ending.returned (.bool a) = .returned (.bool b) := by rw [h]

/-- Whether a number lies between two; whether a point is valid. -/
def btB (n a b : Int) : Bool := decide (a ≤ n ∧ n ≤ b)
def ptB (x y : Int) : Bool := decide (-10000 ≤ x ∧ x ≤ 10000 ∧ -10000 ≤ y ∧ y ≤ 10000)

theorem btB_true {n a b : Int} (h1 : a ≤ n) (h2 : n ≤ b) : btB n a b = true := decide_eq_true ⟨h1, h2⟩
theorem btB_low {n a b : Int} (h : ¬ a ≤ n) : btB n a b = false := decide_eq_false fun k => h k.1
theorem btB_high {n a b : Int} (h : ¬ n ≤ b) : btB n a b = false := decide_eq_false fun k => h k.2
theorem ptB_true {x y : Int} (h : ptB x y = true) : -10000 ≤ x ∧ x ≤ 10000 ∧ -10000 ≤ y ∧ y ≤ 10000 := of_decide_eq_true h
theorem ptB_mk {x y : Int} (h : -10000 ≤ x ∧ x ≤ 10000 ∧ -10000 ≤ y ∧ y ≤ 10000) : ptB x y = true := decide_eq_true h
theorem ptB_bt (x y : Int) : ptB x y = (btB x (-10000) 10000 && btB y (-10000) 10000) := by
  unfold ptB btB; rw [Bool.eq_iff_iff]; simp; constructor
  · rintro ⟨a, b, c, d⟩; exact ⟨⟨a, b⟩, c, d⟩
  · rintro ⟨⟨a, b⟩, c, d⟩; exact ⟨a, b, c, d⟩
theorem ptB_of {x y : Int} (h : btB x (-10000) 10000 = true) : ptB x y = btB y (-10000) 10000 := by rw [ptB_bt, h]; rfl
theorem ptB_not {x y : Int} (h : btB x (-10000) 10000 = false) : ptB x y = false := by rw [ptB_bt, h]; rfl

theorem bcell {W w1 : World} (hb : Below W.heap.size W w1) : (∀ b o, b < W.heap.size → w1.cell? ⟨b, o, none⟩ = W.cell? ⟨b, o, none⟩) ∧ (∀ b o, b < W.heap.size → w1.frozen? ⟨b, o, none⟩ = W.frozen? ⟨b, o, none⟩) :=
  ⟨fun b o h => hb.cell (p := ⟨b, o, none⟩) h, fun b o h => hb.frozen (p := ⟨b, o, none⟩) h⟩

/-- Block b holds the point (x, y). -/
def PtAt (w : World) (b : Nat) (x y : Int) : Prop := b < w.heap.size ∧ w.cell? ⟨b, 0, none⟩ = some (.int .i64 x) ∧ w.cell? ⟨b, 1, none⟩ = some (.int .i64 y)
theorem PtAt.below {w w' : World} {b : Nat} {x y : Int} (h : PtAt w b x y) (hb : Below w.heap.size w w') : PtAt w' b x y :=
  ⟨Nat.lt_of_lt_of_le h.1 hb.size, (hb.cell (p := ⟨b, 0, none⟩) h.1).trans h.2.1, (hb.cell (p := ⟨b, 1, none⟩) h.1).trans h.2.2⟩
theorem PtAt.cells {w : World} {b : Nat} {x y : Int} (h : PtAt w b x y) : w.cell? ⟨b, 0, none⟩ = some (.int .i64 x) ∧ w.cell? ⟨b, 1, none⟩ = some (.int .i64 y) := h.2
theorem PtAt.new (w : World) (x y : Int) (t : TypeId) : PtAt (w.alloc (.cells #[.int .i64 x, .int .i64 y] t)) w.heap.size x y :=
  ⟨by simp, by rw [cell_of_block (heap_alloc_new w _)]; rfl, by rw [cell_of_block (heap_alloc_new w _)]; rfl⟩
theorem PtAt.alloc {w : World} {b : Nat} {x y : Int} (h : PtAt w b x y) (o : Obj) : PtAt (w.alloc o) b x y :=
  ⟨by have := h.1; simp; omega, (World.cell?_alloc_lt w _ ⟨b, 0, none⟩ h.1).trans h.2.1, (World.cell?_alloc_lt w _ ⟨b, 1, none⟩ h.1).trans h.2.2⟩
theorem PtAt.new' {w : World} {b : Nat} (hb : b = w.heap.size) (x y : Int) (t : TypeId) : PtAt (w.alloc (.cells #[.int .i64 x, .int .i64 y] t)) b x y := by subst hb; exact PtAt.new w x y t

theorem boxed1 (w : World) (ax ay : Int) (t : TypeId) : PtAt (w.alloc (.cells #[.int .i64 ax, .int .i64 ay] t)) w.heap.size ax ay ∧ Below w.heap.size w (w.alloc (.cells #[.int .i64 ax, .int .i64 ay] t)) :=
  ⟨PtAt.new _ _ _ _, (Below.refl _ _).alloc (Nat.le_refl _) _⟩
theorem boxed2 (w : World) (ax ay bx by_ : Int) (t : TypeId) : PtAt ((w.alloc (.cells #[.int .i64 ax, .int .i64 ay] t)).alloc (.cells #[.int .i64 bx, .int .i64 by_] t)) w.heap.size ax ay ∧
    PtAt ((w.alloc (.cells #[.int .i64 ax, .int .i64 ay] t)).alloc (.cells #[.int .i64 bx, .int .i64 by_] t)) (w.heap.size + 1) bx by_ ∧ Below w.heap.size w ((w.alloc (.cells #[.int .i64 ax, .int .i64 ay] t)).alloc (.cells #[.int .i64 bx, .int .i64 by_] t)) :=
  ⟨(PtAt.new _ _ _ _).alloc _, PtAt.new' (by simp) _ _ _, (boxed1 w ax ay t).2.alloc (by simp) _⟩
theorem boxed3 (w : World) (ax ay bx by_ cx cy : Int) (t : TypeId) : PtAt (((w.alloc (.cells #[.int .i64 ax, .int .i64 ay] t)).alloc (.cells #[.int .i64 bx, .int .i64 by_] t)).alloc (.cells #[.int .i64 cx, .int .i64 cy] t)) w.heap.size ax ay ∧
    PtAt (((w.alloc (.cells #[.int .i64 ax, .int .i64 ay] t)).alloc (.cells #[.int .i64 bx, .int .i64 by_] t)).alloc (.cells #[.int .i64 cx, .int .i64 cy] t)) (w.heap.size + 1) bx by_ ∧
    PtAt (((w.alloc (.cells #[.int .i64 ax, .int .i64 ay] t)).alloc (.cells #[.int .i64 bx, .int .i64 by_] t)).alloc (.cells #[.int .i64 cx, .int .i64 cy] t)) (w.heap.size + 2) cx cy ∧
    Below w.heap.size w (((w.alloc (.cells #[.int .i64 ax, .int .i64 ay] t)).alloc (.cells #[.int .i64 bx, .int .i64 by_] t)).alloc (.cells #[.int .i64 cx, .int .i64 cy] t)) :=
  ⟨(boxed2 w ax ay bx by_ t).1.alloc _, (boxed2 w ax ay bx by_ t).2.1.alloc _, PtAt.new' (by simp) _ _ _, (boxed2 w ax ay bx by_ t).2.2.alloc (by simp; omega) _⟩

theorem below1 (w : World) (o : Obj) : Below w.heap.size w (w.alloc o) := (Below.refl _ _).alloc (Nat.le_refl _) _
theorem below2 (w : World) (o p : Obj) : Below w.heap.size w ((w.alloc o).alloc p) := (below1 w o).alloc (by simp) _
theorem below3 (w : World) (o p q : Obj) : Below w.heap.size w (((w.alloc o).alloc p).alloc q) := (below2 w o p).alloc (by simp; omega) _

theorem between_any (n a b : Int) (w : World) : Calls Try.prog 42 #[.int .i64 n, .int .i64 a, .int .i64 b] w fun e w' => e = .returned (.bool (btB n a b)) ∧ w = w' := by
  by_cases h1 : a ≤ n
  · by_cases h2 : n ≤ b
    · have H := Lib.hid (btB_true h1 h2)
      go_enter Try.func42, Try.ntmps42
      go_wp2
      go_ret
      exact ⟨retB H.out.symm, rfl⟩
    · have H := Lib.hid (btB_high (a := a) h2)
      go_enter Try.func42, Try.ntmps42
      go_wp2
      go_ret
      exact ⟨retB H.out.symm, rfl⟩
  · have H := Lib.hid (btB_low (b := b) h1)
    go_enter Try.func42, Try.ntmps42
    go_wp2
    go_ret
    exact ⟨retB H.out.symm, rfl⟩

end Go.Proofs.Ytagaildnfbegkab
