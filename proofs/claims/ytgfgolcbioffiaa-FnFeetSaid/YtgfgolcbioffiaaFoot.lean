/-
  What share, l02Part, Foot and Along compute.
-/
import Derived.Test.YtgfgolcbioffiaaPtMath
import Derived.Deep.RegionHeld3
namespace Go.Proofs.Ytgfgolcbioffiaa
open Go.RowKit Go.Deep

/-- Three boxes hold three points; nothing older than base has turned. -/
abbrev Tri (base : World) (b0 b1 b2 : Nat) (ax ay bx by_ px py : Int) (w : World) : Prop :=
  w.cell? ⟨b0, 0, none⟩ = some (.int .i64 ax) ∧ w.cell? ⟨b0, 1, none⟩ = some (.int .i64 ay) ∧ w.cell? ⟨b1, 0, none⟩ = some (.int .i64 bx) ∧ w.cell? ⟨b1, 1, none⟩ = some (.int .i64 by_) ∧
  w.cell? ⟨b2, 0, none⟩ = some (.int .i64 px) ∧ w.cell? ⟨b2, 1, none⟩ = some (.int .i64 py) ∧ Below base.heap.size base w

theorem Tri.below {base : World} {b0 b1 b2 : Nat} {ax ay bx by_ px py : Int} {w w' : World} (h : Tri base b0 b1 b2 ax ay bx by_ px py w) (hb : Below w.heap.size w w') : Tri base b0 b1 b2 ax ay bx by_ px py w' := by
  obtain ⟨h1, h2, h3, h4, h5, h6, h7⟩ := h
  have g0 : b0 < w.heap.size := by simpa using World.block_lt_of_cell? w _ h1
  have g1 : b1 < w.heap.size := by simpa using World.block_lt_of_cell? w _ h3
  have g2 : b2 < w.heap.size := by simpa using World.block_lt_of_cell? w _ h5
  exact ⟨(hb.cell (p := ⟨b0, 0, none⟩) g0).trans h1, (hb.cell (p := ⟨b0, 1, none⟩) g0).trans h2, (hb.cell (p := ⟨b1, 0, none⟩) g1).trans h3, (hb.cell (p := ⟨b1, 1, none⟩) g1).trans h4,
    (hb.cell (p := ⟨b2, 0, none⟩) g2).trans h5, (hb.cell (p := ⟨b2, 1, none⟩) g2).trans h6, h7.trans (hb.mono h7.size)⟩

theorem Tri.under {base : World} {b0 b1 b2 : Nat} {ax ay bx by_ px py : Int} {w w' : World} (hb : Below w.heap.size w w') (h : Tri base b0 b1 b2 ax ay bx by_ px py w) : Tri base b0 b1 b2 ax ay bx by_ px py w' := h.below hb
theorem Tri.drew {base : World} {b0 b1 b2 : Nat} {ax ay bx by_ px py : Int} {w : World} (h : Tri base b0 b1 b2 ax ay bx by_ px py w) : Tri base b0 b1 b2 ax ay bx by_ px py w.drew :=
  ⟨h.1, h.2.1, h.2.2.1, h.2.2.2.1, h.2.2.2.2.1, h.2.2.2.2.2.1, h.2.2.2.2.2.2.drew⟩

theorem Tri.undrew {base : World} {b0 b1 b2 : Nat} {ax ay bx by_ px py : Int} {w : World} (h : Tri base b0 b1 b2 ax ay bx by_ px py w.drew) : Tri base b0 b1 b2 ax ay bx by_ px py w :=
  ⟨h.1, h.2.1, h.2.2.1, h.2.2.2.1, h.2.2.2.2.1, h.2.2.2.2.2.1, ⟨h.2.2.2.2.2.2.os, h.2.2.2.2.2.2.tape, h.2.2.2.2.2.2.output, h.2.2.2.2.2.2.size, h.2.2.2.2.2.2.block⟩⟩
theorem Tri.set {base : World} {b0 b1 b2 : Nat} {ax ay bx by_ px py : Int} {w : World} {b i : Nat} {v : Value} (h0 : b0 < b) (h1 : b1 < b) (h2 : b2 < b) (h3 : base.heap.size ≤ b) (h : Tri base b0 b1 b2 ax ay bx by_ px py w) : Tri base b0 b1 b2 ax ay bx by_ px py (w.setCell ⟨b, i, none⟩ v) := by
  have key : ∀ (c o : Nat) (x : Value), c < b → w.cell? ⟨c, o, none⟩ = some x → (w.setCell ⟨b, i, none⟩ v).cell? ⟨c, o, none⟩ = some x := fun c o x hc hx => by
    rw [← hx]; exact World.cell?_of_block (w := w) (Below.heap_setCell w ⟨b, i, none⟩ v c (by simp; omega))
  exact ⟨key _ _ _ h0 h.1, key _ _ _ h0 h.2.1, key _ _ _ h1 h.2.2.1, key _ _ _ h1 h.2.2.2.1, key _ _ _ h2 h.2.2.2.2.1, key _ _ _ h2 h.2.2.2.2.2.1, h.2.2.2.2.2.2.setCell h3 _⟩

theorem tri_boxed (w : World) (ax ay bx by_ cx cy : Int) (t : TypeId) : Tri w w.heap.size (w.heap.size + 1) (w.heap.size + 2) ax ay bx by_ cx cy (((w.alloc (.cells #[.int .i64 ax, .int .i64 ay] t)).alloc (.cells #[.int .i64 bx, .int .i64 by_] t)).alloc (.cells #[.int .i64 cx, .int .i64 cy] t)) := by
  obtain ⟨h1, h2, h3, h4⟩ := boxed3 w ax ay bx by_ cx cy t
  exact ⟨h1.2.1, h1.2.2, h2.2.1, h2.2.2, h3.2.1, h3.2.2, h4⟩

/-- What an abstract later world keeps, as rules for a walk. -/
theorem rules {W w1 : World} (hb : Below W.heap.size W w1) : (∀ b o, b < W.heap.size → w1.cell? ⟨b, o, none⟩ = W.cell? ⟨b, o, none⟩) ∧ (∀ b o, b < W.heap.size → w1.frozen? ⟨b, o, none⟩ = W.frozen? ⟨b, o, none⟩) ∧ (∀ n, n < W.heap.size → n < w1.heap.size) ∧ W.heap.size ≤ w1.heap.size :=
  ⟨fun b o h => hb.cell (p := ⟨b, o, none⟩) h, fun b o h => hb.frozen (p := ⟨b, o, none⟩) h, fun _ h => Nat.lt_of_lt_of_le h hb.size, hb.size⟩

/-- Two boxes hold two points; nothing older than base has turned. -/
abbrev Duo (base : World) (b0 b1 : Nat) (ax ay bx by_ : Int) (w : World) : Prop :=
  w.cell? ⟨b0, 0, none⟩ = some (.int .i64 ax) ∧ w.cell? ⟨b0, 1, none⟩ = some (.int .i64 ay) ∧ w.cell? ⟨b1, 0, none⟩ = some (.int .i64 bx) ∧ w.cell? ⟨b1, 1, none⟩ = some (.int .i64 by_) ∧ Below base.heap.size base w
theorem Duo.under {base : World} {b0 b1 : Nat} {ax ay bx by_ : Int} {w w' : World} (hb : Below w.heap.size w w') (h : Duo base b0 b1 ax ay bx by_ w) : Duo base b0 b1 ax ay bx by_ w' := by
  obtain ⟨h1, h2, h3, h4, h7⟩ := h
  have g0 : b0 < w.heap.size := by simpa using World.block_lt_of_cell? w _ h1
  have g1 : b1 < w.heap.size := by simpa using World.block_lt_of_cell? w _ h3
  exact ⟨(hb.cell (p := ⟨b0, 0, none⟩) g0).trans h1, (hb.cell (p := ⟨b0, 1, none⟩) g0).trans h2, (hb.cell (p := ⟨b1, 0, none⟩) g1).trans h3, (hb.cell (p := ⟨b1, 1, none⟩) g1).trans h4, h7.trans (hb.mono h7.size)⟩
theorem Duo.drew {base : World} {b0 b1 : Nat} {ax ay bx by_ : Int} {w : World} (h : Duo base b0 b1 ax ay bx by_ w) : Duo base b0 b1 ax ay bx by_ w.drew := ⟨h.1, h.2.1, h.2.2.1, h.2.2.2.1, h.2.2.2.2.drew⟩
theorem duo_boxed (w : World) (ax ay bx by_ : Int) (t : TypeId) : Duo w w.heap.size (w.heap.size + 1) ax ay bx by_ ((w.alloc (.cells #[.int .i64 ax, .int .i64 ay] t)).alloc (.cells #[.int .i64 bx, .int .i64 by_] t)) := by
  obtain ⟨h1, h2, h4⟩ := boxed2 w ax ay bx by_ t
  exact ⟨h1.2.1, h1.2.2, h2.2.1, h2.2.2, h4⟩

/-- The scalar product of the vectors from a to b and from a to p; how much of it counts. -/
def dot (ax ay bx by_ px py : Int) : Int := (bx - ax) * (px - ax) + (by_ - ay) * (py - ay)
def shr (ax ay bx by_ px py : Int) : Int := max 0 (min (d2 ax ay bx by_) (dot ax ay bx by_ px py))

theorem shr_bd (ax ay bx by_ px py : Int) : 0 ≤ shr ax ay bx by_ px py ∧ shr ax ay bx by_ px py ≤ d2 ax ay bx by_ := by
  have := d2_bd ax ay bx by_
  unfold shr; omega

theorem shr_impl (ax ay bx by_ px py : Int) : min (max (dot ax ay bx by_ px py) 0) (d2 ax ay bx by_) = shr ax ay bx by_ px py := by
  have := d2_bd ax ay bx by_
  unfold shr; omega

theorem dot_sum {ax ay bx by_ px py : Int} (ha : ptB ax ay = true) (hb : ptB bx by_ = true) (hp : ptB px py = true) :
    wrap64 (wrap64 ((bx - ax) * (px - ax)) + wrap64 ((by_ - ay) * (py - ay))) = dot ax ay bx by_ px py := by
  have ha := ptB_true ha
  have hb := ptB_true hb
  have hp := ptB_true hp
  have h1 := mul_bd (x := bx - ax) (y := px - ax) (M := 20000) (N := 20000) (by omega) (by omega)
  have h2 := mul_bd (x := by_ - ay) (y := py - ay) (M := 20000) (N := 20000) (by omega) (by omega)
  unfold dot wrap64; omega

theorem times_dot {ax ay bx by_ px py : Int} (ha : ptB ax ay = true) (hb : ptB bx by_ = true) (hp : ptB px py = true) (w : World) :
    Calls Try.prog 37 #[.agg #[.int .i64 (bx - ax), .int .i64 (by_ - ay)], .agg #[.int .i64 (px - ax), .int .i64 (py - ay)]] w fun e w' => e = .returned (.int .i64 (dot ax ay bx by_ px py)) ∧ Below w.heap.size w w' := by
  have h := times_any (bx - ax) (by_ - ay) (px - ax) (py - ay) w
  rw [dot_sum ha hb hp] at h
  exact h

set_option maxHeartbeats 1000000 in
theorem share_any (ax ay bx by_ px py : Int) (w : World) (ha : ptB ax ay = true) (hb : ptB bx by_ = true) (hp : ptB px py = true) :
    Calls Try.prog 30 #[.agg #[.int .i64 ax, .int .i64 ay], .agg #[.int .i64 bx, .int .i64 by_], .agg #[.int .i64 px, .int .i64 py]] w fun e w' => e = .returned (.int .i64 (shr ax ay bx by_ px py)) ∧ Below w.heap.size w w' := by
  have T := tri_boxed w ax ay bx by_ px py 25
  have hd := d2_bd ax ay bx by_
  go_enter Try.func30, Try.ntmps30
  go_wp2
  go_region_held3 (fun w' => Tri w w.heap.size (w.heap.size + 1) (w.heap.size + 2) ax ay bx by_ px py w') (first | exact Tri.drew T | (refine Tri.under (by assumption) ?_; assumption))
    (first
      | (go_at_call 29; refine (minus_pts (by assumption) (by assumption) _).mono ?_; rintro e w1 ⟨rfl, b1⟩)
      | (go_at_call 37; refine (times_dot ha hb hp _).mono ?_; rintro e w1 ⟨rfl, b1⟩))
  rename_i hT
  obtain ⟨c0, c1, c2, c3, c4, c5, k⟩ := hT
  by_cases h0 : dot ax ay bx by_ px py < 0
  all_goals
    go_wp2_with fail
    refine (implDist2_any _ _ _ _ _).mono ?_; rintro e w2 ⟨rfl, b2⟩
    have k2 := k.trans (b2.mono k.size)
    go_wp2
  all_goals
    go_ret
    exact ⟨retI (by unfold shr; omega), k2⟩

end Go.Proofs.Ytgfgolcbioffiaa
