/-
  What impl.Foot and impl.Along compute, whatever the points.
-/
import Derived.Test.YtgfgolcbioffiaaFootI
namespace Go.Proofs.Ytgfgolcbioffiaa
open Go.RowKit Go.Deep

set_option maxHeartbeats 400000 in
theorem implFoot_bad1 (ax ay bx by_ px py : Int) (w : World) (ha : ptB ax ay = false) :
    Calls Try.prog 12 #[.agg #[.int .i64 ax, .int .i64 ay], .agg #[.int .i64 bx, .int .i64 by_], .agg #[.int .i64 px, .int .i64 py]] w fun e w' => e = .returned (.agg #[.int .i64 0, .int .i64 0]) ∧ Below w.heap.size w w' := by
  obtain ⟨T, Z⟩ := quad_boxed w ax ay bx by_ px py 25
  go_enter Try.func12, Try.ntmps12
  go_wp2_with fail
  refine (implPtOk_any _ _ _).mono ?_; rintro e w1 ⟨rfl, b1⟩
  replace T := T.below b1
  replace Z := Zero.under b1 Z
  clear b1
  have T' := T
  obtain ⟨c0, c1, c2, c3, c4, c5, k1⟩ := T'
  obtain ⟨z0, z1, z2, z3⟩ := Z
  go_wp2
  exact bodyPost_ret (v := .agg #[.int .i64 0, .int .i64 0]) (by simp [results, Try.results12, go_sem, z0, z1]) rfl ⟨rfl, (k1.setCell (by simp; omega) _).setCell (by simp; omega) _⟩

set_option maxHeartbeats 400000 in
theorem implFoot_bad2 (ax ay bx by_ px py : Int) (w : World) (ha : ptB ax ay = true) (hb : ptB bx by_ = false) :
    Calls Try.prog 12 #[.agg #[.int .i64 ax, .int .i64 ay], .agg #[.int .i64 bx, .int .i64 by_], .agg #[.int .i64 px, .int .i64 py]] w fun e w' => e = .returned (.agg #[.int .i64 0, .int .i64 0]) ∧ Below w.heap.size w w' := by
  obtain ⟨T, Z⟩ := quad_boxed w ax ay bx by_ px py 25
  go_enter Try.func12, Try.ntmps12
  go_wp2_with fail
  refine (implPtOk_any _ _ _).mono ?_; rintro e w1 ⟨rfl, b1⟩
  replace T := T.below b1
  replace Z := Zero.under b1 Z
  clear b1
  have T' := T
  obtain ⟨c0, c1, c2, c3, c4, c5, k1⟩ := T'
  go_wp2_with fail
  clear c0 c1 c2 c3 c4 c5 k1
  refine (implPtOk_any _ _ _).mono ?_; rintro e w2 ⟨rfl, b2⟩
  replace T := T.below b2
  replace Z := Zero.under b2 Z
  clear b2
  have T' := T
  obtain ⟨c0, c1, c2, c3, c4, c5, k1⟩ := T'
  obtain ⟨z0, z1, z2, z3⟩ := Z
  go_wp2
  exact bodyPost_ret (v := .agg #[.int .i64 0, .int .i64 0]) (by simp [results, Try.results12, go_sem, z0, z1]) rfl ⟨rfl, (k1.setCell (by simp; omega) _).setCell (by simp; omega) _⟩

set_option maxHeartbeats 400000 in
theorem implFoot_bad3 (ax ay bx by_ px py : Int) (w : World) (ha : ptB ax ay = true) (hb : ptB bx by_ = true) (hp : ptB px py = false) :
    Calls Try.prog 12 #[.agg #[.int .i64 ax, .int .i64 ay], .agg #[.int .i64 bx, .int .i64 by_], .agg #[.int .i64 px, .int .i64 py]] w fun e w' => e = .returned (.agg #[.int .i64 0, .int .i64 0]) ∧ Below w.heap.size w w' := by
  obtain ⟨T, Z⟩ := quad_boxed w ax ay bx by_ px py 25
  go_enter Try.func12, Try.ntmps12
  go_wp2_with fail
  refine (implPtOk_any _ _ _).mono ?_; rintro e w1 ⟨rfl, b1⟩
  replace T := T.below b1
  replace Z := Zero.under b1 Z
  clear b1
  have T' := T
  obtain ⟨c0, c1, c2, c3, c4, c5, k1⟩ := T'
  go_wp2_with fail
  clear c0 c1 c2 c3 c4 c5 k1
  refine (implPtOk_any _ _ _).mono ?_; rintro e w2 ⟨rfl, b2⟩
  replace T := T.below b2
  replace Z := Zero.under b2 Z
  clear b2
  have T' := T
  obtain ⟨c0, c1, c2, c3, c4, c5, k1⟩ := T'
  go_wp2_with fail
  clear c0 c1 c2 c3 c4 c5 k1
  refine (implPtOk_any _ _ _).mono ?_; rintro e w3 ⟨rfl, b3⟩
  replace T := T.below b3
  replace Z := Zero.under b3 Z
  clear b3
  have T' := T
  obtain ⟨c0, c1, c2, c3, c4, c5, k1⟩ := T'
  obtain ⟨z0, z1, z2, z3⟩ := Z
  go_wp2
  exact bodyPost_ret (v := .agg #[.int .i64 0, .int .i64 0]) (by simp [results, Try.results12, go_sem, z0, z1]) rfl ⟨rfl, (k1.setCell (by simp; omega) _).setCell (by simp; omega) _⟩

set_option maxHeartbeats 400000 in
theorem implFoot_same (ax ay px py : Int) (w : World) (ha : ptB ax ay = true) (hp : ptB px py = true) :
    Calls Try.prog 12 #[.agg #[.int .i64 ax, .int .i64 ay], .agg #[.int .i64 ax, .int .i64 ay], .agg #[.int .i64 px, .int .i64 py]] w fun e w' => e = .returned (.agg #[.int .i64 ax, .int .i64 ay]) ∧ Below w.heap.size w w' := by
  obtain ⟨T, Z⟩ := quad_boxed w ax ay ax ay px py 25
  go_enter Try.func12, Try.ntmps12
  go_wp2_with fail
  refine (implPtOk_any _ _ _).mono ?_; rintro e w1 ⟨rfl, b1⟩
  replace T := T.below b1
  replace Z := Zero.under b1 Z
  clear b1
  have T' := T
  obtain ⟨c0, c1, c2, c3, c4, c5, k1⟩ := T'
  go_wp2_with fail
  clear c0 c1 c2 c3 c4 c5 k1
  refine (implPtOk_any _ _ _).mono ?_; rintro e w2 ⟨rfl, b2⟩
  replace T := T.below b2
  replace Z := Zero.under b2 Z
  clear b2
  have T' := T
  obtain ⟨c0, c1, c2, c3, c4, c5, k1⟩ := T'
  go_wp2_with fail
  clear c0 c1 c2 c3 c4 c5 k1
  refine (implPtOk_any _ _ _).mono ?_; rintro e w3 ⟨rfl, b3⟩
  replace T := T.below b3
  replace Z := Zero.under b3 Z
  clear b3
  have T' := T
  obtain ⟨c0, c1, c2, c3, c4, c5, k1⟩ := T'
  obtain ⟨z0, z1, z2, z3⟩ := Z
  go_wp2
  exact bodyPost_ret (v := .agg #[.int .i64 ax, .int .i64 ay]) (by simp [results, Try.results12, go_sem, z0, z1]) rfl ⟨rfl, (k1.setCell (by simp; omega) _).setCell (by simp; omega) _⟩

/-- The foot: 0 where a point is not valid. -/
def fX (ax ay bx by_ px py : Int) : Int := if (ptB ax ay && ptB bx by_ && ptB px py) = true then ftX ax ay bx by_ px py else 0
def fY (ax ay bx by_ px py : Int) : Int := if (ptB ax ay && ptB bx by_ && ptB px py) = true then ftY ax ay bx by_ px py else 0

theorem fX_ok {ax ay bx by_ px py : Int} (ha : ptB ax ay = true) (hb : ptB bx by_ = true) (hp : ptB px py = true) : fX ax ay bx by_ px py = ftX ax ay bx by_ px py := by unfold fX; rw [ha, hb, hp]; rfl
theorem fY_ok {ax ay bx by_ px py : Int} (ha : ptB ax ay = true) (hb : ptB bx by_ = true) (hp : ptB px py = true) : fY ax ay bx by_ px py = ftY ax ay bx by_ px py := by unfold fY; rw [ha, hb, hp]; rfl
theorem f_bad {ax ay bx by_ px py : Int} (h : ptB ax ay = false ∨ ptB bx by_ = false ∨ ptB px py = false) : fX ax ay bx by_ px py = 0 ∧ fY ax ay bx by_ px py = 0 := by
  have e : (ptB ax ay && ptB bx by_ && ptB px py) = false := by rcases h with h | h | h <;> rw [h] <;> simp
  unfold fX fY; rw [e]; exact ⟨rfl, rfl⟩
theorem ft_same (ax ay px py : Int) : ftX ax ay ax ay px py = ax ∧ ftY ax ay ax ay px py = ay := by
  unfold ftX ftY stp
  rw [Int.sub_self, Int.sub_self, Int.zero_mul, Int.zero_ediv]
  omega

theorem implFoot_any (ax ay bx by_ px py : Int) (w : World) :
    Calls Try.prog 12 #[.agg #[.int .i64 ax, .int .i64 ay], .agg #[.int .i64 bx, .int .i64 by_], .agg #[.int .i64 px, .int .i64 py]] w fun e w' => e = .returned (.agg #[.int .i64 (fX ax ay bx by_ px py), .int .i64 (fY ax ay bx by_ px py)]) ∧ Below w.heap.size w w' := by
  cases ha : ptB ax ay with
  | false => obtain ⟨h1, h2⟩ := f_bad (ax := ax) (ay := ay) (bx := bx) (by_ := by_) (px := px) (py := py) (.inl ha); rw [h1, h2]; exact implFoot_bad1 ax ay bx by_ px py w ha
  | true =>
    cases hb : ptB bx by_ with
    | false => obtain ⟨h1, h2⟩ := f_bad (ax := ax) (ay := ay) (bx := bx) (by_ := by_) (px := px) (py := py) (.inr (.inl hb)); rw [h1, h2]; exact implFoot_bad2 ax ay bx by_ px py w ha hb
    | true =>
      cases hp : ptB px py with
      | false => obtain ⟨h1, h2⟩ := f_bad (ax := ax) (ay := ay) (bx := bx) (by_ := by_) (px := px) (py := py) (.inr (.inr hp)); rw [h1, h2]; exact implFoot_bad3 ax ay bx by_ px py w ha hb hp
      | true =>
        rw [fX_ok ha hb hp, fY_ok ha hb hp]
        by_cases hx : ax = bx
        · subst hx
          by_cases hy : ay = by_
          · subst hy
            rw [(ft_same ax ay px py).1, (ft_same ax ay px py).2]
            exact implFoot_same ax ay px py w ha hp
          · exact implFoot_ny ax ay by_ px py w ha hb hp hy
        · exact implFoot_nx ax ay bx by_ px py w ha hb hp hx

end Go.Proofs.Ytgfgolcbioffiaa
