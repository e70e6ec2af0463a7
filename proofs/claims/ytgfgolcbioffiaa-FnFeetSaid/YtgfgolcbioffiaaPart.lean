/-
  What spec.l02Part computes.
-/
import Derived.Test.YtgfgolcbioffiaaAlong
namespace Go.Proofs.Ytgfgolcbioffiaa
open Go.RowKit Go.Deep

theorem ret2 {a b : Int} {c : Bool} (h : a = b) : Ending.returned (.tuple #[.int .i64 a, .bool c]) = .returned (.tuple #[.int .i64 b, .bool c]) := by rw [h]

set_option maxHeartbeats 400000 in
theorem part_bad1 (ax ay bx by_ px py : Int) (w : World) (ha : ptB ax ay = false) :
    Calls Try.prog 32 #[.agg #[.int .i64 ax, .int .i64 ay], .agg #[.int .i64 bx, .int .i64 by_], .agg #[.int .i64 px, .int .i64 py]] w fun e w' => e = .returned (.tuple #[.int .i64 0, .bool false]) ∧ Below w.heap.size w w' := by
  have T := tri_boxed w ax ay bx by_ px py 25
  go_enter Try.func32, Try.ntmps32
  go_wp2_with fail
  refine (specPtOk_any _ _ _).mono ?_; rintro e w1 ⟨rfl, b1⟩
  replace T := T.below b1
  clear b1
  have T' := T
  obtain ⟨c0, c1, c2, c3, c4, c5, k1⟩ := T'
  go_wp2
  go_ret2
  exact ⟨rfl, k1⟩

set_option maxHeartbeats 400000 in
theorem part_bad2 (ax ay bx by_ px py : Int) (w : World) (ha : ptB ax ay = true) (hb : ptB bx by_ = false) :
    Calls Try.prog 32 #[.agg #[.int .i64 ax, .int .i64 ay], .agg #[.int .i64 bx, .int .i64 by_], .agg #[.int .i64 px, .int .i64 py]] w fun e w' => e = .returned (.tuple #[.int .i64 0, .bool false]) ∧ Below w.heap.size w w' := by
  have T := tri_boxed w ax ay bx by_ px py 25
  go_enter Try.func32, Try.ntmps32
  go_wp2_with fail
  refine (specPtOk_any _ _ _).mono ?_; rintro e w1 ⟨rfl, b1⟩
  replace T := T.below b1
  clear b1
  have T' := T
  obtain ⟨c0, c1, c2, c3, c4, c5, k1⟩ := T'
  go_wp2_with fail
  clear c0 c1 c2 c3 c4 c5 k1
  refine (specPtOk_any _ _ _).mono ?_; rintro e w2 ⟨rfl, b2⟩
  replace T := T.below b2
  clear b2
  have T' := T
  obtain ⟨c0, c1, c2, c3, c4, c5, k1⟩ := T'
  go_wp2
  go_ret2
  exact ⟨rfl, k1⟩

set_option maxHeartbeats 400000 in
theorem part_bad3 (ax ay bx by_ px py : Int) (w : World) (ha : ptB ax ay = true) (hb : ptB bx by_ = true) (hp : ptB px py = false) :
    Calls Try.prog 32 #[.agg #[.int .i64 ax, .int .i64 ay], .agg #[.int .i64 bx, .int .i64 by_], .agg #[.int .i64 px, .int .i64 py]] w fun e w' => e = .returned (.tuple #[.int .i64 0, .bool false]) ∧ Below w.heap.size w w' := by
  have T := tri_boxed w ax ay bx by_ px py 25
  go_enter Try.func32, Try.ntmps32
  go_wp2_with fail
  refine (specPtOk_any _ _ _).mono ?_; rintro e w1 ⟨rfl, b1⟩
  replace T := T.below b1
  clear b1
  have T' := T
  obtain ⟨c0, c1, c2, c3, c4, c5, k1⟩ := T'
  go_wp2_with fail
  clear c0 c1 c2 c3 c4 c5 k1
  refine (specPtOk_any _ _ _).mono ?_; rintro e w2 ⟨rfl, b2⟩
  replace T := T.below b2
  clear b2
  have T' := T
  obtain ⟨c0, c1, c2, c3, c4, c5, k1⟩ := T'
  go_wp2_with fail
  clear c0 c1 c2 c3 c4 c5 k1
  refine (specPtOk_any _ _ _).mono ?_; rintro e w3 ⟨rfl, b3⟩
  replace T := T.below b3
  clear b3
  have T' := T
  obtain ⟨c0, c1, c2, c3, c4, c5, k1⟩ := T'
  go_wp2
  go_ret2
  exact ⟨rfl, k1⟩

set_option maxHeartbeats 400000 in
theorem part_same (ax ay px py : Int) (w : World) (ha : ptB ax ay = true) (hp : ptB px py = true) :
    Calls Try.prog 32 #[.agg #[.int .i64 ax, .int .i64 ay], .agg #[.int .i64 ax, .int .i64 ay], .agg #[.int .i64 px, .int .i64 py]] w fun e w' => e = .returned (.tuple #[.int .i64 0, .bool false]) ∧ Below w.heap.size w w' := by
  have T := tri_boxed w ax ay ax ay px py 25
  go_enter Try.func32, Try.ntmps32
  go_wp2_with fail
  refine (specPtOk_any _ _ _).mono ?_; rintro e w1 ⟨rfl, b1⟩
  replace T := T.below b1
  clear b1
  have T' := T
  obtain ⟨c0, c1, c2, c3, c4, c5, k1⟩ := T'
  go_wp2_with fail
  clear c0 c1 c2 c3 c4 c5 k1
  refine (specPtOk_any _ _ _).mono ?_; rintro e w2 ⟨rfl, b2⟩
  replace T := T.below b2
  clear b2
  have T' := T
  obtain ⟨c0, c1, c2, c3, c4, c5, k1⟩ := T'
  go_wp2_with fail
  clear c0 c1 c2 c3 c4 c5 k1
  refine (specPtOk_any _ _ _).mono ?_; rintro e w3 ⟨rfl, b3⟩
  replace T := T.below b3
  clear b3
  have T' := T
  obtain ⟨c0, c1, c2, c3, c4, c5, k1⟩ := T'
  go_wp2
  go_ret2
  exact ⟨rfl, k1⟩

set_option maxHeartbeats 1000000 in
theorem part_nx (ax ay bx by_ px py : Int) (w : World) (ha : ptB ax ay = true) (hb : ptB bx by_ = true) (hp : ptB px py = true) (hx : ¬ ax = bx) :
    Calls Try.prog 32 #[.agg #[.int .i64 ax, .int .i64 ay], .agg #[.int .i64 bx, .int .i64 by_], .agg #[.int .i64 px, .int .i64 py]] w fun e w' => e = .returned (.tuple #[.int .i64 (shr ax ay bx by_ px py), .bool true]) ∧ Below w.heap.size w w' := by
  have hd' := d2_bd ax ay bx by_
  have HD := Lib.hid (dot_sum ha hb hp)
  have ga := ptB_true ha
  have gb := ptB_true hb
  have gp := ptB_true hp
  have T := tri_boxed w ax ay bx by_ px py 25
  go_enter Try.func32, Try.ntmps32
  go_wp2_with fail
  refine (specPtOk_any _ _ _).mono ?_; rintro e w1 ⟨rfl, b1⟩
  replace T := T.below b1
  clear b1
  have T' := T
  obtain ⟨c0, c1, c2, c3, c4, c5, k1⟩ := T'
  go_wp2_with fail
  clear c0 c1 c2 c3 c4 c5 k1
  refine (specPtOk_any _ _ _).mono ?_; rintro e w2 ⟨rfl, b2⟩
  replace T := T.below b2
  clear b2
  have T' := T
  obtain ⟨c0, c1, c2, c3, c4, c5, k1⟩ := T'
  go_wp2_with fail
  clear c0 c1 c2 c3 c4 c5 k1
  refine (specPtOk_any _ _ _).mono ?_; rintro e w3 ⟨rfl, b3⟩
  replace T := T.below b3
  clear b3
  have T' := T
  obtain ⟨c0, c1, c2, c3, c4, c5, k1⟩ := T'
  go_wp2_with fail
  refine (specDist2_any _ _ _ _ _).mono ?_; rintro e w5 ⟨rfl, b5⟩
  have k5 := k1.trans (b5.mono k1.size)
  rw [HD.out]
  go_wp2
  all_goals
    go_ret2
    refine ⟨ret2 ?_, k5⟩
    unfold shr
    omega

set_option maxHeartbeats 1000000 in
theorem part_ny (ax ay by_ px py : Int) (w : World) (ha : ptB ax ay = true) (hb : ptB ax by_ = true) (hp : ptB px py = true) (hy : ¬ ay = by_) :
    Calls Try.prog 32 #[.agg #[.int .i64 ax, .int .i64 ay], .agg #[.int .i64 ax, .int .i64 by_], .agg #[.int .i64 px, .int .i64 py]] w fun e w' => e = .returned (.tuple #[.int .i64 (shr ax ay ax by_ px py), .bool true]) ∧ Below w.heap.size w w' := by
  have hd' := d2_bd ax ay ax by_
  have HD := Lib.hid (dot_sum ha hb hp)
  have ga := ptB_true ha
  have gb := ptB_true hb
  have gp := ptB_true hp
  have T := tri_boxed w ax ay ax by_ px py 25
  go_enter Try.func32, Try.ntmps32
  go_wp2_with fail
  refine (specPtOk_any _ _ _).mono ?_; rintro e w1 ⟨rfl, b1⟩
  replace T := T.below b1
  clear b1
  have T' := T
  obtain ⟨c0, c1, c2, c3, c4, c5, k1⟩ := T'
  go_wp2_with fail
  clear c0 c1 c2 c3 c4 c5 k1
  refine (specPtOk_any _ _ _).mono ?_; rintro e w2 ⟨rfl, b2⟩
  replace T := T.below b2
  clear b2
  have T' := T
  obtain ⟨c0, c1, c2, c3, c4, c5, k1⟩ := T'
  go_wp2_with fail
  clear c0 c1 c2 c3 c4 c5 k1
  refine (specPtOk_any _ _ _).mono ?_; rintro e w3 ⟨rfl, b3⟩
  replace T := T.below b3
  clear b3
  have T' := T
  obtain ⟨c0, c1, c2, c3, c4, c5, k1⟩ := T'
  go_wp2_with fail
  refine (specDist2_any _ _ _ _ _).mono ?_; rintro e w5 ⟨rfl, b5⟩
  have k5 := k1.trans (b5.mono k1.size)
  have HD' : wrap64 ((by_ - ay) * (py - ay)) = dot ax ay ax by_ px py := by
    have := HD.out; rw [Int.sub_self, Int.zero_mul] at this; rw [← this]; unfold wrap64; omega
  have HW : wrap64 (dot ax ay ax by_ px py) = dot ax ay ax by_ px py := by rw [← HD']; unfold wrap64; omega
  rw [HD', HW]
  go_wp2
  all_goals
    go_ret2
    refine ⟨ret2 ?_, k5⟩
    unfold shr
    omega

/-- Whether there is a segment, and three valid points. -/
def partB (ax ay bx by_ px py : Int) : Bool := ptB ax ay && ptB bx by_ && ptB px py && !decide (ax = bx ∧ ay = by_)
/-- What l02Part answers first. -/
def partV (ax ay bx by_ px py : Int) : Int := if partB ax ay bx by_ px py = true then shr ax ay bx by_ px py else 0

theorem part_any (ax ay bx by_ px py : Int) (w : World) :
    Calls Try.prog 32 #[.agg #[.int .i64 ax, .int .i64 ay], .agg #[.int .i64 bx, .int .i64 by_], .agg #[.int .i64 px, .int .i64 py]] w fun e w' => e = .returned (.tuple #[.int .i64 (partV ax ay bx by_ px py), .bool (partB ax ay bx by_ px py)]) ∧ Below w.heap.size w w' := by
  unfold partV
  cases ha : ptB ax ay with
  | false => rw [show partB ax ay bx by_ px py = false by unfold partB; rw [ha]; rfl]; exact part_bad1 ax ay bx by_ px py w ha
  | true =>
    cases hb : ptB bx by_ with
    | false => rw [show partB ax ay bx by_ px py = false by unfold partB; rw [hb]; simp]; exact part_bad2 ax ay bx by_ px py w ha hb
    | true =>
      cases hp : ptB px py with
      | false => rw [show partB ax ay bx by_ px py = false by unfold partB; rw [hp]; simp]; exact part_bad3 ax ay bx by_ px py w ha hb hp
      | true =>
        by_cases hx : ax = bx
        · subst hx
          by_cases hy : ay = by_
          · subst hy
            rw [show partB ax ay ax ay px py = false by unfold partB; simp]
            exact part_same ax ay px py w ha hp
          · rw [show partB ax ay ax by_ px py = true by unfold partB; rw [ha, hb, hp]; simp [hy]]
            exact part_ny ax ay by_ px py w ha hb hp hy
        · rw [show partB ax ay bx by_ px py = true by unfold partB; rw [ha, hb, hp]; simp [hx]]
          exact part_nx ax ay bx by_ px py w ha hb hp hx

end Go.Proofs.Ytgfgolcbioffiaa
