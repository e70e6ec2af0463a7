/-
  What impl.Along computes.
-/
import Derived.Test.YtgfgolcbioffiaaFootA
namespace Go.Proofs.Ytgfgolcbioffiaa
open Go.RowKit Go.Deep

/-- How far along a segment of the length l: 0 where a point or the length is not valid. -/
def al (ax ay bx by_ px py l : Int) : Int := if (ptB ax ay && ptB bx by_ && ptB px py && btB l 0 1000000) = true then l * shr ax ay bx by_ px py / d2 ax ay bx by_ else 0

theorem al_ok {ax ay bx by_ px py l : Int} (ha : ptB ax ay = true) (hb : ptB bx by_ = true) (hp : ptB px py = true) (h0 : 0 ≤ l) (h1 : l ≤ 1000000) : al ax ay bx by_ px py l = l * shr ax ay bx by_ px py / d2 ax ay bx by_ := by
  unfold al; rw [ha, hb, hp, btB_true h0 h1]; rfl
theorem al_bad {ax ay bx by_ px py l : Int} (h : ptB ax ay = false ∨ ptB bx by_ = false ∨ ptB px py = false ∨ l < 0 ∨ 1000000 < l) : al ax ay bx by_ px py l = 0 := by
  have e : (ptB ax ay && ptB bx by_ && ptB px py && btB l 0 1000000) = false := by
    rcases h with h | h | h | h | h
    · rw [h]; simp
    · rw [h]; simp
    · rw [h]; simp
    · rw [btB_low (by omega)]; simp
    · rw [btB_high (by omega)]; simp
  unfold al; rw [e]; rfl
theorem al_same (ax ay px py l : Int) : al ax ay ax ay px py l = 0 := by
  unfold al; split
  · have : d2 ax ay ax ay = 0 := by unfold d2; split <;> simp
    rw [this, Int.ediv_zero]
  · rfl

theorem implFloor_any {n d : Int} (h0 : -100000000000000000 ≤ n) (h1 : n ≤ 100000000000000000) (hd : 0 < d) (w : World) :
    Calls Try.prog 31 #[.int .i64 n, .int .i64 d] w fun e w' => e = .returned (.int .i64 (n / d)) ∧ w = w' :=
  (implFloor_still h0 h1 hd w).mono fun _ _ ⟨g1, g2⟩ => ⟨g1, g2.symm⟩

theorem al_nums {m d l : Int} (h0 : 0 ≤ l) (h1 : l ≤ 1000000) (g0 : 0 ≤ m) (g1 : m ≤ d) (hd : d ≤ 800000000) :
    IntKind.i64.wrap (l * m) = l * m ∧ wrap64 (l * m) = l * m ∧ -100000000000000000 ≤ l * m ∧ l * m ≤ 100000000000000000 := by
  have b1 := mul_bd (x := l) (y := m) (M := 1000000) (N := 800000000) (by omega) (by omega)
  refine ⟨IntWalk.i64_in _ (by omega), ?_, by omega, by omega⟩
  unfold wrap64; omega

set_option maxHeartbeats 400000 in
theorem implAlong_bad1 (ax ay bx by_ px py l : Int) (w : World) (ha : ptB ax ay = false) :
    Calls Try.prog 13 #[.agg #[.int .i64 ax, .int .i64 ay], .agg #[.int .i64 bx, .int .i64 by_], .agg #[.int .i64 px, .int .i64 py], .int .i64 l] w fun e w' => e = .returned (.int .i64 0) ∧ Below w.heap.size w w' := by
  have T := tri_boxed w ax ay bx by_ px py 25
  go_enter Try.func13, Try.ntmps13
  go_wp2_with fail
  refine (implPtOk_any _ _ _).mono ?_; rintro e w1 ⟨rfl, b1⟩
  replace T := T.below b1
  clear b1
  have T' := T
  obtain ⟨c0, c1, c2, c3, c4, c5, k1⟩ := T'
  go_wp2
  go_ret
  exact ⟨rfl, k1⟩

set_option maxHeartbeats 400000 in
theorem implAlong_bad2 (ax ay bx by_ px py l : Int) (w : World) (ha : ptB ax ay = true) (hb : ptB bx by_ = false) :
    Calls Try.prog 13 #[.agg #[.int .i64 ax, .int .i64 ay], .agg #[.int .i64 bx, .int .i64 by_], .agg #[.int .i64 px, .int .i64 py], .int .i64 l] w fun e w' => e = .returned (.int .i64 0) ∧ Below w.heap.size w w' := by
  have T := tri_boxed w ax ay bx by_ px py 25
  go_enter Try.func13, Try.ntmps13
  go_wp2_with fail
  refine (implPtOk_any _ _ _).mono ?_; rintro e w1 ⟨rfl, b1⟩
  replace T := T.below b1
  clear b1
  have T' := T
  obtain ⟨c0, c1, c2, c3, c4, c5, k1⟩ := T'
  go_wp2_with fail
  clear c0 c1 c2 c3 c4 c5 k1
  refine (implPtOk_any _ _ _).mono ?_; rintro e w2 ⟨rfl, b2⟩
  replace T := T.below b2
  clear b2
  have T' := T
  obtain ⟨c0, c1, c2, c3, c4, c5, k1⟩ := T'
  go_wp2
  go_ret
  exact ⟨rfl, k1⟩

set_option maxHeartbeats 400000 in
theorem implAlong_bad3 (ax ay bx by_ px py l : Int) (w : World) (ha : ptB ax ay = true) (hb : ptB bx by_ = true) (hp : ptB px py = false) :
    Calls Try.prog 13 #[.agg #[.int .i64 ax, .int .i64 ay], .agg #[.int .i64 bx, .int .i64 by_], .agg #[.int .i64 px, .int .i64 py], .int .i64 l] w fun e w' => e = .returned (.int .i64 0) ∧ Below w.heap.size w w' := by
  have T := tri_boxed w ax ay bx by_ px py 25
  go_enter Try.func13, Try.ntmps13
  go_wp2_with fail
  refine (implPtOk_any _ _ _).mono ?_; rintro e w1 ⟨rfl, b1⟩
  replace T := T.below b1
  clear b1
  have T' := T
  obtain ⟨c0, c1, c2, c3, c4, c5, k1⟩ := T'
  go_wp2_with fail
  clear c0 c1 c2 c3 c4 c5 k1
  refine (implPtOk_any _ _ _).mono ?_; rintro e w2 ⟨rfl, b2⟩
  replace T := T.below b2
  clear b2
  have T' := T
  obtain ⟨c0, c1, c2, c3, c4, c5, k1⟩ := T'
  go_wp2_with fail
  clear c0 c1 c2 c3 c4 c5 k1
  refine (implPtOk_any _ _ _).mono ?_; rintro e w3 ⟨rfl, b3⟩
  replace T := T.below b3
  clear b3
  have T' := T
  obtain ⟨c0, c1, c2, c3, c4, c5, k1⟩ := T'
  go_wp2
  go_ret
  exact ⟨rfl, k1⟩

set_option maxHeartbeats 400000 in
theorem implAlong_same (ax ay px py l : Int) (w : World) (ha : ptB ax ay = true) (hp : ptB px py = true) :
    Calls Try.prog 13 #[.agg #[.int .i64 ax, .int .i64 ay], .agg #[.int .i64 ax, .int .i64 ay], .agg #[.int .i64 px, .int .i64 py], .int .i64 l] w fun e w' => e = .returned (.int .i64 0) ∧ Below w.heap.size w w' := by
  have T := tri_boxed w ax ay ax ay px py 25
  go_enter Try.func13, Try.ntmps13
  go_wp2_with fail
  refine (implPtOk_any _ _ _).mono ?_; rintro e w1 ⟨rfl, b1⟩
  replace T := T.below b1
  clear b1
  have T' := T
  obtain ⟨c0, c1, c2, c3, c4, c5, k1⟩ := T'
  go_wp2_with fail
  clear c0 c1 c2 c3 c4 c5 k1
  refine (implPtOk_any _ _ _).mono ?_; rintro e w2 ⟨rfl, b2⟩
  replace T := T.below b2
  clear b2
  have T' := T
  obtain ⟨c0, c1, c2, c3, c4, c5, k1⟩ := T'
  go_wp2_with fail
  clear c0 c1 c2 c3 c4 c5 k1
  refine (implPtOk_any _ _ _).mono ?_; rintro e w3 ⟨rfl, b3⟩
  replace T := T.below b3
  clear b3
  have T' := T
  obtain ⟨c0, c1, c2, c3, c4, c5, k1⟩ := T'
  go_wp2
  go_ret
  exact ⟨rfl, k1⟩

set_option maxHeartbeats 400000 in
theorem implAlong_lownx (ax ay bx by_ px py l : Int) (w : World) (ha : ptB ax ay = true) (hb : ptB bx by_ = true) (hp : ptB px py = true) (hx : ¬ ax = bx) (hl : l < 0) :
    Calls Try.prog 13 #[.agg #[.int .i64 ax, .int .i64 ay], .agg #[.int .i64 bx, .int .i64 by_], .agg #[.int .i64 px, .int .i64 py], .int .i64 l] w fun e w' => e = .returned (.int .i64 0) ∧ Below w.heap.size w w' := by
  have T := tri_boxed w ax ay bx by_ px py 25
  go_enter Try.func13, Try.ntmps13
  go_wp2_with fail
  refine (implPtOk_any _ _ _).mono ?_; rintro e w1 ⟨rfl, b1⟩
  replace T := T.below b1
  clear b1
  have T' := T
  obtain ⟨c0, c1, c2, c3, c4, c5, k1⟩ := T'
  go_wp2_with fail
  clear c0 c1 c2 c3 c4 c5 k1
  refine (implPtOk_any _ _ _).mono ?_; rintro e w2 ⟨rfl, b2⟩
  replace T := T.below b2
  clear b2
  have T' := T
  obtain ⟨c0, c1, c2, c3, c4, c5, k1⟩ := T'
  go_wp2_with fail
  clear c0 c1 c2 c3 c4 c5 k1
  refine (implPtOk_any _ _ _).mono ?_; rintro e w3 ⟨rfl, b3⟩
  replace T := T.below b3
  clear b3
  have T' := T
  obtain ⟨c0, c1, c2, c3, c4, c5, k1⟩ := T'
  go_wp2
  go_ret
  exact ⟨rfl, k1⟩

set_option maxHeartbeats 400000 in
theorem implAlong_highnx (ax ay bx by_ px py l : Int) (w : World) (ha : ptB ax ay = true) (hb : ptB bx by_ = true) (hp : ptB px py = true) (hx : ¬ ax = bx) (hl : 1000000 < l) :
    Calls Try.prog 13 #[.agg #[.int .i64 ax, .int .i64 ay], .agg #[.int .i64 bx, .int .i64 by_], .agg #[.int .i64 px, .int .i64 py], .int .i64 l] w fun e w' => e = .returned (.int .i64 0) ∧ Below w.heap.size w w' := by
  have T := tri_boxed w ax ay bx by_ px py 25
  go_enter Try.func13, Try.ntmps13
  go_wp2_with fail
  refine (implPtOk_any _ _ _).mono ?_; rintro e w1 ⟨rfl, b1⟩
  replace T := T.below b1
  clear b1
  have T' := T
  obtain ⟨c0, c1, c2, c3, c4, c5, k1⟩ := T'
  go_wp2_with fail
  clear c0 c1 c2 c3 c4 c5 k1
  refine (implPtOk_any _ _ _).mono ?_; rintro e w2 ⟨rfl, b2⟩
  replace T := T.below b2
  clear b2
  have T' := T
  obtain ⟨c0, c1, c2, c3, c4, c5, k1⟩ := T'
  go_wp2_with fail
  clear c0 c1 c2 c3 c4 c5 k1
  refine (implPtOk_any _ _ _).mono ?_; rintro e w3 ⟨rfl, b3⟩
  replace T := T.below b3
  clear b3
  have T' := T
  obtain ⟨c0, c1, c2, c3, c4, c5, k1⟩ := T'
  go_wp2
  go_ret
  exact ⟨rfl, k1⟩

set_option maxHeartbeats 1000000 in
theorem implAlong_nx (ax ay bx by_ px py l : Int) (w : World) (ha : ptB ax ay = true) (hb : ptB bx by_ = true) (hp : ptB px py = true) (hx : ¬ ax = bx) (h0 : 0 ≤ l) (h1 : l ≤ 1000000) :
    Calls Try.prog 13 #[.agg #[.int .i64 ax, .int .i64 ay], .agg #[.int .i64 bx, .int .i64 by_], .agg #[.int .i64 px, .int .i64 py], .int .i64 l] w fun e w' => e = .returned (.int .i64 (l * shr ax ay bx by_ px py / d2 ax ay bx by_)) ∧ Below w.heap.size w w' := by
  have hd := d2_pos ha hb (fun h => hx h.1)
  have hd' := d2_bd ax ay bx by_
  have hm := shr_bd ax ay bx by_ px py
  obtain ⟨e1, e2, e3, e4⟩ := al_nums h0 h1 hm.1 hm.2 hd'.2
  have T := tri_boxed w ax ay bx by_ px py 25
  have E1 := Lib.hid e1; have E2 := Lib.hid e2
  clear e1 e2
  go_enter Try.func13, Try.ntmps13
  go_wp2_with fail
  refine (implPtOk_any _ _ _).mono ?_; rintro e w1 ⟨rfl, b1⟩
  replace T := T.below b1
  clear b1
  have T' := T
  obtain ⟨c0, c1, c2, c3, c4, c5, k1⟩ := T'
  go_wp2_with fail
  clear c0 c1 c2 c3 c4 c5 k1
  refine (implPtOk_any _ _ _).mono ?_; rintro e w2 ⟨rfl, b2⟩
  replace T := T.below b2
  clear b2
  have T' := T
  obtain ⟨c0, c1, c2, c3, c4, c5, k1⟩ := T'
  go_wp2_with fail
  clear c0 c1 c2 c3 c4 c5 k1
  refine (implPtOk_any _ _ _).mono ?_; rintro e w3 ⟨rfl, b3⟩
  replace T := T.below b3
  clear b3
  have T' := T
  obtain ⟨c0, c1, c2, c3, c4, c5, k1⟩ := T'
  go_wp2_with fail
  have e1 := E1.out
  go_region_held3 (fun w' => Tri w w.heap.size (w.heap.size + 1) (w.heap.size + 2) ax ay bx by_ px py w') (first | exact Tri.drew T | (refine Tri.under (by assumption) ?_; assumption) | assumption)
    (first
      | (go_at_call 30; refine (share_any _ _ _ _ _ _ _ ha hb hp).mono ?_; rintro e w1 ⟨rfl, b1⟩)
      | (go_at_call 20; refine (implDist2_any _ _ _ _ _).mono ?_; rintro e w1 ⟨rfl, b1⟩)
      | (go_at_call 31; refine (implFloor_any (by assumption) (by assumption) (by assumption) _).mono ?_; rintro e w1 ⟨rfl, rfl⟩))
  rename_i hT
  obtain ⟨-, -, -, -, -, -, k⟩ := hT
  go_wp2
  go_ret
  exact ⟨rfl, k⟩

set_option maxHeartbeats 400000 in
theorem implAlong_lowny (ax ay by_ px py l : Int) (w : World) (ha : ptB ax ay = true) (hb : ptB ax by_ = true) (hp : ptB px py = true) (hy : ¬ ay = by_) (hl : l < 0) :
    Calls Try.prog 13 #[.agg #[.int .i64 ax, .int .i64 ay], .agg #[.int .i64 ax, .int .i64 by_], .agg #[.int .i64 px, .int .i64 py], .int .i64 l] w fun e w' => e = .returned (.int .i64 0) ∧ Below w.heap.size w w' := by
  have T := tri_boxed w ax ay ax by_ px py 25
  go_enter Try.func13, Try.ntmps13
  go_wp2_with fail
  refine (implPtOk_any _ _ _).mono ?_; rintro e w1 ⟨rfl, b1⟩
  replace T := T.below b1
  clear b1
  have T' := T
  obtain ⟨c0, c1, c2, c3, c4, c5, k1⟩ := T'
  go_wp2_with fail
  clear c0 c1 c2 c3 c4 c5 k1
  refine (implPtOk_any _ _ _).mono ?_; rintro e w2 ⟨rfl, b2⟩
  replace T := T.below b2
  clear b2
  have T' := T
  obtain ⟨c0, c1, c2, c3, c4, c5, k1⟩ := T'
  go_wp2_with fail
  clear c0 c1 c2 c3 c4 c5 k1
  refine (implPtOk_any _ _ _).mono ?_; rintro e w3 ⟨rfl, b3⟩
  replace T := T.below b3
  clear b3
  have T' := T
  obtain ⟨c0, c1, c2, c3, c4, c5, k1⟩ := T'
  go_wp2
  go_ret
  exact ⟨rfl, k1⟩

set_option maxHeartbeats 400000 in
theorem implAlong_highny (ax ay by_ px py l : Int) (w : World) (ha : ptB ax ay = true) (hb : ptB ax by_ = true) (hp : ptB px py = true) (hy : ¬ ay = by_) (hl : 1000000 < l) :
    Calls Try.prog 13 #[.agg #[.int .i64 ax, .int .i64 ay], .agg #[.int .i64 ax, .int .i64 by_], .agg #[.int .i64 px, .int .i64 py], .int .i64 l] w fun e w' => e = .returned (.int .i64 0) ∧ Below w.heap.size w w' := by
  have T := tri_boxed w ax ay ax by_ px py 25
  go_enter Try.func13, Try.ntmps13
  go_wp2_with fail
  refine (implPtOk_any _ _ _).mono ?_; rintro e w1 ⟨rfl, b1⟩
  replace T := T.below b1
  clear b1
  have T' := T
  obtain ⟨c0, c1, c2, c3, c4, c5, k1⟩ := T'
  go_wp2_with fail
  clear c0 c1 c2 c3 c4 c5 k1
  refine (implPtOk_any _ _ _).mono ?_; rintro e w2 ⟨rfl, b2⟩
  replace T := T.below b2
  clear b2
  have T' := T
  obtain ⟨c0, c1, c2, c3, c4, c5, k1⟩ := T'
  go_wp2_with fail
  clear c0 c1 c2 c3 c4 c5 k1
  refine (implPtOk_any _ _ _).mono ?_; rintro e w3 ⟨rfl, b3⟩
  replace T := T.below b3
  clear b3
  have T' := T
  obtain ⟨c0, c1, c2, c3, c4, c5, k1⟩ := T'
  go_wp2
  go_ret
  exact ⟨rfl, k1⟩

set_option maxHeartbeats 1000000 in
theorem implAlong_ny (ax ay by_ px py l : Int) (w : World) (ha : ptB ax ay = true) (hb : ptB ax by_ = true) (hp : ptB px py = true) (hy : ¬ ay = by_) (h0 : 0 ≤ l) (h1 : l ≤ 1000000) :
    Calls Try.prog 13 #[.agg #[.int .i64 ax, .int .i64 ay], .agg #[.int .i64 ax, .int .i64 by_], .agg #[.int .i64 px, .int .i64 py], .int .i64 l] w fun e w' => e = .returned (.int .i64 (l * shr ax ay ax by_ px py / d2 ax ay ax by_)) ∧ Below w.heap.size w w' := by
  have hd := d2_pos ha hb (fun h => hy h.2)
  have hd' := d2_bd ax ay ax by_
  have hm := shr_bd ax ay ax by_ px py
  obtain ⟨e1, e2, e3, e4⟩ := al_nums h0 h1 hm.1 hm.2 hd'.2
  have T := tri_boxed w ax ay ax by_ px py 25
  have E1 := Lib.hid e1; have E2 := Lib.hid e2
  clear e1 e2
  go_enter Try.func13, Try.ntmps13
  go_wp2_with fail
  refine (implPtOk_any _ _ _).mono ?_; rintro e w1 ⟨rfl, b1⟩
  replace T := T.below b1
  clear b1
  have T' := T
  obtain ⟨c0, c1, c2, c3, c4, c5, k1⟩ := T'
  go_wp2_with fail
  clear c0 c1 c2 c3 c4 c5 k1
  refine (implPtOk_any _ _ _).mono ?_; rintro e w2 ⟨rfl, b2⟩
  replace T := T.below b2
  clear b2
  have T' := T
  obtain ⟨c0, c1, c2, c3, c4, c5, k1⟩ := T'
  go_wp2_with fail
  clear c0 c1 c2 c3 c4 c5 k1
  refine (implPtOk_any _ _ _).mono ?_; rintro e w3 ⟨rfl, b3⟩
  replace T := T.below b3
  clear b3
  have T' := T
  obtain ⟨c0, c1, c2, c3, c4, c5, k1⟩ := T'
  go_wp2_with fail
  have e1 := E1.out
  go_region_held3 (fun w' => Tri w w.heap.size (w.heap.size + 1) (w.heap.size + 2) ax ay ax by_ px py w') (first | exact Tri.drew T | (refine Tri.under (by assumption) ?_; assumption) | assumption)
    (first
      | (go_at_call 30; refine (share_any _ _ _ _ _ _ _ ha hb hp).mono ?_; rintro e w1 ⟨rfl, b1⟩)
      | (go_at_call 20; refine (implDist2_any _ _ _ _ _).mono ?_; rintro e w1 ⟨rfl, b1⟩)
      | (go_at_call 31; refine (implFloor_any (by assumption) (by assumption) (by assumption) _).mono ?_; rintro e w1 ⟨rfl, rfl⟩))
  rename_i hT
  obtain ⟨-, -, -, -, -, -, k⟩ := hT
  go_wp2
  go_ret
  exact ⟨rfl, k⟩

theorem implAlong_any (ax ay bx by_ px py l : Int) (w : World) :
    Calls Try.prog 13 #[.agg #[.int .i64 ax, .int .i64 ay], .agg #[.int .i64 bx, .int .i64 by_], .agg #[.int .i64 px, .int .i64 py], .int .i64 l] w fun e w' => e = .returned (.int .i64 (al ax ay bx by_ px py l)) ∧ Below w.heap.size w w' := by
  cases ha : ptB ax ay with
  | false => rw [al_bad (.inl ha)]; exact implAlong_bad1 ax ay bx by_ px py l w ha
  | true =>
    cases hb : ptB bx by_ with
    | false => rw [al_bad (.inr (.inl hb))]; exact implAlong_bad2 ax ay bx by_ px py l w ha hb
    | true =>
      cases hp : ptB px py with
      | false => rw [al_bad (.inr (.inr (.inl hp)))]; exact implAlong_bad3 ax ay bx by_ px py l w ha hb hp
      | true =>
        by_cases hx : ax = bx
        · subst hx
          by_cases hy : ay = by_
          · subst hy
            rw [al_same]
            exact implAlong_same ax ay px py l w ha hp
          · rcases Int.lt_or_le l 0 with h0 | h0
            · rw [al_bad (.inr (.inr (.inr (.inl h0))))]; exact implAlong_lowny ax ay by_ px py l w ha hb hp hy h0
            · rcases Int.lt_or_le 1000000 l with h1 | h1
              · rw [al_bad (.inr (.inr (.inr (.inr h1))))]; exact implAlong_highny ax ay by_ px py l w ha hb hp hy h1
              · rw [al_ok ha hb hp h0 h1]; exact implAlong_ny ax ay by_ px py l w ha hb hp hy h0 h1
        · rcases Int.lt_or_le l 0 with h0 | h0
          · rw [al_bad (.inr (.inr (.inr (.inl h0))))]; exact implAlong_lownx ax ay bx by_ px py l w ha hb hp hx h0
          · rcases Int.lt_or_le 1000000 l with h1 | h1
            · rw [al_bad (.inr (.inr (.inr (.inr h1))))]; exact implAlong_highnx ax ay bx by_ px py l w ha hb hp hx h1
            · rw [al_ok ha hb hp h0 h1]; exact implAlong_nx ax ay bx by_ px py l w ha hb hp hx h0 h1

end Go.Proofs.Ytgfgolcbioffiaa
