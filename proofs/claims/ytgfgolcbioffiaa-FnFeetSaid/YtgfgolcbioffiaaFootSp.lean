/-
  What spec.Foot and spec.Along compute.
-/
import Derived.Test.YtgfgolcbioffiaaPart
namespace Go.Proofs.Ytgfgolcbioffiaa
open Go.RowKit Go.Deep

theorem specFloor_any {n d : Int} (h0 : -100000000000000000 ≤ n) (h1 : n ≤ 100000000000000000) (hd : 0 < d) (w : World) :
    Calls Try.prog 33 #[.int .i64 n, .int .i64 d] w fun e w' => e = .returned (.int .i64 (n / d)) ∧ w = w' := by
  have h := specFloorDiv_any n d w
  rw [fd_pos hd (by omega) (by omega)] at h
  exact h
theorem specFloor_still {n d : Int} (h0 : -100000000000000000 ≤ n) (h1 : n ≤ 100000000000000000) (hd : 0 < d) (w : World) :
    Calls Try.prog 33 #[.int .i64 n, .int .i64 d] w fun e w' => e = .returned (.int .i64 (n / d)) ∧ w' = w :=
  (specFloor_any h0 h1 hd w).mono fun _ _ ⟨g1, g2⟩ => ⟨g1, g2.symm⟩

set_option maxHeartbeats 400000 in
theorem specFoot_bad1 (ax ay bx by_ px py : Int) (w : World) (ha : ptB ax ay = false) :
    Calls Try.prog 14 #[.agg #[.int .i64 ax, .int .i64 ay], .agg #[.int .i64 bx, .int .i64 by_], .agg #[.int .i64 px, .int .i64 py]] w fun e w' => e = .returned (.agg #[.int .i64 0, .int .i64 0]) ∧ Below w.heap.size w w' := by
  obtain ⟨T, Z⟩ := quad_boxed w ax ay bx by_ px py 25
  go_enter Try.func14, Try.ntmps14
  go_wp2_with fail
  refine (specPtOk_any _ _ _).mono ?_; rintro e w1 ⟨rfl, b1⟩
  replace T := T.below b1
  replace Z := Zero.under b1 Z
  clear b1
  have T' := T
  obtain ⟨c0, c1, c2, c3, c4, c5, k1⟩ := T'
  obtain ⟨z0, z1, z2, z3⟩ := Z
  go_wp2
  exact bodyPost_ret (v := .agg #[.int .i64 0, .int .i64 0]) (by simp [results, Try.results14, go_sem, z0, z1]) rfl ⟨rfl, (k1.setCell (by simp; omega) _).setCell (by simp; omega) _⟩

set_option maxHeartbeats 400000 in
theorem specFoot_bad2 (ax ay bx by_ px py : Int) (w : World) (ha : ptB ax ay = true) (hb : ptB bx by_ = false) :
    Calls Try.prog 14 #[.agg #[.int .i64 ax, .int .i64 ay], .agg #[.int .i64 bx, .int .i64 by_], .agg #[.int .i64 px, .int .i64 py]] w fun e w' => e = .returned (.agg #[.int .i64 0, .int .i64 0]) ∧ Below w.heap.size w w' := by
  obtain ⟨T, Z⟩ := quad_boxed w ax ay bx by_ px py 25
  go_enter Try.func14, Try.ntmps14
  go_wp2_with fail
  refine (specPtOk_any _ _ _).mono ?_; rintro e w1 ⟨rfl, b1⟩
  replace T := T.below b1
  replace Z := Zero.under b1 Z
  clear b1
  have T' := T
  obtain ⟨c0, c1, c2, c3, c4, c5, k1⟩ := T'
  go_wp2_with fail
  clear c0 c1 c2 c3 c4 c5 k1
  refine (specPtOk_any _ _ _).mono ?_; rintro e w2 ⟨rfl, b2⟩
  replace T := T.below b2
  replace Z := Zero.under b2 Z
  clear b2
  have T' := T
  obtain ⟨c0, c1, c2, c3, c4, c5, k1⟩ := T'
  obtain ⟨z0, z1, z2, z3⟩ := Z
  go_wp2
  exact bodyPost_ret (v := .agg #[.int .i64 0, .int .i64 0]) (by simp [results, Try.results14, go_sem, z0, z1]) rfl ⟨rfl, (k1.setCell (by simp; omega) _).setCell (by simp; omega) _⟩

set_option maxHeartbeats 400000 in
theorem specFoot_bad3 (ax ay bx by_ px py : Int) (w : World) (ha : ptB ax ay = true) (hb : ptB bx by_ = true) (hp : ptB px py = false) :
    Calls Try.prog 14 #[.agg #[.int .i64 ax, .int .i64 ay], .agg #[.int .i64 bx, .int .i64 by_], .agg #[.int .i64 px, .int .i64 py]] w fun e w' => e = .returned (.agg #[.int .i64 0, .int .i64 0]) ∧ Below w.heap.size w w' := by
  obtain ⟨T, Z⟩ := quad_boxed w ax ay bx by_ px py 25
  go_enter Try.func14, Try.ntmps14
  go_wp2_with fail
  refine (specPtOk_any _ _ _).mono ?_; rintro e w1 ⟨rfl, b1⟩
  replace T := T.below b1
  replace Z := Zero.under b1 Z
  clear b1
  have T' := T
  obtain ⟨c0, c1, c2, c3, c4, c5, k1⟩ := T'
  go_wp2_with fail
  clear c0 c1 c2 c3 c4 c5 k1
  refine (specPtOk_any _ _ _).mono ?_; rintro e w2 ⟨rfl, b2⟩
  replace T := T.below b2
  replace Z := Zero.under b2 Z
  clear b2
  have T' := T
  obtain ⟨c0, c1, c2, c3, c4, c5, k1⟩ := T'
  go_wp2_with fail
  clear c0 c1 c2 c3 c4 c5 k1
  refine (specPtOk_any _ _ _).mono ?_; rintro e w3 ⟨rfl, b3⟩
  replace T := T.below b3
  replace Z := Zero.under b3 Z
  clear b3
  have T' := T
  obtain ⟨c0, c1, c2, c3, c4, c5, k1⟩ := T'
  obtain ⟨z0, z1, z2, z3⟩ := Z
  go_wp2
  exact bodyPost_ret (v := .agg #[.int .i64 0, .int .i64 0]) (by simp [results, Try.results14, go_sem, z0, z1]) rfl ⟨rfl, (k1.setCell (by simp; omega) _).setCell (by simp; omega) _⟩

set_option maxHeartbeats 400000 in
theorem specFoot_same (ax ay bx by_ px py : Int) (w : World) (ha : ptB ax ay = true) (hb : ptB bx by_ = true) (hp : ptB px py = true) (hq : partB ax ay bx by_ px py = false) :
    Calls Try.prog 14 #[.agg #[.int .i64 ax, .int .i64 ay], .agg #[.int .i64 bx, .int .i64 by_], .agg #[.int .i64 px, .int .i64 py]] w fun e w' => e = .returned (.agg #[.int .i64 ax, .int .i64 ay]) ∧ Below w.heap.size w w' := by
  obtain ⟨T, Z⟩ := quad_boxed w ax ay bx by_ px py 25
  go_enter Try.func14, Try.ntmps14
  go_wp2_with fail
  refine (specPtOk_any _ _ _).mono ?_; rintro e w1 ⟨rfl, b1⟩
  replace T := T.below b1
  replace Z := Zero.under b1 Z
  clear b1
  have T' := T
  obtain ⟨c0, c1, c2, c3, c4, c5, k1⟩ := T'
  go_wp2_with fail
  clear c0 c1 c2 c3 c4 c5 k1
  refine (specPtOk_any _ _ _).mono ?_; rintro e w2 ⟨rfl, b2⟩
  replace T := T.below b2
  replace Z := Zero.under b2 Z
  clear b2
  have T' := T
  obtain ⟨c0, c1, c2, c3, c4, c5, k1⟩ := T'
  go_wp2_with fail
  clear c0 c1 c2 c3 c4 c5 k1
  refine (specPtOk_any _ _ _).mono ?_; rintro e w3 ⟨rfl, b3⟩
  replace T := T.below b3
  replace Z := Zero.under b3 Z
  clear b3
  have T' := T
  obtain ⟨c0, c1, c2, c3, c4, c5, k1⟩ := T'
  go_wp2_with fail
  clear c0 c1 c2 c3 c4 c5 k1
  refine (part_any _ _ _ _ _ _ _).mono ?_; rintro e w4 ⟨rfl, b4⟩
  replace T := T.below b4
  replace Z := Zero.under b4 Z
  clear b4
  obtain ⟨z0, z1, z2, z3⟩ := Z
  obtain ⟨c0, c1, c2, c3, c4, c5, k1⟩ := T
  go_wp2
  exact bodyPost_ret (v := .agg #[.int .i64 ax, .int .i64 ay]) (by simp [results, Try.results14, go_sem, z0, z1]) rfl ⟨rfl, (k1.setCell (by simp; omega) _).setCell (by simp; omega) _⟩

theorem partV_yes {ax ay bx by_ px py : Int} (h : partB ax ay bx by_ px py = true) : partV ax ay bx by_ px py = shr ax ay bx by_ px py := by unfold partV; rw [h]; rfl
theorem partB_ne {ax ay bx by_ px py : Int} (h : partB ax ay bx by_ px py = true) : ptB ax ay = true ∧ ptB bx by_ = true ∧ ptB px py = true ∧ ¬ (ax = bx ∧ ay = by_) := by
  unfold partB at h
  simp only [Bool.and_eq_true, Bool.not_eq_true', decide_eq_false_iff_not] at h
  exact ⟨h.1.1.1, h.1.1.2, h.1.2, h.2⟩
theorem partB_no {ax ay bx by_ px py : Int} (ha : ptB ax ay = true) (hb : ptB bx by_ = true) (hp : ptB px py = true) (h : partB ax ay bx by_ px py = false) : ax = bx ∧ ay = by_ := by
  unfold partB at h
  rw [ha, hb, hp] at h
  simpa using h

theorem sub_in {a b : Int} (ha : -10000 ≤ a ∧ a ≤ 10000) (hb : -10000 ≤ b ∧ b ≤ 10000) : IntKind.i64.wrap (a - b) = a - b := IntWalk.i64_in _ (by omega)

set_option maxHeartbeats 1000000 in
theorem specFoot_ok (ax ay bx by_ px py : Int) (w : World) (hq : partB ax ay bx by_ px py = true) :
    Calls Try.prog 14 #[.agg #[.int .i64 ax, .int .i64 ay], .agg #[.int .i64 bx, .int .i64 by_], .agg #[.int .i64 px, .int .i64 py]] w fun e w' => e = .returned (.agg #[.int .i64 (ftX ax ay bx by_ px py), .int .i64 (ftY ax ay bx by_ px py)]) ∧ Below w.heap.size w w' := by
  obtain ⟨ha, hb, hp, hne⟩ := partB_ne hq
  have hd := d2_pos ha hb hne
  clear hne
  have hd' := d2_bd ax ay bx by_
  have hm := shr_bd ax ay bx by_ px py
  have HQ := Lib.hid (partV_yes hq)
  have ga := ptB_true ha
  have gb := ptB_true hb
  obtain ⟨e1, e2, e3, e3'⟩ := foot_nums (a := ax) (u := bx - ax) (by omega) (by omega) hm.1 hm.2 hd hd'.2
  obtain ⟨e4, e5, e6, e6'⟩ := foot_nums (a := ay) (u := by_ - ay) (by omega) (by omega) hm.1 hm.2 hd hd'.2
  have E1 := Lib.hid e1; have E2 := Lib.hid e2; have E4 := Lib.hid e4; have E5 := Lib.hid e5
  have E7 := Lib.hid (sub_in (a := bx) (b := ax) (by omega) (by omega))
  have E8 := Lib.hid (sub_in (a := by_) (b := ay) (by omega) (by omega))
  clear e1 e2 e4 e5
  obtain ⟨T, Z⟩ := quad_boxed w ax ay bx by_ px py 25
  go_enter Try.func14, Try.ntmps14
  go_wp2_with fail
  refine (specPtOk_any _ _ _).mono ?_; rintro e w1 ⟨rfl, b1⟩
  replace T := T.below b1
  replace Z := Zero.under b1 Z
  clear b1
  have T' := T
  obtain ⟨c0, c1, c2, c3, c4, c5, k1⟩ := T'
  go_wp2_with fail
  clear c0 c1 c2 c3 c4 c5 k1
  refine (specPtOk_any _ _ _).mono ?_; rintro e w2 ⟨rfl, b2⟩
  replace T := T.below b2
  replace Z := Zero.under b2 Z
  clear b2
  have T' := T
  obtain ⟨c0, c1, c2, c3, c4, c5, k1⟩ := T'
  go_wp2_with fail
  clear c0 c1 c2 c3 c4 c5 k1
  refine (specPtOk_any _ _ _).mono ?_; rintro e w3 ⟨rfl, b3⟩
  replace T := T.below b3
  replace Z := Zero.under b3 Z
  clear b3
  have T' := T
  obtain ⟨c0, c1, c2, c3, c4, c5, k1⟩ := T'
  go_wp2_with fail
  clear c0 c1 c2 c3 c4 c5 k1
  refine (part_any _ _ _ _ _ _ _).mono ?_; rintro e w4 ⟨rfl, b4⟩
  rw [HQ.out]
  replace T := T.below b4
  replace Z := Zero.under b4 Z
  clear b4
  have T' := T
  obtain ⟨c0, c1, c2, c3, c4, c5, k1⟩ := T'
  go_wp2_with fail
  clear c0 c1 c2 c3 c4 c5 k1
  refine (specDist2_any _ _ _ _ _).mono ?_; rintro e w5 ⟨rfl, b5⟩
  replace T := T.below b5
  replace Z := Zero.under b5 Z
  clear b5
  go_wp2_with fail
  have e1 := E1.out; have e2 := E2.out; have e4 := E4.out; have e5 := E5.out; have e7 := E7.out; have e8 := E8.out
  replace T := T.drew
  replace Z := Z.drew
  refine wp_region_still_tail 25 (by kernel_rfl) (by kernel_rfl) ?_
  simp only [List.take_succ_cons, List.take_zero, List.drop_succ_cons, List.drop_zero]
  change wpStill _ _ w5.drew (fun a' => wpList _ _ _ _ a' w5.drew) _ _
  generalize w5.drew = W at T Z ⊢
  obtain ⟨z0, z1, z2, z3⟩ := Z
  obtain ⟨c0, c1, c2, c3, c4, c5, k1⟩ := T
  repeat (first | still_step | still_call (specFloor_still (by assumption) (by assumption) (by assumption) _))
  refine wpStill_nil ?_
  go_wp2
  exact bodyPost_ret (v := .agg #[.int .i64 (ftX ax ay bx by_ px py), .int .i64 (ftY ax ay bx by_ px py)]) (by simp [results, Try.results14, go_sem, z0, z1, ftX, ftY]) rfl ⟨rfl, (k1.setCell (by simp; omega) _).setCell (by simp; omega) _⟩

theorem specFoot_any (ax ay bx by_ px py : Int) (w : World) :
    Calls Try.prog 14 #[.agg #[.int .i64 ax, .int .i64 ay], .agg #[.int .i64 bx, .int .i64 by_], .agg #[.int .i64 px, .int .i64 py]] w fun e w' => e = .returned (.agg #[.int .i64 (fX ax ay bx by_ px py), .int .i64 (fY ax ay bx by_ px py)]) ∧ Below w.heap.size w w' := by
  cases ha : ptB ax ay with
  | false => obtain ⟨h1, h2⟩ := f_bad (ax := ax) (ay := ay) (bx := bx) (by_ := by_) (px := px) (py := py) (.inl ha); rw [h1, h2]; exact specFoot_bad1 ax ay bx by_ px py w ha
  | true =>
    cases hb : ptB bx by_ with
    | false => obtain ⟨h1, h2⟩ := f_bad (ax := ax) (ay := ay) (bx := bx) (by_ := by_) (px := px) (py := py) (.inr (.inl hb)); rw [h1, h2]; exact specFoot_bad2 ax ay bx by_ px py w ha hb
    | true =>
      cases hp : ptB px py with
      | false => obtain ⟨h1, h2⟩ := f_bad (ax := ax) (ay := ay) (bx := bx) (by_ := by_) (px := px) (py := py) (.inr (.inr hp)); rw [h1, h2]; exact specFoot_bad3 ax ay bx by_ px py w ha hb hp
      | true =>
        rw [fX_ok ha hb hp, fY_ok ha hb hp]
        cases hq : partB ax ay bx by_ px py with
        | true => exact specFoot_ok ax ay bx by_ px py w hq
        | false =>
          obtain ⟨rfl, rfl⟩ := partB_no ha hb hp hq
          rw [(ft_same ax ay px py).1, (ft_same ax ay px py).2]
          exact specFoot_same ax ay ax ay px py w ha hb hp hq

theorem specAlong_no (ax ay bx by_ px py l : Int) (w : World) (hq : partB ax ay bx by_ px py = false) :
    Calls Try.prog 15 #[.agg #[.int .i64 ax, .int .i64 ay], .agg #[.int .i64 bx, .int .i64 by_], .agg #[.int .i64 px, .int .i64 py], .int .i64 l] w fun e w' => e = .returned (.int .i64 0) ∧ Below w.heap.size w w' := by
  have T := tri_boxed w ax ay bx by_ px py 25
  go_enter Try.func15, Try.ntmps15
  go_wp2_with fail
  refine (part_any _ _ _ _ _ _ _).mono ?_; rintro e w4 ⟨rfl, b4⟩
  replace T := T.below b4
  clear b4
  obtain ⟨c0, c1, c2, c3, c4, c5, k1⟩ := T
  go_wp2
  go_ret
  exact ⟨rfl, k1⟩

theorem specAlong_len (ax ay bx by_ px py l : Int) (w : World) (hq : partB ax ay bx by_ px py = true) (hl : btB l 0 1000000 = false) :
    Calls Try.prog 15 #[.agg #[.int .i64 ax, .int .i64 ay], .agg #[.int .i64 bx, .int .i64 by_], .agg #[.int .i64 px, .int .i64 py], .int .i64 l] w fun e w' => e = .returned (.int .i64 0) ∧ Below w.heap.size w w' := by
  have T := tri_boxed w ax ay bx by_ px py 25
  go_enter Try.func15, Try.ntmps15
  go_wp2_with fail
  refine (part_any _ _ _ _ _ _ _).mono ?_; rintro e w4 ⟨rfl, b4⟩
  replace T := T.below b4
  clear b4
  obtain ⟨c0, c1, c2, c3, c4, c5, k1⟩ := T
  go_wp2_with fail
  refine (between_any _ _ _ _).mono ?_; rintro e w' ⟨rfl, rfl⟩
  go_wp2
  go_ret
  exact ⟨rfl, k1⟩

theorem specAlong_ok (ax ay bx by_ px py l : Int) (w : World) (hq : partB ax ay bx by_ px py = true) (h0 : 0 ≤ l) (h1 : l ≤ 1000000) :
    Calls Try.prog 15 #[.agg #[.int .i64 ax, .int .i64 ay], .agg #[.int .i64 bx, .int .i64 by_], .agg #[.int .i64 px, .int .i64 py], .int .i64 l] w fun e w' => e = .returned (.int .i64 (l * shr ax ay bx by_ px py / d2 ax ay bx by_)) ∧ Below w.heap.size w w' := by
  obtain ⟨ha, hb, hp, hne⟩ := partB_ne hq
  have hd := d2_pos ha hb hne
  clear hne ha hb hp
  have hd' := d2_bd ax ay bx by_
  have hm := shr_bd ax ay bx by_ px py
  have HQ := Lib.hid (partV_yes hq)
  have hl := btB_true h0 h1
  obtain ⟨-, -, e3, e4⟩ := al_nums h0 h1 hm.1 hm.2 hd'.2
  have T := tri_boxed w ax ay bx by_ px py 25
  go_enter Try.func15, Try.ntmps15
  go_wp2_with fail
  refine (part_any _ _ _ _ _ _ _).mono ?_; rintro e w4 ⟨rfl, b4⟩
  rw [HQ.out]
  replace T := T.below b4
  clear b4
  have T' := T
  obtain ⟨c0, c1, c2, c3, c4, c5, k1⟩ := T'
  go_wp2_with fail
  refine (between_any _ _ _ _).mono ?_; rintro e w' ⟨rfl, rfl⟩
  go_wp2_with fail
  refine (specDist2_any _ _ _ _ _).mono ?_; rintro e w5 ⟨rfl, b5⟩
  have k5 := k1.trans (b5.mono k1.size)
  go_wp2_with fail
  refine (specFloor_any (by assumption) (by assumption) (by assumption) _).mono ?_; rintro e w' ⟨rfl, rfl⟩
  go_wp2
  go_ret
  exact ⟨rfl, k5⟩

theorem specAlong_any (ax ay bx by_ px py l : Int) (w : World) :
    Calls Try.prog 15 #[.agg #[.int .i64 ax, .int .i64 ay], .agg #[.int .i64 bx, .int .i64 by_], .agg #[.int .i64 px, .int .i64 py], .int .i64 l] w fun e w' => e = .returned (.int .i64 (al ax ay bx by_ px py l)) ∧ Below w.heap.size w w' := by
  cases hq : partB ax ay bx by_ px py with
  | false =>
    have e : al ax ay bx by_ px py l = 0 := by
      by_cases h : ptB ax ay = true ∧ ptB bx by_ = true ∧ ptB px py = true
      · obtain ⟨rfl, rfl⟩ := partB_no h.1 h.2.1 h.2.2 hq
        exact al_same _ _ _ _ _
      · refine al_bad ?_
        rcases Bool.eq_false_or_eq_true (ptB ax ay) with h1 | h1
        · rcases Bool.eq_false_or_eq_true (ptB bx by_) with h2 | h2
          · rcases Bool.eq_false_or_eq_true (ptB px py) with h3 | h3
            · exact absurd ⟨h1, h2, h3⟩ h
            · exact .inr (.inr (.inl h3))
          · exact .inr (.inl h2)
        · exact .inl h1
    rw [e]; exact specAlong_no ax ay bx by_ px py l w hq
  | true =>
    rcases Int.lt_or_le l 0 with h0 | h0
    · rw [al_bad (.inr (.inr (.inr (.inl h0))))]; exact specAlong_len ax ay bx by_ px py l w hq (btB_low (by omega))
    · rcases Int.lt_or_le 1000000 l with h1 | h1
      · rw [al_bad (.inr (.inr (.inr (.inr h1))))]; exact specAlong_len ax ay bx by_ px py l w hq (btB_high (by omega))
      · obtain ⟨ha, hb, hp, -⟩ := partB_ne hq
        rw [al_ok ha hb hp h0 h1]; exact specAlong_ok ax ay bx by_ px py l w hq h0 h1

end Go.Proofs.Ytgfgolcbioffiaa
