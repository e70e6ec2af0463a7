/-
  What impl.Foot and impl.Along compute.
-/
import Derived.Test.YtgfgolcbioffiaaFoot
import Derived.StillTailTactics
namespace Go.Proofs.Ytgfgolcbioffiaa
open Go.RowKit Go.Deep

/-- A block of the call's own holds the zero point. -/
abbrev Zero (w : World) (b : Nat) : Prop := w.cell? ⟨b, 0, none⟩ = some (.int .i64 0) ∧ w.cell? ⟨b, 1, none⟩ = some (.int .i64 0) ∧ w.frozen? ⟨b, 0, none⟩ = false ∧ w.frozen? ⟨b, 1, none⟩ = false
theorem Zero.under {w w' : World} {b : Nat} (hb : Below w.heap.size w w') (h : Zero w b) : Zero w' b := by
  have g : b < w.heap.size := by simpa using World.block_lt_of_cell? w _ h.1
  exact ⟨(hb.cell (p := ⟨b, 0, none⟩) g).trans h.1, (hb.cell (p := ⟨b, 1, none⟩) g).trans h.2.1, (hb.frozen (p := ⟨b, 0, none⟩) g).trans h.2.2.1, (hb.frozen (p := ⟨b, 1, none⟩) g).trans h.2.2.2⟩
theorem Zero.drew {w : World} {b : Nat} (h : Zero w b) : Zero w.drew b := ⟨h.1, h.2.1, h.2.2.1, h.2.2.2⟩
theorem Zero.new {w : World} {b : Nat} (hb : b = w.heap.size) (t : TypeId) : Zero (w.alloc (.cells #[.int .i64 0, .int .i64 0] t)) b := by
  subst hb
  have h := heap_alloc_new w (.cells #[.int .i64 0, .int .i64 0] t)
  exact ⟨by rw [cell_of_block h]; rfl, by rw [cell_of_block h]; rfl, frozen_of_block h, frozen_of_block h⟩
theorem Zero.first {V w : World} {t : TypeId} (hb : Below (V.alloc (.cells #[.int .i64 0, .int .i64 0] t)).heap.size (V.alloc (.cells #[.int .i64 0, .int .i64 0] t)) w) : Zero w V.heap.size := Zero.under hb (Zero.new rfl t)
theorem Zero.first' {V w : World} {t : TypeId} (hb : Below (V.alloc (.cells #[.int .i64 0, .int .i64 0] t)).drew.heap.size (V.alloc (.cells #[.int .i64 0, .int .i64 0] t)).drew w) : Zero w V.heap.size := Zero.under hb (Zero.drew (Zero.new rfl t))
theorem Tri.lt2 {base : World} {b0 b1 b2 : Nat} {ax ay bx by_ px py : Int} {w : World} (h : Tri base b0 b1 b2 ax ay bx by_ px py w) : b2 < w.heap.size := by simpa using World.block_lt_of_cell? w _ h.2.2.2.2.1
theorem Tri.alloc {base : World} {b0 b1 b2 : Nat} {ax ay bx by_ px py : Int} {w : World} (h : Tri base b0 b1 b2 ax ay bx by_ px py w) (o : Obj) : Tri base b0 b1 b2 ax ay bx by_ px py (w.alloc o) :=
  h.below (below1 w o)
abbrev Two (w : World) (b : Nat) (x y : Int) : Prop := w.cell? ⟨b, 0, none⟩ = some (.int .i64 x) ∧ w.cell? ⟨b, 1, none⟩ = some (.int .i64 y)
theorem Two.under {w w' : World} {b : Nat} {x y : Int} (hb : Below w.heap.size w w') (h : Two w b x y) : Two w' b x y := by
  have g : b < w.heap.size := by simpa using World.block_lt_of_cell? w _ h.1
  exact ⟨(hb.cell (p := ⟨b, 0, none⟩) g).trans h.1, (hb.cell (p := ⟨b, 1, none⟩) g).trans h.2⟩
theorem Two.new (w : World) (x y : Int) (t : TypeId) : Two (w.alloc (.cells #[.int .i64 x, .int .i64 y] t)) w.heap.size x y := (PtAt.new w x y t).2

theorem quad_boxed (w : World) (ax ay bx by_ cx cy : Int) (t : TypeId) :
    Tri w w.heap.size (w.heap.size + 1) (w.heap.size + 2) ax ay bx by_ cx cy ((((w.alloc (.cells #[.int .i64 ax, .int .i64 ay] t)).alloc (.cells #[.int .i64 bx, .int .i64 by_] t)).alloc (.cells #[.int .i64 cx, .int .i64 cy] t)).alloc (.cells #[.int .i64 0, .int .i64 0] t)) ∧
    Zero ((((w.alloc (.cells #[.int .i64 ax, .int .i64 ay] t)).alloc (.cells #[.int .i64 bx, .int .i64 by_] t)).alloc (.cells #[.int .i64 cx, .int .i64 cy] t)).alloc (.cells #[.int .i64 0, .int .i64 0] t)) (w.heap.size + 3) :=
  ⟨(tri_boxed w ax ay bx by_ cx cy t).alloc _, Zero.new (by simp) _⟩

/-- Along the vector u: so much of it as m is of d, rounded down. -/
def stp (u m d : Int) : Int := u * m / d

theorem stp_bd {u m d : Int} (h0 : 0 ≤ m) (h1 : m ≤ d) (hd : 0 < d) : (0 ≤ u → 0 ≤ stp u m d ∧ stp u m d ≤ u) ∧ (u ≤ 0 → u ≤ stp u m d ∧ stp u m d ≤ 0) := by
  unfold stp
  constructor
  · intro hu
    refine ⟨Int.ediv_nonneg (Int.mul_nonneg hu h0) (by omega), ?_⟩
    have : u * m ≤ u * d := Int.mul_le_mul_of_nonneg_left h1 hu
    exact Int.ediv_le_of_le_mul hd this
  · intro hu
    have hle : u * d ≤ u * m := Int.mul_le_mul_of_nonpos_left hu h1
    refine ⟨Int.le_ediv_of_mul_le hd hle, ?_⟩
    have h2 : u * m ≤ 0 := Int.mul_nonpos_of_nonpos_of_nonneg hu h0
    exact Int.ediv_le_of_le_mul hd (by omega)

theorem d2_pos {ax ay bx by_ : Int} (ha : ptB ax ay = true) (hb : ptB bx by_ = true) (hne : ¬ (ax = bx ∧ ay = by_)) : 0 < d2 ax ay bx by_ := by
  rw [d2_yes ha hb]
  have h1 := sq_nonneg (bx - ax)
  have h2 := sq_nonneg (by_ - ay)
  by_cases hx : ax = bx
  · have hy : by_ - ay ≠ 0 := fun e => hne ⟨hx, by omega⟩
    have : (by_ - ay) * (by_ - ay) ≠ 0 := Int.mul_ne_zero hy hy
    omega
  · have hx : bx - ax ≠ 0 := fun e => hx (by omega)
    have : (bx - ax) * (bx - ax) ≠ 0 := Int.mul_ne_zero hx hx
    omega

theorem implFloor_still {n d : Int} (h0 : -100000000000000000 ≤ n) (h1 : n ≤ 100000000000000000) (hd : 0 < d) (w : World) :
    Calls Try.prog 31 #[.int .i64 n, .int .i64 d] w fun e w' => e = .returned (.int .i64 (n / d)) ∧ w' = w := by
  have h := implFloorDiv_any n d w
  rw [fd_pos hd (by omega) (by omega)] at h
  exact h.mono fun e w' ⟨g1, g2⟩ => ⟨g1, g2.symm⟩

/-- The numbers that a foot is made of, as the walk meets them. -/
theorem foot_nums {a u m d : Int} (ha : -10000 ≤ a ∧ a ≤ 10000) (hu : -20000 ≤ u ∧ u ≤ 20000) (h0 : 0 ≤ m) (h1 : m ≤ d) (hd : 0 < d) (hd' : d ≤ 800000000) :
    IntKind.i64.wrap (u * m) = u * m ∧ IntKind.i64.wrap (a + u * m / d) = a + stp u m d ∧ (-100000000000000000 ≤ u * m ∧ u * m ≤ 100000000000000000) := by
  have b1 := mul_bd (x := u) (y := m) (M := 20000) (N := 800000000) (by omega) (by omega)
  have s1 := stp_bd (u := u) h0 h1 hd
  refine ⟨IntWalk.i64_in _ (by omega), ?_, by omega⟩
  rw [show u * m / d = stp u m d from rfl]; exact IntWalk.i64_in _ (by omega)

theorem minus_uv {a b c d u v : Int} (h1 : ptB a b = true) (h2 : ptB c d = true) (hu : Hid (u = a - c)) (hv : Hid (v = b - d)) (w : World) :
    Calls Try.prog 29 #[.agg #[.int .i64 a, .int .i64 b], .agg #[.int .i64 c, .int .i64 d]] w fun e w' => e = .returned (.agg #[.int .i64 u, .int .i64 v]) ∧ Below w.heap.size w w' := by
  rw [hu.out, hv.out]; exact minus_pts h1 h2 w

/-- What is known in Foot behind its first lines. -/
abbrev FootS (base : World) (ax ay bx by_ px py u v : Int) (b4 : Nat) (w : World) : Prop :=
  Tri base base.heap.size (base.heap.size + 1) (base.heap.size + 2) ax ay bx by_ px py w ∧ Zero w (base.heap.size + 3) ∧ Two w b4 u v
theorem FootS.under {base : World} {ax ay bx by_ px py u v : Int} {b4 : Nat} {w w' : World} (hb : Below w.heap.size w w') (h : FootS base ax ay bx by_ px py u v b4 w) : FootS base ax ay bx by_ px py u v b4 w' :=
  ⟨Tri.under hb h.1, Zero.under hb h.2.1, Two.under hb h.2.2⟩
theorem FootS.drew {base : World} {ax ay bx by_ px py u v : Int} {b4 : Nat} {w : World} (h : FootS base ax ay bx by_ px py u v b4 w) : FootS base ax ay bx by_ px py u v b4 w.drew :=
  ⟨h.1.drew, h.2.1.drew, h.2.2⟩
theorem footS_new {base w : World} {ax ay bx by_ px py : Int} (T : Tri base base.heap.size (base.heap.size + 1) (base.heap.size + 2) ax ay bx by_ px py w) (Z : Zero w (base.heap.size + 3)) (u v : Int) (t : TypeId) :
    FootS base ax ay bx by_ px py u v w.heap.size (w.alloc (.cells #[.int .i64 u, .int .i64 v] t)) :=
  ⟨T.alloc _, Zero.under (below1 _ _) Z, Two.new _ _ _ _⟩

/-- The foot, where the points are valid and a segment there is. -/
def ftX (ax ay bx by_ px py : Int) : Int := ax + stp (bx - ax) (shr ax ay bx by_ px py) (d2 ax ay bx by_)
def ftY (ax ay bx by_ px py : Int) : Int := ay + stp (by_ - ay) (shr ax ay bx by_ px py) (d2 ax ay bx by_)

set_option maxHeartbeats 1000000 in
theorem implFoot_nx (ax ay bx by_ px py : Int) (w : World) (ha : ptB ax ay = true) (hb : ptB bx by_ = true) (hp : ptB px py = true) (hx : ¬ ax = bx) :
    Calls Try.prog 12 #[.agg #[.int .i64 ax, .int .i64 ay], .agg #[.int .i64 bx, .int .i64 by_], .agg #[.int .i64 px, .int .i64 py]] w fun e w' =>
      e = .returned (.agg #[.int .i64 (ftX ax ay bx by_ px py), .int .i64 (ftY ax ay bx by_ px py)]) ∧ Below w.heap.size w w' := by
  have hd := d2_pos ha hb (fun h => hx h.1)
  have hd' := d2_bd ax ay bx by_
  have hm := shr_bd ax ay bx by_ px py
  obtain ⟨u, hu⟩ : ∃ u, u = bx - ax := ⟨_, rfl⟩
  obtain ⟨v, hv⟩ : ∃ v, v = by_ - ay := ⟨_, rfl⟩
  obtain ⟨e1, e2, e3⟩ := foot_nums (a := ax) (u := u) (by have := ptB_true ha; omega) (by have := ptB_true ha; have := ptB_true hb; omega) hm.1 hm.2 hd hd'.2
  obtain ⟨e4, e5, e6⟩ := foot_nums (a := ay) (u := v) (by have := ptB_true ha; omega) (by have := ptB_true ha; have := ptB_true hb; omega) hm.1 hm.2 hd hd'.2
  have HX : Hid (ax + stp u (shr ax ay bx by_ px py) (d2 ax ay bx by_) = ftX ax ay bx by_ px py) := by rw [hu]; rfl
  have HY : Hid (ay + stp v (shr ax ay bx by_ px py) (d2 ax ay bx by_) = ftY ax ay bx by_ px py) := by rw [hv]; rfl
  have HU := Lib.hid hu
  have HV := Lib.hid hv
  have E1 := Lib.hid e1; have E2 := Lib.hid e2; have E4 := Lib.hid e4; have E5 := Lib.hid e5
  clear hu hv e1 e2 e4 e5
  obtain ⟨T, Z⟩ := quad_boxed w ax ay bx by_ px py 25
  go_enter Try.func12, Try.ntmps12
  go_wp2_with fail
  refine (implPtOk_any _ _ _).mono ?_; rintro e w1 ⟨rfl, b1⟩
  replace T := T.below b1
  replace Z := Zero.under b1 Z
  clear b1
  have T' := T
  obtain ⟨c0, c1, c2, c3, c4, c5, k1⟩ := T'
  go_wp2_with fail
  clear c0 c1 c2 c3 c4 c5 k1
  refine (implPtOk_any _ _ _).mono ?_; rintro e w2 ⟨rfl, b2⟩
  replace T := T.below b2
  replace Z := Zero.under b2 Z
  clear b2
  have T' := T
  obtain ⟨c0, c1, c2, c3, c4, c5, k1⟩ := T'
  go_wp2_with fail
  clear c0 c1 c2 c3 c4 c5 k1
  refine (implPtOk_any _ _ _).mono ?_; rintro e w3 ⟨rfl, b3⟩
  replace T := T.below b3
  replace Z := Zero.under b3 Z
  clear b3
  have T' := T
  obtain ⟨c0, c1, c2, c3, c4, c5, k1⟩ := T'
  go_wp2_with fail
  clear c0 c1 c2 c3 c4 c5 k1
  refine (minus_uv hb ha HU HV _).mono ?_; rintro e w4 ⟨rfl, b4⟩
  replace T := T.below b4
  replace Z := Zero.under b4 Z
  clear b4
  have F := footS_new T Z u v 25
  clear T Z
  go_wp2_with fail
  go_region_held3 (fun w' => FootS w ax ay bx by_ px py u v w4.heap.size w') (first | exact FootS.drew F | (refine FootS.under (by assumption) ?_; assumption))
    (first
      | (go_at_call 30; refine (share_any _ _ _ _ _ _ _ ha hb hp).mono ?_; rintro e w1 ⟨rfl, b1⟩)
      | (go_at_call 20; refine (implDist2_any _ _ _ _ _).mono ?_; rintro e w1 ⟨rfl, b1⟩))
  rename_i hS
  clear F
  replace hS := FootS.drew hS
  have e1 := E1.out; have e2 := E2.out; have e4 := E4.out; have e5 := E5.out
  obtain ⟨e31, e32⟩ := e3
  obtain ⟨e61, e62⟩ := e6
  go_wp2_with fail
  refine wp_region_still_tail 19 (by kernel_rfl) (by kernel_rfl) ?_
  simp only [List.take_succ_cons, List.take_zero, List.drop_succ_cons, List.drop_zero]
  change wpStill _ _ w1.drew (fun a' => wpList _ _ _ _ a' w1.drew) _ _
  generalize w1.drew = W at hS ⊢
  obtain ⟨⟨c0, c1, c2, c3, c4, c5, k1⟩, ⟨z0, z1, z2, z3⟩, t0, t1⟩ := hS
  repeat (first | still_step | still_call (implFloor_still (by assumption) (by assumption) (by assumption) _))
  refine wpStill_nil ?_
  go_wp2
  rw [HX.out, HY.out]
  exact bodyPost_ret (v := .agg #[.int .i64 (ftX ax ay bx by_ px py), .int .i64 (ftY ax ay bx by_ px py)]) (by simp [results, Try.results12, go_sem, z0, z1]) rfl ⟨rfl, (k1.setCell (by simp; omega) _).setCell (by simp; omega) _⟩

set_option maxHeartbeats 1000000 in
theorem implFoot_ny (ax ay by_ px py : Int) (w : World) (ha : ptB ax ay = true) (hb : ptB ax by_ = true) (hp : ptB px py = true) (hy : ¬ ay = by_) :
    Calls Try.prog 12 #[.agg #[.int .i64 ax, .int .i64 ay], .agg #[.int .i64 ax, .int .i64 by_], .agg #[.int .i64 px, .int .i64 py]] w fun e w' =>
      e = .returned (.agg #[.int .i64 (ftX ax ay ax by_ px py), .int .i64 (ftY ax ay ax by_ px py)]) ∧ Below w.heap.size w w' := by
  have hd := d2_pos ha hb (fun h => hy h.2)
  have hd' := d2_bd ax ay ax by_
  have hm := shr_bd ax ay ax by_ px py
  obtain ⟨u, hu⟩ : ∃ u, u = ax - ax := ⟨_, rfl⟩
  obtain ⟨v, hv⟩ : ∃ v, v = by_ - ay := ⟨_, rfl⟩
  obtain ⟨e1, e2, e3⟩ := foot_nums (a := ax) (u := u) (by have := ptB_true ha; omega) (by have := ptB_true ha; have := ptB_true hb; omega) hm.1 hm.2 hd hd'.2
  obtain ⟨e4, e5, e6⟩ := foot_nums (a := ay) (u := v) (by have := ptB_true ha; omega) (by have := ptB_true ha; have := ptB_true hb; omega) hm.1 hm.2 hd hd'.2
  have HX : Hid (ax + stp u (shr ax ay ax by_ px py) (d2 ax ay ax by_) = ftX ax ay ax by_ px py) := by rw [hu]; rfl
  have HY : Hid (ay + stp v (shr ax ay ax by_ px py) (d2 ax ay ax by_) = ftY ax ay ax by_ px py) := by rw [hv]; rfl
  have HU := Lib.hid hu
  have HV := Lib.hid hv
  have E1 := Lib.hid e1; have E2 := Lib.hid e2; have E4 := Lib.hid e4; have E5 := Lib.hid e5
  clear hu hv e1 e2 e4 e5
  obtain ⟨T, Z⟩ := quad_boxed w ax ay ax by_ px py 25
  go_enter Try.func12, Try.ntmps12
  go_wp2_with fail
  refine (implPtOk_any _ _ _).mono ?_; rintro e w1 ⟨rfl, b1⟩
  replace T := T.below b1
  replace Z := Zero.under b1 Z
  clear b1
  have T' := T
  obtain ⟨c0, c1, c2, c3, c4, c5, k1⟩ := T'
  go_wp2_with fail
  clear c0 c1 c2 c3 c4 c5 k1
  refine (implPtOk_any _ _ _).mono ?_; rintro e w2 ⟨rfl, b2⟩
  replace T := T.below b2
  replace Z := Zero.under b2 Z
  clear b2
  have T' := T
  obtain ⟨c0, c1, c2, c3, c4, c5, k1⟩ := T'
  go_wp2_with fail
  clear c0 c1 c2 c3 c4 c5 k1
  refine (implPtOk_any _ _ _).mono ?_; rintro e w3 ⟨rfl, b3⟩
  replace T := T.below b3
  replace Z := Zero.under b3 Z
  clear b3
  have T' := T
  obtain ⟨c0, c1, c2, c3, c4, c5, k1⟩ := T'
  go_wp2_with fail
  clear c0 c1 c2 c3 c4 c5 k1
  refine (minus_uv hb ha HU HV _).mono ?_; rintro e w4 ⟨rfl, b4⟩
  replace T := T.below b4
  replace Z := Zero.under b4 Z
  clear b4
  have F := footS_new T Z u v 25
  clear T Z
  go_wp2_with fail
  go_region_held3 (fun w' => FootS w ax ay ax by_ px py u v w4.heap.size w') (first | exact FootS.drew F | (refine FootS.under (by assumption) ?_; assumption))
    (first
      | (go_at_call 30; refine (share_any _ _ _ _ _ _ _ ha hb hp).mono ?_; rintro e w1 ⟨rfl, b1⟩)
      | (go_at_call 20; refine (implDist2_any _ _ _ _ _).mono ?_; rintro e w1 ⟨rfl, b1⟩))
  rename_i hS
  clear F
  replace hS := FootS.drew hS
  have e1 := E1.out; have e2 := E2.out; have e4 := E4.out; have e5 := E5.out
  obtain ⟨e31, e32⟩ := e3
  obtain ⟨e61, e62⟩ := e6
  go_wp2_with fail
  refine wp_region_still_tail 19 (by kernel_rfl) (by kernel_rfl) ?_
  simp only [List.take_succ_cons, List.take_zero, List.drop_succ_cons, List.drop_zero]
  change wpStill _ _ w1.drew (fun a' => wpList _ _ _ _ a' w1.drew) _ _
  generalize w1.drew = W at hS ⊢
  obtain ⟨⟨c0, c1, c2, c3, c4, c5, k1⟩, ⟨z0, z1, z2, z3⟩, t0, t1⟩ := hS
  repeat (first | still_step | still_call (implFloor_still (by assumption) (by assumption) (by assumption) _))
  refine wpStill_nil ?_
  go_wp2
  rw [HX.out, HY.out]
  exact bodyPost_ret (v := .agg #[.int .i64 (ftX ax ay ax by_ px py), .int .i64 (ftY ax ay ax by_ px py)]) (by simp [results, Try.results12, go_sem, z0, z1]) rfl ⟨rfl, (k1.setCell (by simp; omega) _).setCell (by simp; omega) _⟩

end Go.Proofs.Ytgfgolcbioffiaa
