/-
  Arithmetic of points: squared distances of valid points, bounds of products.
-/
import Derived.Test.YtcaamhoakhgnhaaBaseAll
import Derived.IntWalk
namespace Go.Proofs.Ytcaamhoakhgnhaa
open Go.RowKit Go.Deep

theorem mul_bd {x y M N : Int} (hx : -M ≤ x ∧ x ≤ M) (hy : -N ≤ y ∧ y ≤ N) : -(M * N) ≤ x * y ∧ x * y ≤ M * N := by
  have hM : 0 ≤ M := by omega
  have hN : 0 ≤ N := by omega
  have h := Int.natAbs_mul x y
  have h1 : x.natAbs ≤ M.toNat := by omega
  have h2 : y.natAbs ≤ N.toNat := by omega
  have h3 := Nat.mul_le_mul h1 h2
  have h4 : ((M.toNat * N.toNat : Nat) : Int) = M * N := by rw [Int.natCast_mul, Int.toNat_of_nonneg hM, Int.toNat_of_nonneg hN]
  omega

/-- The squared distance, 0 where a point is not valid. -/
def d2 (ax ay bx by_ : Int) : Int := if (ptB ax ay && ptB bx by_) = true then (bx - ax) * (bx - ax) + (by_ - ay) * (by_ - ay) else 0

theorem d2_yes {ax ay bx by_ : Int} (ha : ptB ax ay = true) (hb : ptB bx by_ = true) : d2 ax ay bx by_ = (bx - ax) * (bx - ax) + (by_ - ay) * (by_ - ay) := by unfold d2; rw [ha, hb]; rfl
theorem d2_no1 {ax ay bx by_ : Int} (ha : ptB ax ay = false) : d2 ax ay bx by_ = 0 := by unfold d2; rw [ha]; rfl
theorem d2_no2 {ax ay bx by_ : Int} (hb : ptB bx by_ = false) : d2 ax ay bx by_ = 0 := by unfold d2; rw [hb, Bool.and_false]; rfl

theorem sq_nonneg (x : Int) : 0 ≤ x * x := by
  rcases Int.le_total 0 x with h | h
  · exact Int.mul_nonneg h h
  · exact Int.mul_nonneg_of_nonpos_of_nonpos h h

theorem d2_bd (ax ay bx by_ : Int) : 0 ≤ d2 ax ay bx by_ ∧ d2 ax ay bx by_ ≤ 800000000 := by
  unfold d2; split
  · rename_i h
    rw [Bool.and_eq_true] at h
    have ha := ptB_true h.1
    have hb := ptB_true h.2
    have h1 := mul_bd (x := bx - ax) (y := bx - ax) (M := 20000) (N := 20000) (by omega) (by omega)
    have h2 := mul_bd (x := by_ - ay) (y := by_ - ay) (M := 20000) (N := 20000) (by omega) (by omega)
    have h3 := sq_nonneg (bx - ax)
    have h4 := sq_nonneg (by_ - ay)
    omega
  · omega

/-- The numbers of a valid pair of points, as the walk meets them. -/
theorem d2_sum {ax ay bx by_ : Int} (ha : ptB ax ay = true) (hb : ptB bx by_ = true) :
    wrap64 (wrap64 ((bx - ax) * (bx - ax)) + wrap64 ((by_ - ay) * (by_ - ay))) = d2 ax ay bx by_ := by
  rw [d2_yes ha hb]
  have ha := ptB_true ha
  have hb := ptB_true hb
  have h1 := mul_bd (x := bx - ax) (y := bx - ax) (M := 20000) (N := 20000) (by omega) (by omega)
  have h2 := mul_bd (x := by_ - ay) (y := by_ - ay) (M := 20000) (N := 20000) (by omega) (by omega)
  unfold wrap64; omega

set_option maxHeartbeats 400000 in
theorem specDist2_any (ax ay bx by_ : Int) (w : World) : Calls Try.prog 112 #[.agg #[.int .i64 ax, .int .i64 ay], .agg #[.int .i64 bx, .int .i64 by_]] w fun e w' => e = .returned (.int .i64 (d2 ax ay bx by_)) ∧ Below w.heap.size w w' := by
  obtain ⟨p0, p1, k0⟩ := boxed2 w ax ay bx by_ 85
  cases ha : ptB ax ay with
  | false =>
    have H := Lib.hid (d2_no1 (bx := bx) (by_ := by_) ha)
    go_enter Try.func112, Try.ntmps112
    go_wp2_with fail
    refine (specPtOk_any _ _ _).mono ?_
    rintro e w1 ⟨rfl, b1⟩
    have k1 := k0.trans (b1.mono k0.size)
    go_wp2
    go_ret
    exact ⟨retI H.out.symm, k1⟩
  | true =>
    cases hb : ptB bx by_ with
    | false =>
      have H := Lib.hid (d2_no2 (ax := ax) (ay := ay) hb)
      go_enter Try.func112, Try.ntmps112
      go_wp2_with fail
      refine (specPtOk_any _ _ _).mono ?_
      rintro e w1 ⟨rfl, b1⟩
      have k1 := k0.trans (b1.mono k0.size)
      obtain ⟨c10, c11⟩ := (p1.below b1).cells
      go_wp2_with fail
      refine (specPtOk_any _ _ _).mono ?_
      rintro e w2 ⟨rfl, b2⟩
      have k2 := k1.trans (b2.mono k1.size)
      go_wp2
      go_ret
      exact ⟨retI H.out.symm, k2⟩
    | true =>
      have H := Lib.hid (d2_sum ha hb)
      have ga := ptB_true ha
      have gb := ptB_true hb
      go_enter Try.func112, Try.ntmps112
      go_wp2_with fail
      refine (specPtOk_any _ _ _).mono ?_
      rintro e w1 ⟨rfl, b1⟩
      have k1 := k0.trans (b1.mono k0.size)
      replace p0 := p0.below b1
      replace p1 := p1.below b1
      clear b1 k0
      obtain ⟨c10, c11⟩ := p1.cells
      go_wp2_with fail
      clear c10 c11
      refine (specPtOk_any _ _ _).mono ?_
      rintro e w2 ⟨rfl, b2⟩
      have k2 := k1.trans (b2.mono k1.size)
      replace p0 := p0.below b2
      replace p1 := p1.below b2
      clear b2 k1
      obtain ⟨c10, c11⟩ := p1.cells
      obtain ⟨c00, c01⟩ := p0.cells
      have e1 : IntKind.i64.wrap (bx - ax) = bx - ax := IntWalk.i64_in _ (by omega)
      have e2 : IntKind.i64.wrap (by_ - ay) = by_ - ay := IntWalk.i64_in _ (by omega)
      go_wp2
      go_quiet (fail)
      go_wp2
      go_ret
      exact ⟨retI H.out, below_drewN k2 _⟩

theorem specDistOf_any (ax ay bx by_ : Int) (w : World) : Calls Try.prog 97 #[.agg #[.int .i64 ax, .int .i64 ay], .agg #[.int .i64 bx, .int .i64 by_]] w fun e w' => e = .returned (.int .i64 (rt (d2 ax ay bx by_))) ∧ Below w.heap.size w w' := by
  obtain ⟨p0, p1, k0⟩ := boxed2 w ax ay bx by_ 85
  have hd := d2_bd ax ay bx by_
  go_enter Try.func97, Try.ntmps97
  go_wp2_with fail
  refine (specDist2_any _ _ _ _ _).mono ?_
  rintro e w1 ⟨rfl, b1⟩
  have k1 := k0.trans (b1.mono k0.size)
  go_wp2_with fail
  refine (specRoot_any _ _ (by omega)).mono ?_; rintro e w' ⟨rfl, rfl⟩
  go_wp2
  go_ret
  exact ⟨rfl, k1⟩

end Go.Proofs.Ytcaamhoakhgnhaa
