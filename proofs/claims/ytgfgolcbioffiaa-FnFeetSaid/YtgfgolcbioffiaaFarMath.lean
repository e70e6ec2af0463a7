/-
  Distances of valid points: symmetry, the triangle inequality apart from rounding, distance 0.
-/
import Derived.Test.YtgfgolcbioffiaaPtMath
namespace Go.Proofs.Ytgfgolcbioffiaa
open Go.RowKit Go.Deep

theorem d2_comm (ax ay bx by_ : Int) : d2 ax ay bx by_ = d2 bx by_ ax ay := by
  unfold d2
  rw [Bool.and_comm]
  have e1 : (bx - ax) * (bx - ax) = (ax - bx) * (ax - bx) := by rw [← Int.neg_sub, Int.neg_mul_neg]
  have e2 : (by_ - ay) * (by_ - ay) = (ay - by_) * (ay - by_) := by rw [← Int.neg_sub, Int.neg_mul_neg]
  rw [e1, e2]

theorem cauchy (x y u v : Int) : (x * u + y * v) * (x * u + y * v) ≤ (x * x + y * y) * (u * u + v * v) := by
  have h := sq_nonneg (x * v - y * u)
  have e : (x * x + y * y) * (u * u + v * v) - (x * u + y * v) * (x * u + y * v) = (x * v - y * u) * (x * v - y * u) := by grind
  omega

theorem sq_lt_of {a b : Int} (hb : 0 ≤ b) (h : a * a < b * b) : a < b := by
  rcases Int.lt_or_le a b with g | g
  · exact g
  · have := Int.mul_le_mul g g hb (by omega); omega

/-- Of two vectors with lengths below p and q the sum is shorter than p + q. -/
theorem sum_lt {x y u v p q : Int} (hp : 0 ≤ p) (hq : 0 ≤ q) (h1 : x * x + y * y < p * p) (h2 : u * u + v * v < q * q) :
    (x + u) * (x + u) + (y + v) * (y + v) < (p + q) * (p + q) := by
  have c := cauchy x y u v
  have n1 : 0 ≤ x * x + y * y := by have := sq_nonneg x; have := sq_nonneg y; omega
  have n2 : 0 ≤ u * u + v * v := by have := sq_nonneg u; have := sq_nonneg v; omega
  have c2 : (x * x + y * y) * (u * u + v * v) < p * p * (q * q) := by
    have s1 : (x * x + y * y) * (u * u + v * v) ≤ p * p * (u * u + v * v) := Int.mul_le_mul_of_nonneg_right (by omega) n2
    have pp : 0 < p * p := by omega
    have s2 : p * p * (u * u + v * v) < p * p * (q * q) := Int.mul_lt_mul_of_pos_left h2 pp
    omega
  have e : p * p * (q * q) = (p * q) * (p * q) := by grind
  have d : x * u + y * v < p * q := sq_lt_of (Int.mul_nonneg hp hq) (by omega)
  have e1 : (x + u) * (x + u) + (y + v) * (y + v) = (x * x + y * y) + 2 * (x * u + y * v) + (u * u + v * v) := by grind
  have e2 : (p + q) * (p + q) = p * p + 2 * (p * q) + q * q := by grind
  omega

theorem rt_small {n : Int} (h0 : 0 ≤ n) (h : n ≤ 800000000) : 0 ≤ rt n ∧ rt n ≤ 30000 ∧ rt n * rt n ≤ n ∧ n < (rt n + 1) * (rt n + 1) := by
  obtain ⟨t1, t2, t3, t4⟩ := rt_le h0 (by omega)
  refine ⟨t1, ?_, t3, t4⟩
  rcases Int.lt_or_le 30000 (rt n) with g | g
  · have := sq_mono (a := 30001) (b := rt n) (by omega) (by omega); omega
  · exact g

/-- Over a third point it is no shorter, apart from rounding. -/
theorem rt_tri {ax ay bx by_ cx cy : Int} (ha : ptB ax ay = true) (hb : ptB bx by_ = true) (hc : ptB cx cy = true) :
    rt (d2 ax ay bx by_) ≤ rt (d2 ax ay cx cy) + rt (d2 cx cy bx by_) + 1 := by
  obtain ⟨a1, a2, a3, a4⟩ := rt_small (d2_bd ax ay bx by_).1 (d2_bd ax ay bx by_).2
  obtain ⟨b1, b2, b3, b4⟩ := rt_small (d2_bd ax ay cx cy).1 (d2_bd ax ay cx cy).2
  obtain ⟨c1, c2, c3, c4⟩ := rt_small (d2_bd cx cy bx by_).1 (d2_bd cx cy bx by_).2
  have key := sum_lt (x := cx - ax) (y := cy - ay) (u := bx - cx) (v := by_ - cy) (p := rt (d2 ax ay cx cy) + 1) (q := rt (d2 cx cy bx by_) + 1) (by omega) (by omega)
    (by rw [← d2_yes ha hc]; exact b4) (by rw [← d2_yes hc hb]; exact c4)
  have e1 : cx - ax + (bx - cx) = bx - ax := by omega
  have e2 : cy - ay + (by_ - cy) = by_ - ay := by omega
  rw [e1, e2, ← d2_yes ha hb] at key
  have : rt (d2 ax ay bx by_) < rt (d2 ax ay cx cy) + 1 + (rt (d2 cx cy bx by_) + 1) := sq_lt_of (by omega) (by omega)
  omega

theorem d2_zero {ax ay bx by_ : Int} (ha : ptB ax ay = true) (hb : ptB bx by_ = true) : d2 ax ay bx by_ = 0 ↔ (ax = bx ∧ ay = by_) := by
  constructor
  · intro h
    rw [d2_yes ha hb] at h
    have h1 := sq_nonneg (bx - ax)
    have h2 := sq_nonneg (by_ - ay)
    have g1 : (bx - ax) * (bx - ax) = 0 := by omega
    have g2 : (by_ - ay) * (by_ - ay) = 0 := by omega
    have g3 : bx - ax = 0 := by rcases Int.mul_eq_zero.1 g1 with h | h <;> exact h
    have g4 : by_ - ay = 0 := by rcases Int.mul_eq_zero.1 g2 with h | h <;> exact h
    omega
  · rintro ⟨rfl, rfl⟩
    rw [d2_yes ha ha]; simp

end Go.Proofs.Ytgfgolcbioffiaa
