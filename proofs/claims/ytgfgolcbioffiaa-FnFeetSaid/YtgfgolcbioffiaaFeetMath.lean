/-
  Feet of valid points: between the ends, at most two farther than an end (by rounding), the ends themselves where the point is an end; how far along.
-/
import Derived.Test.YtgfgolcbioffiaaFarMath
import Derived.Test.YtgfgolcbioffiaaAlong
namespace Go.Proofs.Ytgfgolcbioffiaa
open Go.RowKit Go.Deep

/-- The remainder of a foot's coordinate. -/
theorem stp_rem {u m d : Int} (hd : 0 < d) : ∃ s, 0 ≤ s ∧ s < d ∧ d * stp u m d = u * m - s := by
  refine ⟨u * m % d, Int.emod_nonneg _ (by omega), Int.emod_lt_of_pos _ hd, ?_⟩
  have := Int.mul_ediv_add_emod (u * m) d
  unfold stp; omega

/-- The clamped product: what the two bounds ask of it. -/
theorem clamp_a {m d t : Int} (hm : m = max 0 (min d t)) (hd : 0 < d) : 0 ≤ m * (2 * t - m) := by
  rcases Int.lt_or_le 0 m with h | h
  · exact Int.mul_nonneg (by omega) (by omega)
  · obtain rfl : m = 0 := by omega
    omega
theorem clamp_b {m d t : Int} (hm : m = max 0 (min d t)) (hd : 0 < d) : 0 ≤ (d - m) * (d + m - 2 * t) := by
  rcases Int.lt_or_le m d with h | h
  · exact Int.mul_nonneg (by omega) (by omega)
  · obtain rfl : m = d := by omega
    rw [Int.sub_self, Int.zero_mul]; omega

/-- No further than q from an end, so no further than q + 3/2 from the foot: in whole numbers. -/
theorem foot_near {d X Y s t q fx fy : Int} (hd : 0 < d) (hq : 0 ≤ q) (hX : X * X + Y * Y < (d * q) * (d * q)) (hs : 0 ≤ s ∧ s < d) (ht : 0 ≤ t ∧ t < d)
    (ex : d * fx = X + s) (ey : d * fy = Y + t) : 4 * (fx * fx + fy * fy) < (2 * q + 3) * (2 * q + 3) := by
  have k1 : (2 * X) * (2 * X) + (2 * Y) * (2 * Y) < (2 * (d * q)) * (2 * (d * q)) := by
    have e1 : (2 * X) * (2 * X) + (2 * Y) * (2 * Y) = 4 * (X * X + Y * Y) := by grind
    have e2 : (2 * (d * q)) * (2 * (d * q)) = 4 * ((d * q) * (d * q)) := by grind
    omega
  have k2 : (2 * s) * (2 * s) + (2 * t) * (2 * t) < (3 * d) * (3 * d) := by
    have s1 : s * s ≤ d * d := sq_mono hs.1 (by omega)
    have s2 : t * t ≤ d * d := sq_mono ht.1 (by omega)
    have s3 : 0 < d * d := Int.mul_pos hd hd
    have e1 : (2 * s) * (2 * s) + (2 * t) * (2 * t) = 4 * (s * s) + 4 * (t * t) := by grind
    have e2 : (3 * d) * (3 * d) = 9 * (d * d) := by grind
    omega
  have k3 := sum_lt (Int.mul_nonneg (by omega) (Int.mul_nonneg (by omega) hq)) (by omega) k1 k2
  have e1 : (2 * X + 2 * s) * (2 * X + 2 * s) + (2 * Y + 2 * t) * (2 * Y + 2 * t) = (d * d) * (4 * (fx * fx + fy * fy)) := by
    have h1 : 2 * X + 2 * s = 2 * (d * fx) := by omega
    have h2 : 2 * Y + 2 * t = 2 * (d * fy) := by omega
    rw [h1, h2]; grind
  have e2 : (2 * (d * q) + 3 * d) * (2 * (d * q) + 3 * d) = (d * d) * ((2 * q + 3) * (2 * q + 3)) := by grind
  rw [e1, e2] at k3
  exact Int.lt_of_mul_lt_mul_left k3 (Int.le_of_lt (Int.mul_pos hd hd))

theorem rt_near {n q : Int} (h0 : 0 ≤ n) (h1 : n ≤ 800000000) (hq : 0 ≤ q) (h : 4 * n < (2 * q + 3) * (2 * q + 3)) : rt n ≤ q + 1 := by
  obtain ⟨t1, t2, t3, t4⟩ := rt_small h0 h1
  have e : (2 * rt n) * (2 * rt n) = 4 * (rt n * rt n) := by grind
  have := sq_lt_of (a := 2 * rt n) (b := 2 * q + 3) (by omega) (by omega)
  omega

theorem ft_ok {ax ay bx by_ px py : Int} (ha : ptB ax ay = true) (hb : ptB bx by_ = true) : ptB (ftX ax ay bx by_ px py) (ftY ax ay bx by_ px py) = true := by
  have ga := ptB_true ha
  have gb := ptB_true hb
  have hm := shr_bd ax ay bx by_ px py
  by_cases hd : 0 < d2 ax ay bx by_
  · have s1 := stp_bd (u := bx - ax) hm.1 hm.2 hd
    have s2 := stp_bd (u := by_ - ay) hm.1 hm.2 hd
    refine ptB_mk ?_
    unfold ftX ftY
    omega
  · have h0 : d2 ax ay bx by_ = 0 := by have := d2_bd ax ay bx by_; omega
    have e : ∀ u m, stp u m 0 = 0 := fun u m => by unfold stp; exact Int.ediv_zero _
    unfold ftX ftY
    rw [h0, e, e]
    refine ptB_mk ?_
    omega

/-- The squared length of d times the vector from the exact foot to the point. -/
theorem exact_len {u v e f m d t : Int} (hd : d = u * u + v * v) (ht : t = u * e + v * f) :
    (d * e - m * u) * (d * e - m * u) + (d * f - m * v) * (d * f - m * v) = d * (d * (e * e + f * f) - m * (2 * t - m)) := by
  subst hd ht; grind

theorem feet_near {ax ay bx by_ px py : Int} (ha : ptB ax ay = true) (hb : ptB bx by_ = true) (hp : ptB px py = true) :
    rt (d2 px py (ftX ax ay bx by_ px py) (ftY ax ay bx by_ px py)) ≤ rt (d2 px py ax ay) + 2 ∧
    rt (d2 px py (ftX ax ay bx by_ px py) (ftY ax ay bx by_ px py)) ≤ rt (d2 px py bx by_) + 2 := by
  have hf := ft_ok (px := px) (py := py) ha hb
  obtain ⟨a1, a2, a3, a4⟩ := rt_small (d2_bd px py ax ay).1 (d2_bd px py ax ay).2
  obtain ⟨b1, b2, b3, b4⟩ := rt_small (d2_bd px py bx by_).1 (d2_bd px py bx by_).2
  by_cases hne : ax = bx ∧ ay = by_
  · obtain ⟨rfl, rfl⟩ := hne
    rw [(ft_same ax ay px py).1, (ft_same ax ay px py).2]
    omega
  · have hd := d2_pos ha hb hne
    have hm := shr_bd ax ay bx by_ px py
    have hmd : shr ax ay bx by_ px py = max 0 (min (d2 ax ay bx by_) (dot ax ay bx by_ px py)) := rfl
    obtain ⟨s, s0, s1, s2⟩ := stp_rem (u := bx - ax) (m := shr ax ay bx by_ px py) hd
    obtain ⟨t, t0, t1, t2⟩ := stp_rem (u := by_ - ay) (m := shr ax ay bx by_ px py) hd
    have hdd := d2_yes ha hb
    have hdot : dot ax ay bx by_ px py = (bx - ax) * (px - ax) + (by_ - ay) * (py - ay) := rfl
    have hlen := exact_len (m := shr ax ay bx by_ px py) hdd hdot
    have ca := clamp_a hmd hd
    have cb := clamp_b hmd hd
    have hpf := d2_bd px py (ftX ax ay bx by_ px py) (ftY ax ay bx by_ px py)
    have hpfe := d2_yes hp hf
    have hpa := d2_yes hp ha
    have hpb := d2_yes hp hb
    have ex : d2 ax ay bx by_ * (px - ftX ax ay bx by_ px py) = (d2 ax ay bx by_ * (px - ax) - shr ax ay bx by_ px py * (bx - ax)) + s := by
      unfold ftX; grind
    have ey : d2 ax ay bx by_ * (py - ftY ax ay bx by_ px py) = (d2 ax ay bx by_ * (py - ay) - shr ax ay bx by_ px py * (by_ - ay)) + t := by
      unfold ftY; grind
    have hfe : (px - ftX ax ay bx by_ px py) * (px - ftX ax ay bx by_ px py) + (py - ftY ax ay bx by_ px py) * (py - ftY ax ay bx by_ px py) = d2 px py (ftX ax ay bx by_ px py) (ftY ax ay bx by_ px py) := by
      rw [hpfe]; grind
    have hae : (px - ax) * (px - ax) + (py - ay) * (py - ay) = d2 px py ax ay := by rw [hpa]; grind
    have hbe : (px - ax) * (px - ax) + (py - ay) * (py - ay) = d2 px py bx by_ + 2 * dot ax ay bx by_ px py - d2 ax ay bx by_ := by rw [hpb, hdot, hdd]; grind
    rw [hae] at hlen
    generalize d2 ax ay bx by_ = d at *
    generalize shr ax ay bx by_ px py = m at *
    generalize dot ax ay bx by_ px py = dt at *
    generalize rt (d2 px py ax ay) = ra at *
    generalize rt (d2 px py bx by_) = rb at *
    generalize d2 px py ax ay = da at *
    generalize d2 px py bx by_ = db at *
    constructor
    · have key : d * (d * da - m * (2 * dt - m)) < (d * (ra + 1)) * (d * (ra + 1)) := by
        have h1 : d * (d * da - m * (2 * dt - m)) ≤ d * (d * da) := Int.mul_le_mul_of_nonneg_left (by omega) (by omega)
        have h2 : d * da < d * ((ra + 1) * (ra + 1)) := Int.mul_lt_mul_of_pos_left a4 hd
        have h3 : d * (d * da) < d * (d * ((ra + 1) * (ra + 1))) := Int.mul_lt_mul_of_pos_left h2 hd
        have e : (d * (ra + 1)) * (d * (ra + 1)) = d * (d * ((ra + 1) * (ra + 1))) := by grind
        omega
      have h := foot_near hd (q := ra + 1) (by omega) (by rw [hlen]; exact key) ⟨s0, s1⟩ ⟨t0, t1⟩ ex ey
      rw [hfe] at h
      have := rt_near hpf.1 hpf.2 (by omega) h
      omega
    · have key : d * (d * da - m * (2 * dt - m)) < (d * (rb + 1)) * (d * (rb + 1)) := by
        have e0 : d * da - m * (2 * dt - m) = d * db - (d - m) * (d + m - 2 * dt) := by
          have : da = db + 2 * dt - d := by omega
          rw [this]; grind
        have h1 : d * (d * da - m * (2 * dt - m)) ≤ d * (d * db) := by rw [e0]; exact Int.mul_le_mul_of_nonneg_left (by omega) (by omega)
        have h2 : d * db < d * ((rb + 1) * (rb + 1)) := Int.mul_lt_mul_of_pos_left b4 hd
        have h3 : d * (d * db) < d * (d * ((rb + 1) * (rb + 1))) := Int.mul_lt_mul_of_pos_left h2 hd
        have e : (d * (rb + 1)) * (d * (rb + 1)) = d * (d * ((rb + 1) * (rb + 1))) := by grind
        omega
      have h := foot_near hd (q := rb + 1) (by omega) (by rw [hlen]; exact key) ⟨s0, s1⟩ ⟨t0, t1⟩ ex ey
      rw [hfe] at h
      have := rt_near hpf.1 hpf.2 (by omega) h
      omega

theorem shr_a {ax ay bx by_ : Int} : shr ax ay bx by_ ax ay = 0 := by
  have := d2_bd ax ay bx by_
  have e : dot ax ay bx by_ ax ay = 0 := by unfold dot; rw [Int.sub_self, Int.sub_self, Int.mul_zero, Int.mul_zero]; rfl
  unfold shr; omega
theorem shr_b {ax ay bx by_ : Int} (ha : ptB ax ay = true) (hb : ptB bx by_ = true) : shr ax ay bx by_ bx by_ = d2 ax ay bx by_ := by
  have := d2_bd ax ay bx by_
  have e : dot ax ay bx by_ bx by_ = d2 ax ay bx by_ := (d2_yes ha hb).symm
  unfold shr; omega

theorem foot_a {ax ay bx by_ : Int} : ftX ax ay bx by_ ax ay = ax ∧ ftY ax ay bx by_ ax ay = ay := by
  unfold ftX ftY stp
  rw [shr_a, Int.mul_zero, Int.mul_zero, Int.zero_ediv]
  omega
theorem foot_b {ax ay bx by_ : Int} (ha : ptB ax ay = true) (hb : ptB bx by_ = true) (hne : ¬ (ax = bx ∧ ay = by_)) : ftX ax ay bx by_ bx by_ = bx ∧ ftY ax ay bx by_ bx by_ = by_ := by
  have hd := d2_pos ha hb hne
  unfold ftX ftY stp
  rw [shr_b ha hb, Int.mul_ediv_cancel _ (by omega), Int.mul_ediv_cancel _ (by omega)]
  omega

theorem al_range {ax ay bx by_ px py l : Int} (h0 : 0 ≤ l) (h1 : l ≤ 1000000) : 0 ≤ l * shr ax ay bx by_ px py / d2 ax ay bx by_ ∧ l * shr ax ay bx by_ px py / d2 ax ay bx by_ ≤ l := by
  have hm := shr_bd ax ay bx by_ px py
  have hd := d2_bd ax ay bx by_
  by_cases h : 0 < d2 ax ay bx by_
  · exact (stp_bd (u := l) hm.1 hm.2 h).1 h0
  · have : d2 ax ay bx by_ = 0 := by omega
    rw [this, Int.ediv_zero]; omega
theorem al_a {ax ay bx by_ l : Int} : l * shr ax ay bx by_ ax ay / d2 ax ay bx by_ = 0 := by rw [shr_a, Int.mul_zero, Int.zero_ediv]
theorem al_b {ax ay bx by_ l : Int} (ha : ptB ax ay = true) (hb : ptB bx by_ = true) (hne : ¬ (ax = bx ∧ ay = by_)) : l * shr ax ay bx by_ bx by_ / d2 ax ay bx by_ = l := by
  have hd := d2_pos ha hb hne
  rw [shr_b ha hb, Int.mul_ediv_cancel _ (by omega)]

end Go.Proofs.Ytgfgolcbioffiaa
