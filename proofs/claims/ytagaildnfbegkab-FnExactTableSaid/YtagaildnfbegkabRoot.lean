/-
  What the two Root functions of the program and of its specification compute: the greatest number whose square is at most n, 0 for negative n.
-/
import Derived.Test.YtagaildnfbegkabProg
import Derived.WalkKit
import Derived.ProofKit
import Derived.Lib.Hide
namespace Go.Proofs.Ytagaildnfbegkab
open Go.RowKit

def rtUp (b : Int) : Int := if b = 0 then 1 else 2 * b
def IsBit (b : Int) : Prop := b = 0 ∨ ∃ k : Nat, k ≤ 31 ∧ b = 2 ^ k
/-- What holds at the head of the loop: r is a lower bound, the bit b says how much is open. -/
def RootInv (n r b : Int) : Prop := 0 ≤ r ∧ r * r ≤ n ∧ IsBit b ∧ n < (r + rtUp b) * (r + rtUp b) ∧ r + rtUp b ≤ 4294967296

theorem isBit_half {b : Int} (h : IsBit b) (hp : 0 < b) : IsBit (b / 2) ∧ rtUp (b / 2) = b := by
  rcases h with rfl | ⟨k, hk, rfl⟩
  · omega
  · cases k with
    | zero => simp [rtUp, IsBit]
    | succ k =>
      have e : (2 : Int) ^ (k + 1) / 2 = 2 ^ k := by rw [Int.pow_succ]; omega
      rw [e]
      refine ⟨.inr ⟨k, by omega, rfl⟩, ?_⟩
      have : (2 : Int) ^ k ≠ 0 := by
        have := Int.pow_pos (n := 2) (m := k) (by decide); omega
      simp [rtUp, this]; rw [Int.pow_succ]; omega

theorem isBit_nonneg {b : Int} (h : IsBit b) : 0 ≤ b := by
  rcases h with rfl | ⟨k, _, rfl⟩
  · omega
  · exact Int.le_of_lt (Int.pow_pos (by decide))

theorem rtUp_pos {b : Int} (hp : 0 < b) : rtUp b = 2 * b := by unfold rtUp; rw [if_neg (by omega)]

theorem rootInv_up {n r b : Int} (h : RootInv n r b) (hp : 0 < b) (hle : (r + b) * (r + b) ≤ n) : RootInv n (r + b) (b / 2) := by
  obtain ⟨h1, _, h3, h4, h5⟩ := h
  obtain ⟨g1, g2⟩ := isBit_half h3 hp
  rw [rtUp_pos hp] at h4 h5
  refine ⟨by omega, hle, g1, ?_, by rw [g2]; omega⟩
  rw [g2]; have : r + b + b = r + 2 * b := by omega
  rw [this]; exact h4

theorem rootInv_stay {n r b : Int} (h : RootInv n r b) (hp : 0 < b) (hlt : n < (r + b) * (r + b)) : RootInv n r (b / 2) := by
  obtain ⟨h1, h2, h3, _, h5⟩ := h
  obtain ⟨g1, g2⟩ := isBit_half h3 hp
  rw [rtUp_pos hp] at h5
  exact ⟨h1, h2, g1, by rw [g2]; exact hlt, by rw [g2]; omega⟩

theorem rootInv_start {n : Int} (h0 : 0 ≤ n) (h1 : n ≤ 9223372036854775807) : RootInv n 0 2147483648 := by
  refine ⟨by omega, by omega, .inr ⟨31, by omega, rfl⟩, ?_, ?_⟩ <;> simp only [rtUp] <;> simp <;> omega

/-- The root: the greatest number whose square is at most n (0 for negative n). -/
def rtLoop (n : Int) : Nat → Int → Int → Int
  | 0, _, r => r
  | k + 1, b, r => if (r + b) * (r + b) ≤ n then rtLoop n k (b / 2) (r + b) else rtLoop n k (b / 2) r
def rt (n : Int) : Int := if n < 0 then 0 else rtLoop n 32 2147483648 0

theorem rtLoop_zero {n : Int} : ∀ (k : Nat) (r : Int), rtLoop n k 0 r = r
  | 0, _ => rfl
  | k + 1, r => by rw [rtLoop]; simp [rtLoop_zero k]

theorem rtLoop_inv {n : Int} : ∀ (k : Nat) {b r : Int}, RootInv n r b → b < 2 ^ k → RootInv n (rtLoop n k b r) 0
  | 0, b, r, h, hk => by
    have h0 := isBit_nonneg h.2.2.1
    obtain rfl : b = 0 := by simp at hk; omega
    exact h
  | k + 1, b, r, h, hk => by
    have h0 := isBit_nonneg h.2.2.1
    by_cases hp : 0 < b
    · have hk' : b / 2 < 2 ^ k := by rw [Int.pow_succ] at hk; omega
      rw [rtLoop]
      split
      · exact rtLoop_inv k (rootInv_up h hp ‹_›) hk'
      · exact rtLoop_inv k (rootInv_stay h hp (by omega)) hk'
    · obtain rfl : b = 0 := by omega
      rw [rtLoop_zero]; exact h

theorem sq_mono {a b : Int} (h0 : 0 ≤ a) (h : a ≤ b) : a * a ≤ b * b := Int.mul_le_mul h h h0 (by omega)

theorem root_unique {n r s : Int} (h : RootInv n r 0) (g : RootInv n s 0) : r = s := by
  obtain ⟨h1, h2, _, h4, _⟩ := h
  obtain ⟨g1, g2, _, g4, _⟩ := g
  simp [rtUp] at h4 g4
  rcases Int.lt_trichotomy r s with h | h | h
  · have := sq_mono (a := r + 1) (b := s) (by omega) (by omega); omega
  · exact h
  · have := sq_mono (a := s + 1) (b := r) (by omega) (by omega); omega

theorem rt_inv {n : Int} (h0 : 0 ≤ n) (h1 : n ≤ 9223372036854775807) : RootInv n (rt n) 0 := by
  unfold rt; rw [if_neg (by omega)]
  exact rtLoop_inv 32 (rootInv_start h0 h1) (by decide)

theorem rt_of {n r : Int} (h0 : 0 ≤ n) (h1 : n ≤ 9223372036854775807) (h : RootInv n r 0) : r = rt n := root_unique h (rt_inv h0 h1)
theorem rt_neg {n : Int} (h : n < 0) : rt n = 0 := by unfold rt; rw [if_pos h]

theorem sq_small {k : Int} (h0 : 0 ≤ k) (h : k ≤ 3037000499) : wrap64 (k * k) = k * k := by
  have h1 := sq_mono h0 h
  have h2 : 0 ≤ k * k := Int.mul_nonneg h0 h0
  have h3 : (3037000499 : Int) * 3037000499 = 9223372030926249001 := by decide
  rw [h3] at h1
  unfold wrap64; omega

theorem sq_great {n k : Int} (h1 : n ≤ 9223372036854775807) (h : 3037000500 ≤ k) : n < k * k := by
  have h1 := sq_mono (by omega : (0 : Int) ≤ 3037000500) h
  have h3 : (3037000500 : Int) * 3037000500 = 9223372037000250000 := by decide
  rw [h3] at h1
  omega

theorem quo_neg {n y : Int} (h0 : n < 0) (hp : 0 < y) : n.tdiv y < y := by
  have h3 : (-n).tdiv y = -(n.tdiv y) := Int.neg_tdiv ..
  have h4 : 0 ≤ (-n).tdiv y := Int.tdiv_nonneg (by omega) (by omega)
  omega

theorem ret_i64 {a b : Int} (h : a = b) : Ending.returned (.int .i64 a) = .returned (.int .i64 b) := by rw [h]

theorem rootInv_bd {n r b : Int} (h : RootInv n r b) (hp : 0 < b) : 0 ≤ r ∧ r + b ≤ 4294967296 ∧ b ≤ 4294967296 := by
  obtain ⟨h1, _, _, _, h5⟩ := h
  rw [rtUp_pos hp] at h5
  omega

theorem rt_le {n : Int} (h0 : 0 ≤ n) (h1 : n ≤ 9223372036854775807) : 0 ≤ rt n ∧ rt n ≤ 3037000499 ∧ rt n * rt n ≤ n ∧ n < (rt n + 1) * (rt n + 1) := by
  obtain ⟨t1, t2, _, t4, _⟩ := rt_inv h0 h1
  simp [rtUp] at t4
  refine ⟨t1, ?_, t2, t4⟩
  rcases Int.lt_or_le 3037000499 (rt n) with h | h
  · have := sq_great h1 (k := rt n) (by omega); omega
  · exact h

theorem rt_laws {n : Int} (h0 : 0 ≤ n) (h1 : n ≤ 9223372036854775807) : wrap64 (rt n * rt n) ≤ n ∧ (rt n ≠ 3037000499 → n < wrap64 ((rt n + 1) * (rt n + 1))) := by
  obtain ⟨t1, t2, t3, t4⟩ := rt_le h0 h1
  refine ⟨by rw [sq_small t1 t2]; exact t3, fun h => by rw [sq_small (by omega) (by omega)]; exact t4⟩

end Go.Proofs.Ytagaildnfbegkab
