/-
  What the two FloorDiv functions of the program and of its specification compute: the quotient rounded down (0 for the divisor 0), wrapped to 64 bits.
-/
import Derived.Test.YtagaildnfbegkabProg
import Derived.WalkKit
import Derived.ProofKit
import Derived.Lib.Hide
namespace Go.Proofs.Ytagaildnfbegkab
open Go.RowKit

/-- The quotient rounded down, as a number of 64 bits. -/
def fd (a b : Int) : Int := wrap64 (a.fdiv b)

theorem fd_zero (a : Int) : fd a 0 = 0 := by simp [fd, wrap64]

theorem fd_same (a b : Int) (h : a.tmod b = 0 ∨ (a < 0 ↔ b < 0)) : wrap64 (a.tdiv b) = fd a b := by
  unfold fd
  rw [Int.fdiv_eq_tdiv]
  by_cases hd : b ∣ a
  · rw [if_pos hd]; simp
  · have hm : a.tmod b ≠ 0 := fun e => hd (Int.dvd_of_tmod_eq_zero e)
    rcases h with h | h
    · exact absurd h hm
    · rw [if_neg hd]
      by_cases ha : 0 ≤ a
      · have : 0 ≤ b := by omega
        rw [if_pos ha, if_pos this]; simp
      · have : ¬ 0 ≤ b := by omega
        rw [if_neg ha, if_neg this]
        have : b.sign = -1 := Int.sign_eq_neg_one_of_neg (by omega)
        rw [this]; simp

theorem fd_less (a b : Int) (h : a.tmod b ≠ 0) (h' : ¬ (a < 0 ↔ b < 0)) (hb : b ≠ 0) : wrap64 (wrap64 (a.tdiv b) - 1) = fd a b := by
  have e : wrap64 (wrap64 (a.tdiv b) - 1) = wrap64 (a.tdiv b - 1) := by unfold wrap64; omega
  rw [e]; unfold fd
  rw [Int.fdiv_eq_tdiv]
  have hd : ¬ b ∣ a := fun hd => h (Int.tmod_eq_zero_of_dvd hd)
  rw [if_neg hd]
  by_cases ha : 0 ≤ a
  · have : ¬ 0 ≤ b := by omega
    rw [if_pos ha, if_neg this]
  · have : 0 ≤ b := by omega
    rw [if_neg ha, if_pos this]
    have : b.sign = 1 := Int.sign_eq_one_of_pos (by omega)
    rw [this]

theorem sign_prod (x y : Int) : wrap64 (x.sign * y.sign) = x.sign * y.sign := by
  have := Int.sign_trichotomy x
  have := Int.sign_trichotomy y
  unfold wrap64
  rcases Int.sign_trichotomy x with h | h | h <;> rcases Int.sign_trichotomy y with h' | h' | h' <;> rw [h, h'] <;> decide

theorem tmod_sign (a b : Int) (h : a.tmod b ≠ 0) : (a.tmod b < 0 ↔ a < 0) := by
  have h1 : 0 ≤ a → 0 ≤ a.tmod b := Int.tmod_nonneg b
  have h2 : 0 ≤ -a → 0 ≤ (-a).tmod b := Int.tmod_nonneg b
  rw [Int.neg_tmod] at h2
  omega

theorem sign_down (a b : Int) (h : a.tmod b ≠ 0) (h' : ¬ (a < 0 ↔ b < 0)) (hb : b ≠ 0) : (wrap64 ((a.tmod b).sign * b.sign) == -1) = true := by
  rw [sign_prod]
  have := tmod_sign a b h
  by_cases hn : b < 0
  · rw [Int.sign_eq_neg_one_of_neg hn, Int.sign_eq_one_of_pos (by omega)]; decide
  · rw [Int.sign_eq_one_of_pos (by omega : 0 < b), Int.sign_eq_neg_one_of_neg (by omega)]; decide

theorem sign_same (a b : Int) (h : a.tmod b = 0 ∨ (a < 0 ↔ b < 0)) : (wrap64 ((a.tmod b).sign * b.sign) == -1) = false := by
  rw [sign_prod]
  by_cases h0 : a.tmod b = 0
  · rw [h0]; simp
  · have := tmod_sign a b h0
    have h := h.resolve_left h0
    by_cases hn : b < 0
    · rw [Int.sign_eq_neg_one_of_neg hn, Int.sign_eq_neg_one_of_neg (by omega)]; decide
    · rw [Int.sign_eq_one_of_pos (by omega : 0 < a.tmod b)]
      by_cases hb : b = 0
      · subst hb; simp
      · rw [Int.sign_eq_one_of_pos (by omega : 0 < b)]; decide

theorem ret_int {k : IntKind} {a b : Int} (h : a = b) : Ending.returned (.int k a) = .returned (.int k b) := by rw [h]

theorem fd_pos {a b : Int} (hb : 0 < b) (h0 : -9223372036854775808 ≤ a) (h1 : a ≤ 9223372036854775807) : fd a b = a / b := by
  unfold fd
  rw [Int.fdiv_eq_ediv, if_pos (.inl (by omega))]
  have l0 := Int.ediv_mul_le a (b := b) (by omega)
  have l1 := Int.lt_ediv_add_one_mul_self a hb
  have k0 : a / b ≤ 9223372036854775807 := by
    rcases Int.lt_or_le a 0 with h | h
    · have := Int.ediv_neg_of_neg_of_pos h hb; omega
    · have := Int.ediv_le_self b h; omega
  have k1 : -9223372036854775808 ≤ a / b := by
    rcases Int.lt_or_le a 0 with h | h
    · have : -9223372036854775808 / b ≤ a / b := Int.ediv_le_ediv hb h0
      have : -9223372036854775808 ≤ -9223372036854775808 / b := by
        rw [Int.le_ediv_iff_mul_le hb]
        omega
      omega
    · have := Int.ediv_nonneg h (Int.le_of_lt hb); omega
  have : a / b - 0 = a / b := by omega
  rw [this]; unfold wrap64; omega

/-- What the law of floors asks of a quotient of small numbers. -/
theorem fd_laws {a b : Int} (hb : 0 < b) (hb' : b < 1000) (h0 : -1000000000 < a) (h1 : a < 1000000000) :
    -1000000000 ≤ fd a b ∧ fd a b ≤ 1000000000 ∧ wrap64 (fd a b * b) ≤ a ∧ a < wrap64 ((fd a b + 1) * b) := by
  rw [fd_pos hb (by omega) (by omega)]
  have l0 := Int.ediv_mul_le a (b := b) (by omega)
  have l1 := Int.lt_ediv_add_one_mul_self a hb
  have e1 : (a / b + 1) * b = a / b * b + b := by rw [Int.add_mul, Int.one_mul]
  have k0 : a / b ≤ 1000000000 := by
    rcases Int.lt_or_le a 0 with h | h
    · have := Int.ediv_neg_of_neg_of_pos h hb; omega
    · have := Int.ediv_le_self b h; omega
  have k1 : -1000000000 ≤ a / b := by
    rw [Int.le_ediv_iff_mul_le hb]
    omega
  rw [e1] at l1 ⊢
  refine ⟨k1, k0, ?_, ?_⟩ <;> unfold wrap64 <;> omega

end Go.Proofs.Ytagaildnfbegkab
