/-
  What spec.NumRead computes: the number in -MaxCost..MaxCost whose text is s, and true; or 0 and false.
-/
import Derived.Test.YtjaifbbkfgfdeaaDoorText
import Derived.WalkSpells
namespace Go.Proofs.YtjaifbbkfgfdeaaDoor
open Go.RowKit Go.Deep

/-- The number n, in -MaxCost..MaxCost, has the text l. -/
def ReadsAs (n : Int) (l : List UInt8) : Prop := -1000000000000 ≤ n ∧ n ≤ 1000000000000 ∧ Lib.itoa n = l

/-- A number that has the text l, and true; or 0 and false where there is none. -/
def ReadPost (l : List UInt8) (e : Ending) : Prop :=
  (∃ n, ReadsAs n l ∧ e = .returned (.tuple #[.int .i64 n, .bool true])) ∨ ((∀ n, ¬ ReadsAs n l) ∧ e = .returned (.tuple #[.int .i64 0, .bool false]))

def isDig (c : UInt8) : Prop := 48 ≤ (c.toNat : Int) ∧ (c.toNat : Int) ≤ 57
/-- The value of a row of digits. -/
def dval (l : List UInt8) : Int := l.foldl (fun a c => 10 * a + ((c.toNat : Int) - 48)) 0

theorem dval_snoc (l : List UInt8) (c : UInt8) : dval (l ++ [c]) = 10 * dval l + ((c.toNat : Int) - 48) := by simp [dval, List.foldl_append]

theorem dig_of {k : Nat} (h : k < 10) : ((UInt8.ofNat (48 + k)).toNat : Int) = 48 + k := by
  have : (UInt8.ofNat (48 + k)).toNat = (48 + k) % 256 := by simp
  rw [this]; omega

theorem decDigits_all : ∀ (u : Nat), (∀ c ∈ Lib.decDigits u, isDig c) ∧ dval (Lib.decDigits u) = u ∧ Lib.decDigits u ≠ [] := by
  intro u
  induction u using Nat.strongRecOn with
  | ind u ih =>
    rw [Lib.decDigits]
    by_cases h : u < 10
    · rw [dif_pos h]
      refine ⟨?_, ?_, by simp⟩
      · intro c hc
        rw [List.mem_singleton] at hc; subst hc
        unfold isDig; rw [dig_of h]; omega
      · simp only [dval, List.foldl_cons, List.foldl_nil]; rw [dig_of h]; omega
    · rw [dif_neg h]
      obtain ⟨h1, h2, _⟩ := ih (u / 10) (by omega)
      refine ⟨?_, ?_, by simp⟩
      · intro c hc
        rcases List.mem_append.1 hc with hc | hc
        · exact h1 c hc
        · rw [List.mem_singleton] at hc; subst hc
          unfold isDig; rw [dig_of (by omega)]; omega
      · rw [dval_snoc, h2, dig_of (by omega)]; omega

theorem itoa_inj {n m : Int} (h : Lib.itoa n = Lib.itoa m) : n = m := by
  have hn := decDigits_all n.natAbs
  have hm := decDigits_all m.natAbs
  have head : ∀ {u : Nat} {r : List UInt8}, Lib.decDigits u ≠ 45 :: r := by
    intro u r e
    have := (decDigits_all u).1 45 (by rw [e]; simp)
    unfold isDig at this
    have e2 : ((45 : UInt8).toNat : Int) = 45 := rfl
    omega
  by_cases a : n < 0
  · by_cases b : m < 0
    · rw [itoa_neg a, itoa_neg b] at h
      have h := (List.cons.inj h).2
      have := hn.2.1; have := hm.2.1; rw [h] at *; omega
    · rw [itoa_neg a, itoa_pos b] at h
      exact absurd h.symm head
  · by_cases b : m < 0
    · rw [itoa_pos a, itoa_neg b] at h
      exact absurd h head
    · rw [itoa_pos a, itoa_pos b] at h
      have := hn.2.1; have := hm.2.1; rw [h] at *; omega

/-- Two answers that keep the post are one. -/
theorem readPost_same {l : List UInt8} {e e' : Ending} (h : ReadPost l e) (h' : ReadPost l e') : e = e' := by
  rcases h with ⟨n, hn, rfl⟩ | ⟨hn, rfl⟩
  · rcases h' with ⟨m, hm, rfl⟩ | ⟨hm, _⟩
    · rw [itoa_inj (hn.2.2.trans hm.2.2.symm)]
    · exact absurd hn (hm n)
  · rcases h' with ⟨m, hm, _⟩ | ⟨_, rfl⟩
    · exact absurd hm (hn m)
    · rfl

/-- d is what follows the sign of s; neg tells whether there is one. -/
def DigitsOf (sl dl : List UInt8) (neg : Bool) : Prop := (neg = true ∧ sl = 45 :: dl) ∨ (neg = false ∧ dl = sl ∧ sl.head? ≠ some 45)

/-- What is known of the digits where s is the text of a number. -/
theorem digits_of_reads {m : Int} {sl dl : List UInt8} {neg : Bool} (h : ReadsAs m sl) (hd : DigitsOf sl dl neg) :
    dl = Lib.decDigits m.natAbs ∧ (if neg then -(dval dl) else dval dl) = m ∧ 1 ≤ dl.length ∧ dl.length ≤ 13 ∧ ∀ c ∈ dl, isDig c := by
  obtain ⟨r0, r1, r2⟩ := h
  have hm := decDigits_all m.natAbs
  have key : dl = Lib.decDigits m.natAbs ∧ (neg = true ↔ m < 0) := by
    rcases hd with ⟨rfl, e⟩ | ⟨rfl, e, hh⟩
    · by_cases a : m < 0
      · rw [itoa_neg a, e] at r2
        exact ⟨(List.cons.inj r2).2.symm, by simp [a]⟩
      · rw [itoa_pos a, e] at r2
        have := hm.1 45 (by rw [r2]; simp)
        unfold isDig at this
        have e2 : ((45 : UInt8).toNat : Int) = 45 := rfl
        omega
    · by_cases a : m < 0
      · rw [itoa_neg a] at r2
        rw [← r2] at hh
        simp at hh
      · rw [itoa_pos a] at r2
        exact ⟨by rw [e, r2], by simp; omega⟩
  obtain ⟨k1, k2⟩ := key
  have hl := decDigits_len 12 m.natAbs (Nat.lt_of_le_of_lt (show m.natAbs ≤ 1000000000000 by omega) (by decide))
  refine ⟨k1, ?_, ?_, by rw [k1]; exact hl, by rw [k1]; exact hm.1⟩
  · rw [k1, hm.2.1]
    cases neg with
    | true => simp; have := k2.1 rfl; omega
    | false => simp; have : ¬ m < 0 := fun h => by simpa using k2.2 h
               omega
  · rw [k1]
    have := List.length_pos_iff.2 hm.2.2
    omega

theorem dval_from : ∀ (l : List UInt8) (a : Int), 0 ≤ a → (∀ c ∈ l, isDig c) → 0 ≤ l.foldl (fun a c => 10 * a + ((c.toNat : Int) - 48)) a ∧ l.foldl (fun a c => 10 * a + ((c.toNat : Int) - 48)) a < (a + 1) * 10 ^ l.length
  | [], a, h, _ => by simp; omega
  | c :: l, a, h, hd => by
    obtain ⟨g1, g2⟩ := hd c (by simp)
    obtain ⟨h1, h2⟩ := dval_from l (10 * a + ((c.toNat : Int) - 48)) (by omega) (fun x hx => hd x (by simp [hx]))
    refine ⟨h1, ?_⟩
    simp only [List.foldl_cons, List.length_cons, Int.pow_succ]
    have hp : (0 : Int) ≤ 10 ^ l.length := Int.le_of_lt (Int.pow_pos (by decide))
    have := Int.mul_le_mul_of_nonneg_right (show 10 * a + ((c.toNat : Int) - 48) + 1 ≤ 10 * (a + 1) by omega) hp
    have e : 10 * (a + 1) * 10 ^ l.length = (a + 1) * (10 ^ l.length * 10) := by rw [Int.mul_comm 10 (a + 1), Int.mul_assoc, Int.mul_comm 10]
    omega

theorem dval_bd (l : List UInt8) (h : ∀ c ∈ l, isDig c) (hl : l.length ≤ 13) : 0 ≤ dval l ∧ dval l < 10000000000000 := by
  obtain ⟨h1, h2⟩ := dval_from l 0 (by omega) h
  refine ⟨h1, ?_⟩
  have h3 : (10 : Nat) ^ l.length ≤ 10 ^ 13 := Nat.pow_le_pow_right (by decide) hl
  have e : (10 : Nat) ^ 13 = 10000000000000 := by decide
  have e2 : ((10 ^ l.length : Nat) : Int) = (10 : Int) ^ l.length := by simp
  unfold dval; omega

theorem between_yes (n lo hi : Int) (w : World) (h1 : lo ≤ n) (h2 : n ≤ hi) : Calls Tryd.prog 25 #[.int .i64 n, .int .i64 lo, .int .i64 hi] w fun e w' => e = .returned (.bool true) ∧ w = w' := by
  go_enter Tryd.func25, Tryd.ntmps25
  go_wp2
  go_ret
  exact ⟨rfl, rfl⟩
theorem between_no (n lo hi : Int) (w : World) (h : ¬ (lo ≤ n ∧ n ≤ hi)) : Calls Tryd.prog 25 #[.int .i64 n, .int .i64 lo, .int .i64 hi] w fun e w' => e = .returned (.bool false) ∧ w = w' := by
  by_cases h1 : lo ≤ n
  · have h2 : ¬ n ≤ hi := fun h2 => h ⟨h1, h2⟩
    clear h
    go_enter Tryd.func25, Tryd.ntmps25
    go_wp2
    go_ret
    exact ⟨rfl, rfl⟩
  · clear h
    go_enter Tryd.func25, Tryd.ntmps25
    go_wp2
    go_ret
    exact ⟨rfl, rfl⟩

end Go.Proofs.YtjaifbbkfgfdeaaDoor
