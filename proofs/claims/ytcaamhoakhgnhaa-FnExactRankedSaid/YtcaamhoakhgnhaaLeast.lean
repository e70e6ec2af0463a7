/-
  What impl.smallest, impl.Least, impl.limited, impl.Sat, spec.Least, spec.l01Cost and spec.Sat compute.
-/
import Derived.Test.YtcaamhoakhgnhaaMem
import Derived.WalkKit
import Derived.ProofKit
import Derived.Lib.Hide
namespace Go.Proofs.Ytcaamhoakhgnhaa
open Go.RowKit

/-- The smallest of a list, 0 for the empty one. -/
def lst : List Int → Int
  | [] => 0
  | z :: r => r.foldl min z

theorem lst_take_one (zs : List Int) (h : 0 < zs.length) : lst (zs.take 1) = zg zs 0 := by
  cases zs with
  | nil => simp at h
  | cons z r => simp [lst, zg]

theorem lst_take_succ (zs : List Int) (k : Nat) (h0 : 0 < k) (h : k < zs.length) : lst (zs.take (k + 1)) = min (lst (zs.take k)) (zg zs k) := by
  cases zs with
  | nil => simp at h
  | cons z r =>
    cases k with
    | zero => omega
    | succ k =>
      have h' : k < r.length := by simpa using h
      rw [List.take_succ_cons, List.take_succ_eq_append_getElem h', List.take_succ_cons]
      show (r.take k ++ [r[k]]).foldl min z = min ((r.take k).foldl min z) ((z :: r).getD (k + 1) 0)
      rw [List.foldl_append]; simp [h']

theorem lst_take_if (zs : List Int) (k : Nat) (h : k < zs.length) : (if zg zs k < lst (zs.take (max k 1)) then zg zs k else lst (zs.take (max k 1))) = lst (zs.take (max (k + 1) 1)) := by
  rcases Nat.eq_zero_or_pos k with rfl | hp
  · rw [show max 0 1 = 1 from rfl, show max (0 + 1) 1 = 1 from rfl, lst_take_one zs h]; simp
  · rw [Nat.max_eq_left (by omega), Nat.max_eq_left (by omega), lst_take_succ zs k hp h]
    split
    · rw [Int.min_eq_right (by omega)]
    · rw [Int.min_eq_left (by omega)]

set_option maxHeartbeats 400000 in
theorem smallest_any (b off cap : Nat) (zs : List Int) (w : World) (hp : 0 < zs.length) (hm : zs.length ≤ 4611686018427387904) (hcap : zs.length ≤ cap) (hc : IntsAt w b off zs) :
    Calls Try.prog 68 #[.slice (some ⟨b, off, none⟩) zs.length cap] w fun e w' => e = .returned (.int .i64 (lst zs)) ∧ w = w' := by
  have hc0 : w.cell? ⟨b, off, none⟩ = some (.int .i64 (zg zs 0)) := by simpa using hc 0 hp
  have hne : ((zs.length : Int) == 0) = false := by rw [beq_eq_false_iff_ne]; omega
  have H0 := Lib.hid (lst_take_one zs hp)
  by_cases h1 : cap = 1
  · subst h1
    obtain ⟨z, rfl⟩ : ∃ z, zs = [z] := by
      match zs, hp, hcap with
      | [z], _, _ => exact ⟨z, rfl⟩
    clear hne
    simp [zg] at hc0
    go_enter Try.func68, Try.ntmps68
    go_wp2
    refine wp_loop_rounds 1 ?_; rw [rounds_succ]
    go_wp2
    go_ret
    exact ⟨by simp [lst], rfl⟩
  · go_enter Try.func68, Try.ntmps68
    go_wp2
    go_loop [3, 15] (fun t i => ∃ k : Nat, k + 1 ≤ zs.length ∧ i = .int .i64 k ∧ t = .int .i64 (lst (zs.take (k + 1)))) (fun _ i => zs.length - (intOf i).toNat)
    case atStart => exact ⟨0, by omega, rfl, by rw [H0.out]⟩
    case round =>
      obtain ⟨k, hk, rfl, rfl⟩ := hrel
      by_cases hlt : k < zs.length - 1
      · have hck : w.cell? ⟨b, off + 1 + k, none⟩ = some (.int .i64 (zg zs (k + 1))) := by have := hc (k + 1) (by omega); rwa [show off + (k + 1) = off + 1 + k by omega] at this
        have HS := Lib.hid (lst_take_succ zs (k + 1) (by omega) (by omega))
        go_wp2
        · go_round
          case rel => exact ⟨k + 1, by omega, by go_num, by rw [HS.out, Int.min_eq_right (Int.le_of_lt ‹_›)]⟩
          case measure => simp [intOf]; omega
        · go_round
          case rel => exact ⟨k + 1, by omega, by go_num, by rw [HS.out, Int.min_eq_left ‹_›]⟩
          case measure => simp [intOf]; omega
      · have HE : Hid (zs.take (k + 1) = zs) := by rw [List.take_of_length_le (by omega)]; trivial
        go_wp2
        go_ret
        exact ⟨retI (by rw [HE.out]), rfl⟩

theorem smallest_nil (c : Nat) (A : Option Addr) (w : World) : Calls Try.prog 68 #[.slice A 0 c] w fun e w' => e = .returned (.int .i64 0) ∧ w = w' := by
  go_enter Try.func68, Try.ntmps68
  go_wp2
  go_ret
  exact ⟨rfl, rfl⟩

/-- A cost limited to 0..MaxCost. -/
def lim (n : Int) : Int := max 0 (min 1000000000000 n)

theorem lst_two (a b : Int) : lst [a, b] = min a b := by simp [lst]

theorem intsAt_two (w : World) (a b : Int) (t : TypeId) : IntsAt (w.alloc (.cells #[.int .i64 a, .int .i64 b] t)) w.heap.size 0 [a, b] := by
  intro i hi
  match i, hi with
  | 0, _ => simp [zg]
  | 1, _ => simp [zg]

theorem smallest_two (a b : Int) (t : TypeId) (w : World) :
    Calls Try.prog 68 #[.slice (some ⟨w.heap.size, 0, none⟩) 2 2] (w.alloc (.cells #[.int .i64 a, .int .i64 b] t)) fun e w' => e = .returned (.int .i64 (min a b)) ∧ w.alloc (.cells #[.int .i64 a, .int .i64 b] t) = w' := by
  have h := smallest_any w.heap.size 0 2 [a, b] (w.alloc (.cells #[.int .i64 a, .int .i64 b] t)) (by simp) (by simp) (by simp) (intsAt_two w a b t)
  rw [lst_two] at h
  exact h

theorem lim_bd (n : Int) : 0 ≤ lim n ∧ lim n ≤ 1000000000000 := by unfold lim; omega

/-- The sum of two costs, limited. -/
def sat (a b : Int) : Int := lim (lim a + lim b)

theorem sat_comm (a b : Int) : sat a b = sat b a := by unfold sat lim; omega

theorem sat_laws (x y : Int) : 0 ≤ sat x y ∧ sat x y ≤ 1000000000000 ∧ (¬ x < 0 → ¬ 1000000000000 < x → x ≤ sat x y) := by unfold sat lim; omega

end Go.Proofs.Ytcaamhoakhgnhaa
