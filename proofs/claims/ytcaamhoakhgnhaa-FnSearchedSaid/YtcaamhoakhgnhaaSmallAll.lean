/-
  What impl.smallest, impl.Least, impl.limited, impl.Sat, spec.Least, spec.l01Cost and spec.Sat compute. What laws.toIntS and laws.eqIntS compute: a copy of a slice of numbers in new memory; whether two slices hold the same numbers.
-/
import Derived.Test.YtcaamhoakhgnhaaBaseAll
import Derived.WalkKit
import Derived.ProofKit
import Derived.Lib.Hide
import Derived.Deep.OwnRows
import Derived.Deep.QuietTactic
import Derived.BigQuiet
import Derived.Deep.RegionHeld
namespace Go.Proofs.Ytcaamhoakhgnhaa
open Go.RowKit

/-- The smallest of a list, 0 for the empty one. -/
def lst : List Int → Int
  | [] => 0
  | z :: r => r.foldl min z

theorem lst_take_one (zs : List Int) (h : 0 < zs.length) : lst (zs.take 1) = zg zs 0 := by
  cases zs with
  | nil => simp at h
  | cons z r => simp [lst, zg]

theorem lst_take_succ (zs : List Int) (k : Nat) (h0 : 0 < k) (h : k < zs.length) : lst (zs.take (k + 1)) = min (lst (zs.take k)) (zg zs k) := by
  cases zs with
  | nil => simp at h
  | cons z r =>
    cases k with
    | zero => omega
    | succ k =>
      have h' : k < r.length := by simpa using h
      rw [List.take_succ_cons, List.take_succ_eq_append_getElem h', List.take_succ_cons]
      show (r.take k ++ [r[k]]).foldl min z = min ((r.take k).foldl min z) ((z :: r).getD (k + 1) 0)
      rw [List.foldl_append]; simp [h']

theorem lst_take_if (zs : List Int) (k : Nat) (h : k < zs.length) : (if zg zs k < lst (zs.take (max k 1)) then zg zs k else lst (zs.take (max k 1))) = lst (zs.take (max (k + 1) 1)) := by
  rcases Nat.eq_zero_or_pos k with rfl | hp
  · rw [show max 0 1 = 1 from rfl, show max (0 + 1) 1 = 1 from rfl, lst_take_one zs h]; simp
  · rw [Nat.max_eq_left (by omega), Nat.max_eq_left (by omega), lst_take_succ zs k hp h]
    split
    · rw [Int.min_eq_right (by omega)]
    · rw [Int.min_eq_left (by omega)]

set_option maxHeartbeats 400000 in
theorem smallest_any (b off cap : Nat) (zs : List Int) (w : World) (hp : 0 < zs.length) (hm : zs.length ≤ 4611686018427387904) (hcap : zs.length ≤ cap) (hc : IntsAt w b off zs) :
    Calls Try.prog 68 #[.slice (some ⟨b, off, none⟩) zs.length cap] w fun e w' => e = .returned (.int .i64 (lst zs)) ∧ w = w' := by
  have hc0 : w.cell? ⟨b, off, none⟩ = some (.int .i64 (zg zs 0)) := by simpa using hc 0 hp
  have hne : ((zs.length : Int) == 0) = false := by rw [beq_eq_false_iff_ne]; omega
  have H0 := Lib.hid (lst_take_one zs hp)
  by_cases h1 : cap = 1
  · subst h1
    obtain ⟨z, rfl⟩ : ∃ z, zs = [z] := by
      match zs, hp, hcap with
      | [z], _, _ => exact ⟨z, rfl⟩
    clear hne
    simp [zg] at hc0
    go_enter Try.func68, Try.ntmps68
    go_wp2
    refine wp_loop_rounds 1 ?_; rw [rounds_succ]
    go_wp2
    go_ret
    exact ⟨by simp [lst], rfl⟩
  · go_enter Try.func68, Try.ntmps68
    go_wp2
    go_loop [3, 15] (fun t i => ∃ k : Nat, k + 1 ≤ zs.length ∧ i = .int .i64 k ∧ t = .int .i64 (lst (zs.take (k + 1)))) (fun _ i => zs.length - (intOf i).toNat)
    case atStart => exact ⟨0, by omega, rfl, by rw [H0.out]⟩
    case round =>
      obtain ⟨k, hk, rfl, rfl⟩ := hrel
      by_cases hlt : k < zs.length - 1
      · have hck : w.cell? ⟨b, off + 1 + k, none⟩ = some (.int .i64 (zg zs (k + 1))) := by have := hc (k + 1) (by omega); rwa [show off + (k + 1) = off + 1 + k by omega] at this
        have HS := Lib.hid (lst_take_succ zs (k + 1) (by omega) (by omega))
        go_wp2
        · go_round
          case rel => exact ⟨k + 1, by omega, by go_num, by rw [HS.out, Int.min_eq_right (Int.le_of_lt ‹_›)]⟩
          case measure => simp [intOf]; omega
        · go_round
          case rel => exact ⟨k + 1, by omega, by go_num, by rw [HS.out, Int.min_eq_left ‹_›]⟩
          case measure => simp [intOf]; omega
      · have HE : Hid (zs.take (k + 1) = zs) := by rw [List.take_of_length_le (by omega)]; trivial
        go_wp2
        go_ret
        exact ⟨retI (by rw [HE.out]), rfl⟩

theorem smallest_nil (c : Nat) (A : Option Addr) (w : World) : Calls Try.prog 68 #[.slice A 0 c] w fun e w' => e = .returned (.int .i64 0) ∧ w = w' := by
  go_enter Try.func68, Try.ntmps68
  go_wp2
  go_ret
  exact ⟨rfl, rfl⟩

/-- A cost limited to 0..MaxCost. -/
def lim (n : Int) : Int := max 0 (min 1000000000000 n)

theorem lst_two (a b : Int) : lst [a, b] = min a b := by simp [lst]

theorem intsAt_two (w : World) (a b : Int) (t : TypeId) : IntsAt (w.alloc (.cells #[.int .i64 a, .int .i64 b] t)) w.heap.size 0 [a, b] := by
  intro i hi
  match i, hi with
  | 0, _ => simp [zg]
  | 1, _ => simp [zg]

theorem smallest_two (a b : Int) (t : TypeId) (w : World) :
    Calls Try.prog 68 #[.slice (some ⟨w.heap.size, 0, none⟩) 2 2] (w.alloc (.cells #[.int .i64 a, .int .i64 b] t)) fun e w' => e = .returned (.int .i64 (min a b)) ∧ w.alloc (.cells #[.int .i64 a, .int .i64 b] t) = w' := by
  have h := smallest_any w.heap.size 0 2 [a, b] (w.alloc (.cells #[.int .i64 a, .int .i64 b] t)) (by simp) (by simp) (by simp) (intsAt_two w a b t)
  rw [lst_two] at h
  exact h

theorem lim_bd (n : Int) : 0 ≤ lim n ∧ lim n ≤ 1000000000000 := by unfold lim; omega

/-- The sum of two costs, limited. -/
def sat (a b : Int) : Int := lim (lim a + lim b)

theorem sat_comm (a b : Int) : sat a b = sat b a := by unfold sat lim; omega

theorem sat_laws (x y : Int) : 0 ≤ sat x y ∧ sat x y ≤ 1000000000000 ∧ (¬ x < 0 → ¬ 1000000000000 < x → x ≤ sat x y) := by unfold sat lim; omega

end Go.Proofs.Ytcaamhoakhgnhaa

namespace Go.Proofs.Ytcaamhoakhgnhaa
open Go.RowKit Go.Deep

theorem Try.infoInt : (Try.prog.info? 3).map (fun i => (i.zero, i.size, i.bytes)) = some (some (.int .i64 0), 1, 8) := by kernel_rfl

def CopyRel (w wr : World) (zs : List Int) (k : Nat) : Prop :=
  wr.rowIs w.heap.size 3 zs.length (fun j => .int .i64 (if j < k then zg zs j else 0)) ∧ Below w.heap.size w wr

theorem copyRel_start (w : World) (zs : List Int) : CopyRel w (w.alloc (.cells (madeCells #[.int .i64 0] zs.length) 3)) zs 0 :=
  ⟨(World.rowIs_made w _ _ _).congr fun i _ => by simp, (Below.refl _ _).alloc (Nat.le_refl _) _⟩

theorem copyRel_step {w wr : World} {zs : List Int} {k : Nat} (h : CopyRel w wr zs k) : CopyRel w (wr.setCell ⟨w.heap.size, k, none⟩ (.int .i64 (zg zs k))) zs (k + 1) :=
  ⟨(h.1.set k _).congr fun j _ => by
    by_cases e : j = k
    · subst e; simp
    · rw [if_neg e]; by_cases h' : j < k
      · rw [if_pos h', if_pos (by omega)]
      · rw [if_neg h', if_neg (by omega)], h.2.setCell (Nat.le_refl _) _⟩

theorem copyRel_end {w wr : World} {zs : List Int} {k : Nat} (h : CopyRel w wr zs k) (hk : zs.length ≤ k) : wr.rowIs w.heap.size 3 zs.length (fun j => .int .i64 (zg zs j)) ∧ Below w.heap.size w wr :=
  ⟨h.1.congr fun j hj => by rw [if_pos (by omega)], h.2⟩

set_option maxHeartbeats 400000 in
theorem toIntS_any (A : Option Addr) (cap : Nat) (zs : List Int) (w : World) (hn : zs.length ≤ 1048576) (h : IsInts w A zs) :
    Calls Try.prog 24 #[.slice A zs.length cap] w fun e w' => e = .returned (.slice (some ⟨w.heap.size, 0, none⟩) zs.length zs.length) ∧
      w'.rowIs w.heap.size 3 zs.length (fun j => .int .i64 (zg zs j)) ∧ Below w.heap.size w w' := by
  have hmk := run_make_row' (P := Try.prog) 40 3 (.int .i64 0) 8 Try.underlying40 Try.infoInt rfl .i64 .i64 zs.length (by omega) (by omega)
  go_enter Try.func24, Try.ntmps24
  go_wp2
  go_loopw [4] (fun i wr => ∃ k : Nat, k ≤ zs.length ∧ i = .int .i64 k ∧ CopyRel w wr zs k) (fun i _ => zs.length - (intOf i).toNat)
  case atStart => exact ⟨0, by omega, rfl, copyRel_start w zs⟩
  case round =>
    obtain ⟨k, hk, rfl, hr⟩ := hrel
    by_cases hlt : k < zs.length
    · obtain ⟨b, off, rfl, hb, hck⟩ := h.at_ hlt
      have hc' := (hr.2.cell (p := ⟨b, off + k, none⟩) hb).trans hck
      have hcn := hr.1.cell hlt
      have hfz := hr.1.frozen k
      clear hmk hck
      go_wp2
      go_roundw
      case rel => exact ⟨k + 1, by omega, by go_num, copyRel_step hr⟩
      case measure => simp [intOf]; omega
    · have HE := copyRel_end hr (by omega)
      go_wp2
      go_ret
      exact ⟨rfl, HE⟩

set_option maxHeartbeats 400000 in
theorem eqIntS_same (A B : Option Addr) (ca cb : Nat) (zs : List Int) (w : World) (hn : zs.length ≤ 1048576) (ha : IsInts w A zs) (hb : IsInts w B zs) :
    Calls Try.prog 26 #[.slice A zs.length ca, .slice B zs.length cb] w fun e w' => e = .returned (.bool true) ∧ ∃ n, w' = w.drewN n := by
  go_enter Try.func26, Try.ntmps26
  go_wp2
  go_loopw [5] (fun i wr => ∃ k m : Nat, k ≤ zs.length ∧ i = .int .i64 k ∧ wr = w.drewN m) (fun i _ => zs.length - (intOf i).toNat)
  case atStart => exact ⟨0, 0, by omega, rfl, rfl⟩
  case round =>
    obtain ⟨k, m, hk, rfl, rfl⟩ := hrel
    by_cases hlt : k < zs.length
    · obtain ⟨b1, o1, rfl, hb1, hc1⟩ := ha.at_ hlt
      obtain ⟨b2, o2, rfl, hb2, hc2⟩ := hb.at_ hlt
      go_wp2
      go_quiet (fail)
      go_wp2
      go_roundw
      case rel => exact ⟨k + 1, _, by omega, by go_num, rfl⟩
      case measure => simp [intOf]; omega
    · go_wp2
      go_ret
      exact ⟨rfl, m, rfl⟩

theorem smallest_ints (A : Option Addr) (cap : Nat) (zs : List Int) (w : World) (hn : zs.length ≤ 1048576) (hcap : zs.length ≤ cap) (h : IsInts w A zs) :
    Calls Try.prog 68 #[.slice A zs.length cap] w fun e w' => e = .returned (.int .i64 (lst zs)) ∧ w = w' := by
  rcases Nat.eq_zero_or_pos zs.length with h0 | hp
  · obtain rfl := List.eq_nil_of_length_eq_zero h0
    exact smallest_nil cap A w
  · obtain ⟨b, off, rfl, _, hc⟩ := h hp
    exact smallest_any b off cap zs w hp (by omega) hcap hc

theorem implLeast_ints (A : Option Addr) (cap : Nat) (zs : List Int) (w : World) (hn : zs.length ≤ 1048576) (hcap : zs.length ≤ cap) (h : IsInts w A zs) :
    Calls Try.prog 38 #[.slice A zs.length cap] w fun e w' => e = .returned (.int .i64 (lst zs)) ∧ w = w' := by
  go_enter Try.func38, Try.ntmps38
  go_wp2_with (go_at_call 68; refine (smallest_ints A cap zs _ hn hcap h).mono ?_; rintro e w' ⟨rfl, rfl⟩)
  go_ret
  exact ⟨rfl, rfl⟩

end Go.Proofs.Ytcaamhoakhgnhaa
