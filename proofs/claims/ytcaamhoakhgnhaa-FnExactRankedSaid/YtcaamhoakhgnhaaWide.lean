/-
  laws.markIntS, laws.heldIntS and laws.eqIntS at lists of up to 2097152 numbers (as laws of two lists make them).
-/
import Derived.Test.YtcaamhoakhgnhaaMarks
import Derived.Test.YtcaamhoakhgnhaaSlices
namespace Go.Proofs.Ytcaamhoakhgnhaa
open Go.RowKit Go.Deep

set_option maxHeartbeats 1000000 in
theorem markIntS_wide (w : World) (base : Nat) (A : Option Addr) (n cap : Nat) (f : Nat → Int) (k : Int) (hn : n ≤ 2097152) (hk : 0 ≤ k ∧ k ≤ 100000000) (h : OwnSl w base 3 A n f) :
    Calls Try.prog 27 #[.slice A n cap, .int .i64 k] w (Marked w base 3 A n k) := by
  rcases Nat.eq_zero_or_pos n with rfl | hp
  · go_enter Try.func27, Try.ntmps27
    go_wp2
    refine wp_loop_rounds 1 ?_; rw [rounds_succ]
    go_wp2
    go_ret
    exact ⟨by simp, fun h => by omega, World.grownBy.refl w _, rfl⟩
  · obtain ⟨g, off, rfl, hb, ho⟩ := h (by omega)
    have R0 := MarkRel.start (k := k) ho
    go_enter Try.func27, Try.ntmps27
    go_wp2
    go_loopw [1, 5] (fun q i wr => ∃ m : Nat, m ≤ n ∧ i = .int .i64 m ∧ q = .int .i64 (k + (m : Nat)) ∧ MarkRel w wr g 3 off n f k (m)) (fun _ i _ => n - (intOf i).toNat)
    case atStart => exact ⟨0, by omega, rfl, by simp, by simpa using R0⟩
    case round =>
      clear R0
      obtain ⟨m, hm, rfl, rfl, hr⟩ := hrel
      by_cases hlt : m < n
      · have R := hr.step
        have c0 := hr.1.cell (i := m) (by omega)
        have d0 := hr.1.frozen (off + (m))
        obtain ⟨y0, hy0⟩ : ∃ y : Int, wr.cell? ⟨g, off + (m), none⟩ = some (.int .i64 y) := ⟨_, c0⟩
        clear c0
        have hb1 : 0 ≤ k + ((m : Nat) : Int) := by omega
        have hb2 : k + ((m : Nat) : Int) ≤ 200000000 := by omega
        go_wp2
        go_roundw
        case rel => exact ⟨m + 1, by omega, by go_num, congrArg (Value.int .i64) (by omega), by rw [show (m + 1) = m + 1 by omega]; exact R⟩
        case measure => simp [intOf]; omega
      · obtain rfl : m = n := by omega
        go_wp2
        go_ret
        exact hr.done hb (by omega)

set_option maxHeartbeats 1000000 in
theorem heldIntS_wide (w : World) (base : Nat) (A : Option Addr) (n cap : Nat) (k : Int) (hn : n ≤ 2097152) (hk : 0 ≤ k ∧ k ≤ 100000000) (h : OwnSl w base 3 A n (fun j => k + j)) :
    Calls Try.prog 28 #[.slice A n cap, .int .i64 k] w fun e w' => e = .returned (.int .i64 (k + (n : Nat))) ∧ w = w' := by
  rcases Nat.eq_zero_or_pos n with rfl | hp
  · go_enter Try.func28, Try.ntmps28
    go_wp2
    refine wp_loop_rounds 1 ?_; rw [rounds_succ]
    go_wp2
    go_ret
    exact ⟨by simp, rfl⟩
  · obtain ⟨g, off, rfl, hb, ho⟩ := h (by omega)
    go_enter Try.func28, Try.ntmps28
    go_wp2
    go_loop [1, 5] (fun q i => ∃ m : Nat, m ≤ n ∧ i = .int .i64 m ∧ q = .int .i64 (k + (m : Nat))) (fun _ i => n - (intOf i).toNat)
    case atStart => exact ⟨0, by omega, rfl, by simp⟩
    case round =>
      obtain ⟨m, hm, rfl, rfl⟩ := hrel
      by_cases hlt : m < n
      · have hb1 : 0 ≤ k + ((m : Nat) : Int) := by omega
        have hb2 : k + ((m : Nat) : Int) ≤ 200000000 := by omega
        have c0 := ho.cell (i := m) (by omega)
        go_wp2
        go_round
        case rel => exact ⟨m + 1, by omega, by go_num, congrArg (Value.int .i64) (by omega)⟩
        case measure => simp [intOf]; omega
      · obtain rfl : m = n := by omega
        go_wp2
        go_ret
        exact ⟨rfl, rfl⟩

set_option maxHeartbeats 400000 in
theorem eqIntS_wide (A B : Option Addr) (ca cb : Nat) (zs : List Int) (w : World) (hn : zs.length ≤ 2097152) (ha : IsInts w A zs) (hb : IsInts w B zs) :
    Calls Try.prog 26 #[.slice A zs.length ca, .slice B zs.length cb] w fun e w' => e = .returned (.bool true) ∧ ∃ n, w' = w.drewN n := by
  go_enter Try.func26, Try.ntmps26
  go_wp2
  go_loopw [5] (fun i wr => ∃ k m : Nat, k ≤ zs.length ∧ i = .int .i64 k ∧ wr = w.drewN m) (fun i _ => zs.length - (intOf i).toNat)
  case atStart => exact ⟨0, 0, by omega, rfl, rfl⟩
  case round =>
    obtain ⟨k, m, hk, rfl, rfl⟩ := hrel
    by_cases hlt : k < zs.length
    · obtain ⟨b1, o1, rfl, hb1, hc1⟩ := ha.at_ hlt
      obtain ⟨b2, o2, rfl, hb2, hc2⟩ := hb.at_ hlt
      go_wp2
      go_quiet (fail)
      go_wp2
      go_roundw
      case rel => exact ⟨k + 1, _, by omega, by go_num, rfl⟩
      case measure => simp [intOf]; omega
    · go_wp2
      go_ret
      exact ⟨rfl, m, rfl⟩

theorem eqIntS_wideB (A B : Option Addr) (ca cb : Nat) (zs : List Int) (w : World) (hn : zs.length ≤ 2097152) (ha : IsInts w A zs) (hb : IsInts w B zs) :
    Calls Try.prog 26 #[.slice A zs.length ca, .slice B zs.length cb] w fun e w' => e = .returned (.bool true) ∧ Below w.heap.size w w' :=
  (eqIntS_wide A B ca cb zs w hn ha hb).mono fun e w' ⟨h, n, hw⟩ => ⟨h, by rw [hw]; exact below_drewN (Below.refl _ _) n⟩

end Go.Proofs.Ytcaamhoakhgnhaa
