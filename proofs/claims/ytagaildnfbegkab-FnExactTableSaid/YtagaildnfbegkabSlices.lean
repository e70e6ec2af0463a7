/-
  What laws.toIntS and laws.eqIntS compute: a copy of a slice of numbers in new memory; whether two slices hold the same numbers.
-/
import Derived.Test.YtagaildnfbegkabLeast
import Derived.Deep.OwnRows
import Derived.Deep.QuietTactic
import Derived.BigQuiet
import Derived.Deep.RegionHeld
namespace Go.Proofs.Ytagaildnfbegkab
open Go.RowKit Go.Deep

theorem Try.infoInt : (Try.prog.info? 3).map (fun i => (i.zero, i.size, i.bytes)) = some (some (.int .i64 0), 1, 8) := by kernel_rfl

def CopyRel (w wr : World) (zs : List Int) (k : Nat) : Prop :=
  wr.rowIs w.heap.size 3 zs.length (fun j => .int .i64 (if j < k then zg zs j else 0)) ∧ Below w.heap.size w wr

theorem copyRel_start (w : World) (zs : List Int) : CopyRel w (w.alloc (.cells (madeCells #[.int .i64 0] zs.length) 3)) zs 0 :=
  ⟨(World.rowIs_made w _ _ _).congr fun i _ => by simp, (Below.refl _ _).alloc (Nat.le_refl _) _⟩

theorem copyRel_step {w wr : World} {zs : List Int} {k : Nat} (h : CopyRel w wr zs k) : CopyRel w (wr.setCell ⟨w.heap.size, k, none⟩ (.int .i64 (zg zs k))) zs (k + 1) :=
  ⟨(h.1.set k _).congr fun j _ => by
    by_cases e : j = k
    · subst e; simp
    · rw [if_neg e]; by_cases h' : j < k
      · rw [if_pos h', if_pos (by omega)]
      · rw [if_neg h', if_neg (by omega)], h.2.setCell (Nat.le_refl _) _⟩

theorem copyRel_end {w wr : World} {zs : List Int} {k : Nat} (h : CopyRel w wr zs k) (hk : zs.length ≤ k) : wr.rowIs w.heap.size 3 zs.length (fun j => .int .i64 (zg zs j)) ∧ Below w.heap.size w wr :=
  ⟨h.1.congr fun j hj => by rw [if_pos (by omega)], h.2⟩

set_option maxHeartbeats 400000 in
theorem toIntS_any (A : Option Addr) (cap : Nat) (zs : List Int) (w : World) (hn : zs.length ≤ 1048576) (h : IsInts w A zs) :
    Calls Try.prog 22 #[.slice A zs.length cap] w fun e w' => e = .returned (.slice (some ⟨w.heap.size, 0, none⟩) zs.length zs.length) ∧
      w'.rowIs w.heap.size 3 zs.length (fun j => .int .i64 (zg zs j)) ∧ Below w.heap.size w w' := by
  have hmk := run_make_row' (P := Try.prog) 22 3 (.int .i64 0) 8 Try.underlying22 Try.infoInt rfl .i64 .i64 zs.length (by omega) (by omega)
  go_enter Try.func22, Try.ntmps22
  go_wp2
  go_loopw [4] (fun i wr => ∃ k : Nat, k ≤ zs.length ∧ i = .int .i64 k ∧ CopyRel w wr zs k) (fun i _ => zs.length - (intOf i).toNat)
  case atStart => exact ⟨0, by omega, rfl, copyRel_start w zs⟩
  case round =>
    obtain ⟨k, hk, rfl, hr⟩ := hrel
    by_cases hlt : k < zs.length
    · obtain ⟨b, off, rfl, hb, hck⟩ := h.at_ hlt
      have hc' := (hr.2.cell (p := ⟨b, off + k, none⟩) hb).trans hck
      have hcn := hr.1.cell hlt
      have hfz := hr.1.frozen k
      clear hmk hck
      go_wp2
      go_roundw
      case rel => exact ⟨k + 1, by omega, by go_num, copyRel_step hr⟩
      case measure => simp [intOf]; omega
    · have HE := copyRel_end hr (by omega)
      go_wp2
      go_ret
      exact ⟨rfl, HE⟩

set_option maxHeartbeats 400000 in
theorem eqIntS_same (A B : Option Addr) (ca cb : Nat) (zs : List Int) (w : World) (hn : zs.length ≤ 1048576) (ha : IsInts w A zs) (hb : IsInts w B zs) :
    Calls Try.prog 15 #[.slice A zs.length ca, .slice B zs.length cb] w fun e w' => e = .returned (.bool true) ∧ ∃ n, w' = w.drewN n := by
  go_enter Try.func15, Try.ntmps15
  go_wp2
  go_loopw [5] (fun i wr => ∃ k m : Nat, k ≤ zs.length ∧ i = .int .i64 k ∧ wr = w.drewN m) (fun i _ => zs.length - (intOf i).toNat)
  case atStart => exact ⟨0, 0, by omega, rfl, rfl⟩
  case round =>
    obtain ⟨k, m, hk, rfl, rfl⟩ := hrel
    by_cases hlt : k < zs.length
    · obtain ⟨b1, o1, rfl, hb1, hc1⟩ := ha.at_ hlt
      obtain ⟨b2, o2, rfl, hb2, hc2⟩ := hb.at_ hlt
      go_wp2
      go_quiet (fail)
      go_wp2
      go_roundw
      case rel => exact ⟨k + 1, _, by omega, by go_num, rfl⟩
      case measure => simp [intOf]; omega
    · go_wp2
      go_ret
      exact ⟨rfl, m, rfl⟩

end Go.Proofs.Ytagaildnfbegkab
