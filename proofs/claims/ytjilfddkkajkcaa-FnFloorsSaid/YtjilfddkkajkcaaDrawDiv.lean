/-
  What spec.DrawFloorDiv, spec.DrawSat and spec.DrawLeast answer: numbers of 64 bits; nothing that was there turns.
-/
import Derived.Test.YtjilfddkkajkcaaDrawRoot
import Derived.Test.YtjilfddkkajkcaaSlices
import Derived.Deep.RegionWith
namespace Go.Proofs.Ytjilfddkkajkcaa
open Go.RowKit Go.Deep

/-- Two numbers of 64 bits; nothing that was there has turned. -/
def TwoInts (w : World) (e : Ending) (w' : World) : Prop := ∃ u v : Int, e = .returned (.tuple #[.int .i64 u, .int .i64 v]) ∧ In64 u ∧ In64 v ∧ Below w.heap.size w w'

theorem pick_at (w : World) (c : Nat) (A : Option Addr) (len cap m : Nat) (n : Int) (h : CurAt w c A len cap m) (hm : m ≤ 1000000000) (hn : n ≤ 1000000000) :
    Calls Try.prog 26 #[.pointer (some ⟨c, 0, none⟩), .int .i64 n] w (Picked w c A len cap m n) := pick_any w c A len cap m n hm h hn

theorem wrapK_bd (x : Int) : In64 (IntKind.i64.wrap x) := by
  have : IntKind.i64.wrap x = wrap64 x := IntWalk.i64_left x
  rw [this]; exact wrap_bd x

theorem zg_in {zs : List Int} (h : ∀ z ∈ zs, In64 z) (i : Nat) : In64 (zg zs i) := by
  unfold zg
  by_cases hi : i < zs.length
  · exact h _ (getD_mem i hi)
  · have : zs.getD i 0 = 0 := by rw [List.getD_eq_getElem?_getD, List.getElem?_eq_none (by omega)]; rfl
    rw [this]; exact ⟨by omega, by omega⟩

/-- A cell of a row of numbers that was laid just now; and behind a later pick. -/
theorem laid_cell (w : World) (zs : List Int) (t : TypeId) {i : Nat} (hi : i < zs.length) : (w.alloc (.cells (zs.map (Value.int .i64)).toArray t)).cell? ⟨w.heap.size, i, none⟩ = some (.int .i64 (zg zs i)) := by
  rw [cell_of_block (heap_alloc_new w _)]; simp [hi, zg]
theorem laid_cell_later {w w' : World} {c : Nat} {zs : List Int} {t : TypeId} (hc : c < w.heap.size) (hg : (w.alloc (.cells (zs.map (Value.int .i64)).toArray t)).grownBy w' (some c)) {i : Nat} (hi : i < zs.length) :
    w'.cell? ⟨w.heap.size, i, none⟩ = some (.int .i64 (zg zs i)) := made_cell hc hg hi

theorem idx4 (x y z t : Int) (k : Nat) (h : k < 4) : ([Value.int .i64 x, .int .i64 y, .int .i64 z, .int .i64 t] : List Value)[k]'h = .int .i64 (zg [x, y, z, t] k) := by
  match k, h with
  | 0, _ | 1, _ | 2, _ | 3, _ => rfl
theorem idx3 (x y z : Int) (k : Nat) (h : k < 3) : ([Value.int .i64 x, .int .i64 y, .int .i64 z] : List Value)[k]'h = .int .i64 (zg [x, y, z] k) := by
  match k, h with
  | 0, _ | 1, _ | 2, _ => rfl

theorem in64_lit {n : Int} (h0 : -9223372036854775808 ≤ n) (h1 : n ≤ 9223372036854775807) : In64 n := ⟨h0, h1⟩

set_option maxHeartbeats 1000000 in
theorem drawFloorDiv_any (w : World) (A : Option Addr) (len cap : Nat) (hc : CodeIn w A len) (hl : len ≤ 1048576) : Calls Try.prog 13 #[.slice A len cap] w (TwoInts w) := by
  go_enter Try.func13, Try.ntmps13
  go_wp2_with fail
  refine (open_any w A len cap hc hl).mono ?_
  rintro e w1 ⟨rfl, k1, b1, -⟩
  go_wp2_with fail
  refine (raw_any w1 w.heap.size A len cap 0 (by omega) k1).mono ?_
  rintro e w2 ⟨r, rfl, hr0, hr1, k2, g2⟩
  have b2 := below_only b1 g2 (Nat.le_refl _)
  go_wp2_with fail
  go_region_with (first
    | ((go_at_call 27; refine (raw_any _ w.heap.size A len cap (0 + 2) (by omega) (by exact k2)).mono ?_; rintro e w3 ⟨r3, rfl, hr30, hr31, k3, g3⟩; have b3 := below_only b2.drew g3 (Nat.le_refl _); clear g3))
    | ((go_at_call 26; with_reducible refine (pick_at _ w.heap.size A len cap _ 9 (by assumption) (by omega) (by omega)).mono ?_); rintro e w4 ⟨v, rfl, hv0, hv1, -, k4, g4, -⟩; have hv2 := hv1 (by omega); clear hv1; have b4 := below_only (by assumption) g4 (Nat.le_refl _); clear g4)
    | ((go_at_call 26; with_reducible refine (pick_at _ w.heap.size A len cap _ 4 (by assumption) (by omega) (by omega)).mono ?_); rintro e w5 ⟨i, rfl, hi0, hi1, -, k5, g5, -⟩; have hi2 := hi1 (by omega); clear hi1; have b5 := below_only (by assumption) g5 (Nat.le_refl _); clear g5)
    | ((go_at_call 26; with_reducible refine (pick_at _ w.heap.size A len cap _ 4 (CurAt.alloc (by assumption) _) (by omega) (by omega)).mono ?_); rintro e w5 ⟨i, rfl, hi0, hi1, -, k5, g5, -⟩; have hi2 := hi1 (by omega); clear hi1; have hu := laid_cell_later (zs := [_, _, _, _]) (CurAt.lt (by assumption)) g5 (i := i.toNat) (by simp; omega); have b5 := below_only (Below.alloc (by assumption) (Below.size (by assumption)) _) g5 (Nat.le_refl _); clear g5))
  all_goals
    go_wp2
    go_ret2
    first | refine ⟨r, _, rfl, ⟨hr0, hr1⟩, zg_in ?_ i.toNat, ?_⟩ | refine ⟨r, _, congrArg (fun x => Ending.returned (.tuple #[.int .i64 r, x])) (idx4 _ _ _ _ i.toNat (by omega)), ⟨hr0, hr1⟩, zg_in ?_ _, ?_⟩
    · intro z hz
      simp only [List.mem_cons, List.not_mem_nil, or_false] at hz
      rcases hz with rfl | rfl | rfl | rfl <;> first | exact ⟨hr30, hr31⟩ | exact wrapK_bd _ | exact ⟨by omega, by omega⟩
    · first | exact b5 | exact b5.alloc b5.size _

set_option maxHeartbeats 1000000 in
theorem drawSat_any (w : World) (A : Option Addr) (len cap : Nat) (hc : CodeIn w A len) (hl : len ≤ 1048576) : Calls Try.prog 16 #[.slice A len cap] w (TwoInts w) := by
  go_enter Try.func16, Try.ntmps16
  go_wp2_with fail
  refine (open_any w A len cap hc hl).mono ?_
  rintro e w1 ⟨rfl, k1, b1, -⟩
  go_wp2_with fail
  refine (raw_any w1 w.heap.size A len cap 0 (by omega) k1).mono ?_
  rintro e w2 ⟨q, rfl, hq0, hq1, k2, g2⟩
  have b2 := below_only b1 g2 (Nat.le_refl _)
  go_wp2_with fail
  refine (pick_any w2 w.heap.size A len cap _ 256 (by omega) k2 (by omega)).mono ?_
  rintro e w3 ⟨s, rfl, hs0, hs1, -, k3, g3, -⟩
  have hs2 := hs1 (by omega)
  have b3 := below_only b2 g3 (Nat.le_refl _)
  clear hs1 g3 g2
  go_wp2_with fail
  refine (pick_any _ w.heap.size A len cap _ 3 (by omega) (k3.alloc _) (by omega)).mono ?_
  rintro e w4 ⟨j, rfl, hj0, hj1, -, k4, g4, -⟩
  have hj2 := hj1 (by omega)
  have hu4 := laid_cell_later (zs := [q, 1000000000000, s]) k3.lt g4 (i := j.toNat) (by simp; omega)
  have b4 := below_only (b3.alloc b3.size _) g4 (Nat.le_refl _)
  clear hj1 g4
  have hr : In64 (zg [q, 1000000000000, s] j.toNat) := zg_in (by
    intro z hz
    simp only [List.mem_cons, List.not_mem_nil, or_false] at hz
    rcases hz with rfl | rfl | rfl <;> exact ⟨by omega, by omega⟩) _
  obtain ⟨r, Hr⟩ : ∃ r, r = zg [q, 1000000000000, s] j.toNat := ⟨_, rfl⟩
  rw [← Hr] at hr hu4
  clear Hr
  go_wp2_with fail
  go_region_with (first
    | ((go_at_call 27; refine (raw_any _ w.heap.size A len cap (0 + 2 + 1 + 1) (by omega) (by exact k4)).mono ?_; rintro e w5 ⟨r3, rfl, hr30, hr31, k5, g5⟩; have b5 := below_only b4.drew g5 (Nat.le_refl _); clear g5))
    | ((go_at_call 26; with_reducible refine (pick_at _ w.heap.size A len cap _ 256 (by assumption) (by omega) (by omega)).mono ?_); rintro e w6 ⟨v, rfl, hv0, hv1, -, k6, g6, -⟩; have hv2 := hv1 (by omega); clear hv1; have b6 := below_only (by assumption) g6 (Nat.le_refl _); clear g6)
    | ((go_at_call 26; with_reducible refine (pick_at _ w.heap.size A len cap _ 3 (by assumption) (by omega) (by omega)).mono ?_); rintro e w7 ⟨i, rfl, hi0, hi1, -, k7, g7, -⟩; have hi2 := hi1 (by omega); clear hi1; have b7 := below_only (by assumption) g7 (Nat.le_refl _); clear g7)
    | ((go_at_call 26; with_reducible refine (pick_at _ w.heap.size A len cap _ 3 (CurAt.alloc (by assumption) _) (by omega) (by omega)).mono ?_); rintro e w7 ⟨i, rfl, hi0, hi1, -, k7, g7, -⟩; have hi2 := hi1 (by omega); clear hi1; have hu := laid_cell_later (zs := [_, _, _]) (CurAt.lt (by assumption)) g7 (i := i.toNat) (by simp; omega); have b7 := below_only (Below.alloc (by assumption) (Below.size (by assumption)) _) g7 (Nat.le_refl _); clear g7))
  all_goals
    go_wp2
    go_ret2
    first | refine ⟨r, _, rfl, hr, zg_in ?_ i.toNat, ?_⟩ | refine ⟨r, _, congrArg (fun x => Ending.returned (.tuple #[.int .i64 r, x])) (idx3 _ _ _ i.toNat (by omega)), hr, zg_in ?_ _, ?_⟩
    · intro z hz
      simp only [List.mem_cons, List.not_mem_nil, or_false] at hz
      rcases hz with rfl | rfl | rfl <;> exact ⟨by omega, by omega⟩
    · first | exact b7 | exact b7.alloc b7.size _

end Go.Proofs.Ytjilfddkkajkcaa
