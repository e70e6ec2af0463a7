/-
  Words for networks: slices of points and of arcs that read as lists; the zero values behind their ends.
-/
import Derived.Test.YtagaildnfbegkaaPoints
import Derived.Lib.SmallJoins
namespace Go.Proofs.Ytagaildnfbegkaa
open Go.RowKit Go.Deep

/-- The i-th point, the i-th arc (zeros behind the end). -/
def ptg (ps : List (Int × Int)) (i : Nat) : Int × Int := ps.getD i (0, 0)
def arg (rs : List (Int × Int × Int)) (i : Nat) : Int × Int × Int := rs.getD i (0, 0, 0)

/-- A slice value at A reads as the points ps (the arcs rs), in memory that was there. -/
def IsPts (w : World) (A : Option Addr) (ps : List (Int × Int)) : Prop :=
  0 < ps.length → ∃ b off, A = some ⟨b, off, none⟩ ∧ b < w.heap.size ∧ ∀ i, i < ps.length → w.cell? ⟨b, off + i * 2, none⟩ = some (.int .i64 (ptg ps i).1) ∧ w.cell? ⟨b, off + i * 2 + 1, none⟩ = some (.int .i64 (ptg ps i).2)
def IsArcs (w : World) (A : Option Addr) (rs : List (Int × Int × Int)) : Prop :=
  0 < rs.length → ∃ b off, A = some ⟨b, off, none⟩ ∧ b < w.heap.size ∧ ∀ i, i < rs.length → w.cell? ⟨b, off + i * 3, none⟩ = some (.int .i64 (arg rs i).1) ∧ w.cell? ⟨b, off + i * 3 + 1, none⟩ = some (.int .i64 (arg rs i).2.1) ∧ w.cell? ⟨b, off + i * 3 + 2, none⟩ = some (.int .i64 (arg rs i).2.2)

theorem IsPts.below {w w' : World} {A : Option Addr} {ps : List (Int × Int)} (h : IsPts w A ps) (hb : Below w.heap.size w w') : IsPts w' A ps := by
  intro hp
  obtain ⟨b, off, h1, h2, h3⟩ := h hp
  exact ⟨b, off, h1, Nat.lt_of_lt_of_le h2 hb.size, fun i hi => ⟨(hb.cell (p := ⟨b, off + i * 2, none⟩) h2).trans (h3 i hi).1, (hb.cell (p := ⟨b, off + i * 2 + 1, none⟩) h2).trans (h3 i hi).2⟩⟩
theorem IsArcs.below {w w' : World} {A : Option Addr} {rs : List (Int × Int × Int)} (h : IsArcs w A rs) (hb : Below w.heap.size w w') : IsArcs w' A rs := by
  intro hp
  obtain ⟨b, off, h1, h2, h3⟩ := h hp
  exact ⟨b, off, h1, Nat.lt_of_lt_of_le h2 hb.size, fun i hi => ⟨(hb.cell (p := ⟨b, off + i * 3, none⟩) h2).trans (h3 i hi).1, (hb.cell (p := ⟨b, off + i * 3 + 1, none⟩) h2).trans (h3 i hi).2.1, (hb.cell (p := ⟨b, off + i * 3 + 2, none⟩) h2).trans (h3 i hi).2.2⟩⟩

theorem IsPts.at_ {w : World} {A : Option Addr} {ps : List (Int × Int)} (h : IsPts w A ps) {k : Nat} (hk : k < ps.length) :
    ∃ b off, A = some ⟨b, off, none⟩ ∧ b < w.heap.size ∧ w.cell? ⟨b, off + k * 2, none⟩ = some (.int .i64 (ptg ps k).1) ∧ w.cell? ⟨b, off + k * 2 + 1, none⟩ = some (.int .i64 (ptg ps k).2) := by
  obtain ⟨b, off, h1, h2, h3⟩ := h (by omega)
  exact ⟨b, off, h1, h2, h3 k hk⟩
theorem IsArcs.at_ {w : World} {A : Option Addr} {rs : List (Int × Int × Int)} (h : IsArcs w A rs) {k : Nat} (hk : k < rs.length) :
    ∃ b off, A = some ⟨b, off, none⟩ ∧ b < w.heap.size ∧ w.cell? ⟨b, off + k * 3, none⟩ = some (.int .i64 (arg rs k).1) ∧ w.cell? ⟨b, off + k * 3 + 1, none⟩ = some (.int .i64 (arg rs k).2.1) ∧ w.cell? ⟨b, off + k * 3 + 2, none⟩ = some (.int .i64 (arg rs k).2.2) := by
  obtain ⟨b, off, h1, h2, h3⟩ := h (by omega)
  exact ⟨b, off, h1, h2, h3 k hk⟩

theorem toPt_any (x y : Int) (w : World) : Calls Try.prog 77 #[.agg #[.int .i64 x, .int .i64 y]] w fun e w' => e = .returned (.agg #[.int .i64 x, .int .i64 y]) ∧ Below w.heap.size w w' := by
  go_enter Try.func77, Try.ntmps77
  go_wp2
  exact bodyPost_ret (v := .agg #[.int .i64 x, .int .i64 y]) (by simp [results, Try.results77, go_sem]) rfl ⟨rfl, below3 _ _ _ _⟩
theorem toArc_any (x y z : Int) (w : World) : Calls Try.prog 78 #[.agg #[.int .i64 x, .int .i64 y, .int .i64 z]] w fun e w' => e = .returned (.agg #[.int .i64 x, .int .i64 y, .int .i64 z]) ∧ Below w.heap.size w w' := by
  go_enter Try.func78, Try.ntmps78
  go_wp2
  exact bodyPost_ret (v := .agg #[.int .i64 x, .int .i64 y, .int .i64 z]) (by simp [results, Try.results78, go_sem]) rfl ⟨rfl, below3 _ _ _ _⟩

/-- The j-th number of the points, of the arcs, field by field. -/
def flatP (ps : List (Int × Int)) (j : Nat) : Int := if j % 2 = 0 then (ptg ps (j / 2)).1 else (ptg ps (j / 2)).2
def flatA (rs : List (Int × Int × Int)) (j : Nat) : Int := if j % 3 = 0 then (arg rs (j / 3)).1 else if j % 3 = 1 then (arg rs (j / 3)).2.1 else (arg rs (j / 3)).2.2

theorem flatP_0 (ps : List (Int × Int)) (i : Nat) : flatP ps (i * 2) = (ptg ps i).1 := by unfold flatP; rw [if_pos (by omega), Nat.mul_div_cancel _ (by omega)]
theorem flatP_1 (ps : List (Int × Int)) (i : Nat) : flatP ps (i * 2 + 1) = (ptg ps i).2 := by unfold flatP; rw [if_neg (by omega), show (i * 2 + 1) / 2 = i by omega]
theorem flatA_0 (rs : List (Int × Int × Int)) (i : Nat) : flatA rs (i * 3) = (arg rs i).1 := by unfold flatA; rw [if_pos (by omega), Nat.mul_div_cancel _ (by omega)]
theorem flatA_1 (rs : List (Int × Int × Int)) (i : Nat) : flatA rs (i * 3 + 1) = (arg rs i).2.1 := by unfold flatA; rw [if_neg (by omega), if_pos (by omega), show (i * 3 + 1) / 3 = i by omega]
theorem flatA_2 (rs : List (Int × Int × Int)) (i : Nat) : flatA rs (i * 3 + 2) = (arg rs i).2.2 := by unfold flatA; rw [if_neg (by omega), if_neg (by omega), show (i * 3 + 2) / 3 = i by omega]

/-- Block b is a row of its own that holds the points ps (the arcs rs). -/
def PtsRow (w : World) (b : Nat) (ps : List (Int × Int)) : Prop := w.rowIs b 120 (ps.length * 2) (fun j => .int .i64 (flatP ps j))
def ArcsRow (w : World) (b : Nat) (rs : List (Int × Int × Int)) : Prop := w.rowIs b 82 (rs.length * 3) (fun j => .int .i64 (flatA rs j))

theorem PtsRow.is {w : World} {b : Nat} {ps : List (Int × Int)} (h : PtsRow w b ps) : IsPts w (some ⟨b, 0, none⟩) ps := fun _ =>
  ⟨b, 0, rfl, World.rowIs.lt h, fun i hi => ⟨by rw [Nat.zero_add, World.rowIs.cell h (by omega), flatP_0], by rw [Nat.zero_add, World.rowIs.cell h (by omega), flatP_1]⟩⟩
theorem ArcsRow.is {w : World} {b : Nat} {rs : List (Int × Int × Int)} (h : ArcsRow w b rs) : IsArcs w (some ⟨b, 0, none⟩) rs := fun _ =>
  ⟨b, 0, rfl, World.rowIs.lt h, fun i hi => ⟨by rw [Nat.zero_add, World.rowIs.cell h (by omega), flatA_0], by rw [Nat.zero_add, World.rowIs.cell h (by omega), flatA_1], by rw [Nat.zero_add, World.rowIs.cell h (by omega), flatA_2]⟩⟩
theorem rowIs_below {w w' : World} {b : Nat} {t : TypeId} {n : Nat} {f : Nat → Value} (h : w.rowIs b t n f) (hb : Below w.heap.size w w') : w'.rowIs b t n f := World.rowIs.of_block h (hb.block b (World.rowIs.lt h))

/-- What make lays for elements of k numbers. -/
theorem made_ints (w : World) (k n : Nat) (hk : 0 < k) (t : TypeId) : (w.alloc (.cells (madeCells (Array.replicate k (.int .i64 0)) (n * k)) t)).rowIs w.heap.size t (n * k) (fun _ => .int .i64 0) := by
  have h := World.rowIs_alloc w (madeCells (Array.replicate k (.int .i64 0)) (n * k)) t (fun _ => .int .i64 0) (fun i hi => by
    have hi' : i < n * k := by simpa [size_madeCells] using hi
    have : i % k < k := Nat.mod_lt _ hk
    simp [madeCells, hi', this])
  rwa [size_madeCells] at h

theorem Try.infoPt : (Try.prog.info? 120).map (fun i => (i.zero, i.size, i.bytes)) = some (some (.agg #[.int .i64 0, .int .i64 0]), 2, 16) := by kernel_rfl
theorem Try.infoArc : (Try.prog.info? 82).map (fun i => (i.zero, i.size, i.bytes)) = some (some (.agg #[.int .i64 0, .int .i64 0, .int .i64 0]), 3, 24) := by kernel_rfl

theorem run_make_pts (n : Nat) (h : n ≤ 1048576) (w : World) :
    (Instr.makeSlice 46 (.int .i64 (n : Int)) (.int .i64 (n : Int))).run Try.prog w = .ok (.slice (some ⟨w.heap.size, 0, none⟩) n n) (w.alloc (.cells (madeCells (Array.replicate 2 (.int .i64 0)) (n * 2)) 120)) := by
  obtain ⟨i, hi, hzz⟩ := Option.map_eq_some_iff.1 Try.infoPt
  simp only [Prod.mk.injEq] at hzz
  obtain ⟨hz, hs, hb⟩ := hzz
  have hr := run_make (P := Try.prog) w 46 120 i _ Try.underlying46 hi hz .i64 .i64 n n (by omega) (Int.le_refl _) (by rw [hb]; omega) (by omega)
  simp only [Int.toNat_natCast, hs] at hr
  exact hr
theorem run_make_arcs (n : Nat) (h : n ≤ 1048576) (w : World) :
    (Instr.makeSlice 47 (.int .i64 (n : Int)) (.int .i64 (n : Int))).run Try.prog w = .ok (.slice (some ⟨w.heap.size, 0, none⟩) n n) (w.alloc (.cells (madeCells (Array.replicate 3 (.int .i64 0)) (n * 3)) 82)) := by
  obtain ⟨i, hi, hzz⟩ := Option.map_eq_some_iff.1 Try.infoArc
  simp only [Prod.mk.injEq] at hzz
  obtain ⟨hz, hs, hb⟩ := hzz
  have hr := run_make (P := Try.prog) w 47 82 i _ Try.underlying47 hi hz .i64 .i64 n n (by omega) (Int.le_refl _) (by rw [hb]; omega) (by omega)
  simp only [Int.toNat_natCast, hs] at hr
  exact hr

/-- Copied so far: the first k elements. -/
def CopyP (w wr : World) (ps : List (Int × Int)) (k : Nat) : Prop :=
  wr.rowIs w.heap.size 120 (ps.length * 2) (fun j => .int .i64 (if j < k * 2 then flatP ps j else 0)) ∧ Below w.heap.size w wr
def CopyA (w wr : World) (rs : List (Int × Int × Int)) (k : Nat) : Prop :=
  wr.rowIs w.heap.size 82 (rs.length * 3) (fun j => .int .i64 (if j < k * 3 then flatA rs j else 0)) ∧ Below w.heap.size w wr

theorem copyP_start (w : World) (ps : List (Int × Int)) : CopyP w (w.alloc (.cells (madeCells (Array.replicate 2 (.int .i64 0)) (ps.length * 2)) 120)) ps 0 :=
  ⟨(made_ints w 2 ps.length (by omega) _).congr fun i _ => by rw [if_neg (by omega)], (Below.refl _ _).alloc (Nat.le_refl _) _⟩
theorem copyA_start (w : World) (rs : List (Int × Int × Int)) : CopyA w (w.alloc (.cells (madeCells (Array.replicate 3 (.int .i64 0)) (rs.length * 3)) 82)) rs 0 :=
  ⟨(made_ints w 3 rs.length (by omega) _).congr fun i _ => by rw [if_neg (by omega)], (Below.refl _ _).alloc (Nat.le_refl _) _⟩

theorem copyP_call {w wr w' : World} {ps : List (Int × Int)} {k : Nat} (h : CopyP w wr ps k) (hb : Below wr.heap.size wr w') : CopyP w w' ps k := ⟨rowIs_below h.1 hb, h.2.trans (hb.mono h.2.size)⟩
theorem copyA_call {w wr w' : World} {rs : List (Int × Int × Int)} {k : Nat} (h : CopyA w wr rs k) (hb : Below wr.heap.size wr w') : CopyA w w' rs k := ⟨rowIs_below h.1 hb, h.2.trans (hb.mono h.2.size)⟩

theorem copyP_step {w wr : World} {ps : List (Int × Int)} {k : Nat} (h : CopyP w wr ps k) :
    CopyP w ((wr.setCell ⟨w.heap.size, k * 2, none⟩ (.int .i64 (ptg ps k).1)).setCell ⟨w.heap.size, k * 2 + 1, none⟩ (.int .i64 (ptg ps k).2)) ps (k + 1) := by
  refine ⟨((World.rowIs.set h.1 (k * 2) _).set (k * 2 + 1) _).congr fun j _ => ?_, (h.2.setCell (Nat.le_refl _) _).setCell (Nat.le_refl _) _⟩
  by_cases e1 : j = k * 2 + 1
  · subst e1; rw [if_pos rfl, if_pos (by omega), flatP_1]
  · rw [if_neg e1]
    by_cases e0 : j = k * 2
    · subst e0; rw [if_pos rfl, if_pos (by omega), flatP_0]
    · rw [if_neg e0]
      by_cases hj : j < k * 2
      · rw [if_pos hj, if_pos (by omega)]
      · rw [if_neg hj, if_neg (by omega)]
theorem copyA_step {w wr : World} {rs : List (Int × Int × Int)} {k : Nat} (h : CopyA w wr rs k) :
    CopyA w (((wr.setCell ⟨w.heap.size, k * 3, none⟩ (.int .i64 (arg rs k).1)).setCell ⟨w.heap.size, k * 3 + 1, none⟩ (.int .i64 (arg rs k).2.1)).setCell ⟨w.heap.size, k * 3 + 2, none⟩ (.int .i64 (arg rs k).2.2)) rs (k + 1) := by
  refine ⟨(((World.rowIs.set h.1 (k * 3) _).set (k * 3 + 1) _).set (k * 3 + 2) _).congr fun j _ => ?_, ((h.2.setCell (Nat.le_refl _) _).setCell (Nat.le_refl _) _).setCell (Nat.le_refl _) _⟩
  by_cases e2 : j = k * 3 + 2
  · subst e2; rw [if_pos rfl, if_pos (by omega), flatA_2]
  · rw [if_neg e2]
    by_cases e1 : j = k * 3 + 1
    · subst e1; rw [if_pos rfl, if_pos (by omega), flatA_1]
    · rw [if_neg e1]
      by_cases e0 : j = k * 3
      · subst e0; rw [if_pos rfl, if_pos (by omega), flatA_0]
      · rw [if_neg e0]
        by_cases hj : j < k * 3
        · rw [if_pos hj, if_pos (by omega)]
        · rw [if_neg hj, if_neg (by omega)]
theorem copyP_end {w wr : World} {ps : List (Int × Int)} {k : Nat} (h : CopyP w wr ps k) (hk : ps.length ≤ k) : PtsRow wr w.heap.size ps ∧ Below w.heap.size w wr :=
  ⟨World.rowIs.congr h.1 fun j hj => by rw [if_pos (by omega)], h.2⟩
theorem copyA_end {w wr : World} {rs : List (Int × Int × Int)} {k : Nat} (h : CopyA w wr rs k) (hk : rs.length ≤ k) : ArcsRow wr w.heap.size rs ∧ Below w.heap.size w wr :=
  ⟨World.rowIs.congr h.1 fun j hj => by rw [if_pos (by omega)], h.2⟩

/-- Cells of the copy at the place to be written: there, and not frozen. -/
theorem copyP_here {w wr : World} {ps : List (Int × Int)} {k : Nat} (h : CopyP w wr ps k) (hk : k < ps.length) :
    wr.cell? ⟨w.heap.size, k * 2, none⟩ = some (.int .i64 0) ∧ wr.cell? ⟨w.heap.size, k * 2 + 1, none⟩ = some (.int .i64 0) ∧ wr.frozen? ⟨w.heap.size, k * 2, none⟩ = false ∧ wr.frozen? ⟨w.heap.size, k * 2 + 1, none⟩ = false :=
  ⟨by rw [World.rowIs.cell h.1 (by omega), if_neg (by omega)], by rw [World.rowIs.cell h.1 (by omega), if_neg (by omega)], World.rowIs.frozen h.1 _, World.rowIs.frozen h.1 _⟩
theorem copyA_here {w wr : World} {rs : List (Int × Int × Int)} {k : Nat} (h : CopyA w wr rs k) (hk : k < rs.length) :
    (wr.cell? ⟨w.heap.size, k * 3, none⟩ = some (.int .i64 0) ∧ wr.cell? ⟨w.heap.size, k * 3 + 1, none⟩ = some (.int .i64 0) ∧ wr.cell? ⟨w.heap.size, k * 3 + 2, none⟩ = some (.int .i64 0)) ∧
    wr.frozen? ⟨w.heap.size, k * 3, none⟩ = false ∧ wr.frozen? ⟨w.heap.size, k * 3 + 1, none⟩ = false ∧ wr.frozen? ⟨w.heap.size, k * 3 + 2, none⟩ = false :=
  ⟨⟨by rw [World.rowIs.cell h.1 (by omega), if_neg (by omega)], by rw [World.rowIs.cell h.1 (by omega), if_neg (by omega)], by rw [World.rowIs.cell h.1 (by omega), if_neg (by omega)]⟩, World.rowIs.frozen h.1 _, World.rowIs.frozen h.1 _, World.rowIs.frozen h.1 _⟩

set_option maxHeartbeats 400000 in
theorem toPtS_any (A : Option Addr) (cap : Nat) (ps : List (Int × Int)) (w : World) (hn : ps.length ≤ 1048576) (h : IsPts w A ps) :
    Calls Try.prog 47 #[.slice A ps.length cap] w fun e w' => e = .returned (.slice (some ⟨w.heap.size, 0, none⟩) ps.length ps.length) ∧ PtsRow w' w.heap.size ps ∧ Below w.heap.size w w' := by
  have hmk := run_make_pts ps.length hn
  go_enter Try.func47, Try.ntmps47
  go_wp2
  go_loopw [4] (fun i wr => ∃ k : Nat, k ≤ ps.length ∧ i = .int .i64 k ∧ CopyP w wr ps k) (fun i _ => ps.length - (intOf i).toNat)
  case atStart => exact ⟨0, by omega, rfl, copyP_start w ps⟩
  case round =>
    obtain ⟨k, hk, rfl, hr⟩ := hrel
    by_cases hlt : k < ps.length
    · obtain ⟨b, off, rfl, hb, hck⟩ := (h.below hr.2).at_ hlt
      obtain ⟨c0, c1⟩ := hck
      clear hmk
      go_wp2_with fail
      refine (toPt_any _ _ _).mono ?_; rintro e w1 ⟨rfl, b1⟩
      replace hr := copyP_call hr b1
      clear b1 c0 c1
      obtain ⟨d0, d1, d2, d3⟩ := copyP_here hr hlt
      go_wp2
      go_roundw
      case rel => exact ⟨k + 1, by omega, by go_num, copyP_step hr⟩
      case measure => simp [intOf]; omega
    · have HE := copyP_end hr (by omega)
      go_wp2
      go_ret
      exact ⟨rfl, HE⟩

end Go.Proofs.Ytagaildnfbegkaa
