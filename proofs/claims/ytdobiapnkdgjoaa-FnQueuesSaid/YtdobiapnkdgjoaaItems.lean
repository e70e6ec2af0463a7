/-
  Slices of items: what the laws' own functions over them compute (as over points: two numbers each).
-/
import Derived.Test.YtdobiapnkdgjoaaMarks
namespace Go.Proofs.Ytdobiapnkdgjoaa
open Go.RowKit Go.Deep

theorem Try.infoItem : (Try.prog.info? 45).map (fun i => (i.zero, i.size, i.bytes)) = some (some (.agg #[.int .i64 0, .int .i64 0]), 2, 16) := by kernel_rfl

theorem run_make_its (n : Nat) (h : n ≤ 2097152) (w : World) :
    (Instr.makeSlice 43 (.int .i64 (n : Int)) (.int .i64 (n : Int))).run Try.prog w = .ok (.slice (some ⟨w.heap.size, 0, none⟩) n n) (w.alloc (.cells (madeCells (Array.replicate 2 (.int .i64 0)) (n * 2)) 45)) := by
  obtain ⟨i, hi, hzz⟩ := Option.map_eq_some_iff.1 Try.infoItem
  simp only [Prod.mk.injEq] at hzz
  obtain ⟨hz, hs, hb⟩ := hzz
  have hr := run_make (P := Try.prog) w 43 45 i _ Try.underlying43 hi hz .i64 .i64 n n (by omega) (Int.le_refl _) (by rw [hb]; omega) (by omega)
  simp only [Int.toNat_natCast, hs] at hr
  exact hr

theorem toItem_any (x y : Int) (w : World) : Calls Try.prog 45 #[.agg #[.int .i64 x, .int .i64 y]] w fun e w' => e = .returned (.agg #[.int .i64 x, .int .i64 y]) ∧ Below w.heap.size w w' := by
  go_enter Try.func45, Try.ntmps45
  go_wp2
  exact bodyPost_ret (v := .agg #[.int .i64 x, .int .i64 y]) (by simp [results, Try.results45, go_sem]) rfl ⟨rfl, below3 _ _ _ _⟩

/-- Block b is a row of its own that holds the points ps (the arcs rs). -/
def ItsRow (w : World) (b : Nat) (ps : List (Int × Int)) : Prop := w.rowIs b 45 (ps.length * 2) (fun j => .int .i64 (flatP ps j))

theorem ItsRow.is {w : World} {b : Nat} {ps : List (Int × Int)} (h : ItsRow w b ps) : IsPts w (some ⟨b, 0, none⟩) ps := fun _ =>
  ⟨b, 0, rfl, World.rowIs.lt h, fun i hi => ⟨by rw [Nat.zero_add, World.rowIs.cell h (by omega), flatP_0], by rw [Nat.zero_add, World.rowIs.cell h (by omega), flatP_1]⟩⟩

/-- Copied so far: the first k elements. -/
def CopyI (w wr : World) (ps : List (Int × Int)) (k : Nat) : Prop :=
  wr.rowIs w.heap.size 45 (ps.length * 2) (fun j => .int .i64 (if j < k * 2 then flatP ps j else 0)) ∧ Below w.heap.size w wr

theorem copyI_start (w : World) (ps : List (Int × Int)) : CopyI w (w.alloc (.cells (madeCells (Array.replicate 2 (.int .i64 0)) (ps.length * 2)) 45)) ps 0 :=
  ⟨(made_ints w 2 ps.length (by omega) _).congr fun i _ => by rw [if_neg (by omega)], (Below.refl _ _).alloc (Nat.le_refl _) _⟩

theorem copyI_call {w wr w' : World} {ps : List (Int × Int)} {k : Nat} (h : CopyI w wr ps k) (hb : Below wr.heap.size wr w') : CopyI w w' ps k := ⟨rowIs_below h.1 hb, h.2.trans (hb.mono h.2.size)⟩

theorem copyI_step {w wr : World} {ps : List (Int × Int)} {k : Nat} (h : CopyI w wr ps k) :
    CopyI w ((wr.setCell ⟨w.heap.size, k * 2, none⟩ (.int .i64 (ptg ps k).1)).setCell ⟨w.heap.size, k * 2 + 1, none⟩ (.int .i64 (ptg ps k).2)) ps (k + 1) := by
  refine ⟨((World.rowIs.set h.1 (k * 2) _).set (k * 2 + 1) _).congr fun j _ => ?_, (h.2.setCell (Nat.le_refl _) _).setCell (Nat.le_refl _) _⟩
  by_cases e1 : j = k * 2 + 1
  · subst e1; rw [if_pos rfl, if_pos (by omega), flatP_1]
  · rw [if_neg e1]
    by_cases e0 : j = k * 2
    · subst e0; rw [if_pos rfl, if_pos (by omega), flatP_0]
    · rw [if_neg e0]
      by_cases hj : j < k * 2
      · rw [if_pos hj, if_pos (by omega)]
      · rw [if_neg hj, if_neg (by omega)]

theorem copyI_end {w wr : World} {ps : List (Int × Int)} {k : Nat} (h : CopyI w wr ps k) (hk : ps.length ≤ k) : ItsRow wr w.heap.size ps ∧ Below w.heap.size w wr :=
  ⟨World.rowIs.congr h.1 fun j hj => by rw [if_pos (by omega)], h.2⟩

/-- Cells of the copy at the place to be written: there, and not frozen. -/
theorem copyI_here {w wr : World} {ps : List (Int × Int)} {k : Nat} (h : CopyI w wr ps k) (hk : k < ps.length) :
    wr.cell? ⟨w.heap.size, k * 2, none⟩ = some (.int .i64 0) ∧ wr.cell? ⟨w.heap.size, k * 2 + 1, none⟩ = some (.int .i64 0) ∧ wr.frozen? ⟨w.heap.size, k * 2, none⟩ = false ∧ wr.frozen? ⟨w.heap.size, k * 2 + 1, none⟩ = false :=
  ⟨by rw [World.rowIs.cell h.1 (by omega), if_neg (by omega)], by rw [World.rowIs.cell h.1 (by omega), if_neg (by omega)], World.rowIs.frozen h.1 _, World.rowIs.frozen h.1 _⟩

set_option maxHeartbeats 400000 in
theorem toItemS_any (A : Option Addr) (cap : Nat) (ps : List (Int × Int)) (w : World) (hn : ps.length ≤ 2097152) (h : IsPts w A ps) :
    Calls Try.prog 43 #[.slice A ps.length cap] w fun e w' => e = .returned (.slice (some ⟨w.heap.size, 0, none⟩) ps.length ps.length) ∧ ItsRow w' w.heap.size ps ∧ Below w.heap.size w w' := by
  have hmk := run_make_its ps.length hn
  go_enter Try.func43, Try.ntmps43
  go_wp2
  go_loopw [4] (fun i wr => ∃ k : Nat, k ≤ ps.length ∧ i = .int .i64 k ∧ CopyI w wr ps k) (fun i _ => ps.length - (intOf i).toNat)
  case atStart => exact ⟨0, by omega, rfl, copyI_start w ps⟩
  case round =>
    obtain ⟨k, hk, rfl, hr⟩ := hrel
    by_cases hlt : k < ps.length
    · obtain ⟨b, off, rfl, hb, hck⟩ := (h.below hr.2).at_ hlt
      obtain ⟨c0, c1⟩ := hck
      clear hmk
      go_wp2_with fail
      refine (toItem_any _ _ _).mono ?_; rintro e w1 ⟨rfl, b1⟩
      replace hr := copyI_call hr b1
      clear b1 c0 c1
      obtain ⟨d0, d1, d2, d3⟩ := copyI_here hr hlt
      go_wp2
      go_roundw
      case rel => exact ⟨k + 1, by omega, by go_num, copyI_step hr⟩
      case measure => simp [intOf]; omega
    · have HE := copyI_end hr (by omega)
      go_wp2
      go_ret
      exact ⟨rfl, HE⟩

theorem szItemS_any (A : Option Addr) (n cap : Nat) (l : Int) (hn : n ≤ maxLen) (h0 : 0 ≤ l) (h1 : l ≤ 1048576) (w : World) :
    Calls Try.prog 41 #[.slice A n cap, .int .i64 l] w fun e w' => e = .returned (.int .i64 (szn l n)) ∧ w = w' := by
  unfold maxLen at hn
  by_cases h : l < n
  · have H := Lib.hid (szn_no h)
    go_enter Try.func41, Try.ntmps41
    go_wp2
    go_ret
    exact ⟨retI H.out.symm, rfl⟩
  · have H := Lib.hid (szn_yes h)
    go_enter Try.func41, Try.ntmps41
    go_wp2
    go_ret
    exact ⟨retI H.out.symm, rfl⟩

theorem eqItem_same (x y : Int) (w : World) : Calls Try.prog 49 #[.agg #[.int .i64 x, .int .i64 y], .agg #[.int .i64 x, .int .i64 y]] w fun e w' => e = .returned (.bool true) ∧ Below w.heap.size w w' := by
  go_enter Try.func49, Try.ntmps49
  go_wp2
  go_ret
  exact ⟨rfl, below2 _ _ _⟩

set_option maxHeartbeats 1000000 in
theorem eqItemS_same (A B : Option Addr) (ca cb : Nat) (ps : List (Int × Int)) (w : World) (hn : ps.length ≤ 2097152) (ha : IsPts w A ps) (hb : IsPts w B ps) :
    Calls Try.prog 44 #[.slice A ps.length ca, .slice B ps.length cb] w fun e w' => e = .returned (.bool true) ∧ Below w.heap.size w w' := by
  go_enter Try.func44, Try.ntmps44
  go_wp2
  go_loopw [5] (fun i wr => ∃ k : Nat, k ≤ ps.length ∧ i = .int .i64 k ∧ Below w.heap.size w wr) (fun i _ => ps.length - (intOf i).toNat)
  case atStart => exact ⟨0, by omega, rfl, Below.refl _ _⟩
  case round =>
    obtain ⟨k, hk, rfl, hr⟩ := hrel
    by_cases hlt : k < ps.length
    · obtain ⟨b1, o1, rfl, -, c1, c2⟩ := (ha.below hr).at_ hlt
      obtain ⟨b2, o2, rfl, -, c3, c4⟩ := (hb.below hr).at_ hlt
      have T : EqP w b1 (o1 + k * 2) b2 (o2 + k * 2) (ptg ps k).1 (ptg ps k).2 _ := ⟨c1, c2, c3, c4, hr⟩
      clear c1 c2 c3 c4
      go_wp2_with fail
      go_region_held3 (fun w' => EqP w b1 (o1 + k * 2) b2 (o2 + k * 2) (ptg ps k).1 (ptg ps k).2 w') (first | exact EqP.drew T | (refine EqP.under (by assumption) ?_; assumption))
        (first | (go_at_call 49; refine (eqItem_same _ _ _).mono ?_; rintro e w1 ⟨rfl, b1⟩))
      rename_i hU
      obtain ⟨-, -, -, -, k1⟩ := hU
      go_wp2
      go_roundw
      case rel => exact ⟨k + 1, by omega, by go_num, k1⟩
      case measure => simp [intOf]; omega
    · go_wp2
      go_ret
      exact ⟨rfl, hr⟩

theorem ItsRow.own {w : World} {b : Nat} {ps : List (Int × Int)} (h : ItsRow w b ps) : OwnAt w b 45 0 (ps.length * 2) (flatP ps) := by
  obtain ⟨c, h1, h2, h3⟩ := h
  exact ⟨c, h1, by omega, fun i hi => by rw [Nat.zero_add]; exact h3 i hi⟩

set_option maxHeartbeats 1000000 in
theorem markItemS_any (w : World) (base : Nat) (A : Option Addr) (n cap : Nat) (f : Nat → Int) (k : Int) (hn : n ≤ 2097152) (hk : 0 ≤ k ∧ k ≤ 100000000) (h : OwnSl w base 45 A (n * 2) f) :
    Calls Try.prog 46 #[.slice A n cap, .int .i64 k] w (Marked w base 45 A (n * 2) k) := by
  rcases Nat.eq_zero_or_pos n with rfl | hp
  · go_enter Try.func46, Try.ntmps46
    go_wp2
    refine wp_loop_rounds 1 ?_; rw [rounds_succ]
    go_wp2
    go_ret
    exact ⟨by simp, fun h => by omega, World.grownBy.refl w _, rfl⟩
  · obtain ⟨g, off, rfl, hb, ho⟩ := h (by omega)
    have R0 := MarkRel.start (k := k) ho
    go_enter Try.func46, Try.ntmps46
    go_wp2
    go_loopw [1, 5] (fun q i wr => ∃ m : Nat, m ≤ n ∧ i = .int .i64 m ∧ q = .int .i64 (k + (m * 2 : Nat)) ∧ MarkRel w wr g 45 off (n * 2) f k (m * 2)) (fun _ i _ => n - (intOf i).toNat)
    case atStart => exact ⟨0, by omega, rfl, by simp, by simpa using R0⟩
    case round =>
      clear R0
      obtain ⟨m, hm, rfl, rfl, hr⟩ := hrel
      by_cases hlt : m < n
      · have R := hr.step.step
        rw [show k + ((m * 2 + 1 : Nat) : Int) = k + ((m * 2 : Nat) : Int) + 1 by omega] at R
        have c0 := hr.1.cell (i := m * 2) (by omega)
        have d0 := hr.1.frozen (off + (m * 2))
        obtain ⟨y0, hy0⟩ : ∃ y : Int, wr.cell? ⟨g, off + (m * 2), none⟩ = some (.int .i64 y) := ⟨_, c0⟩
        clear c0
        have c1 := hr.1.cell (i := m * 2 + 1) (by omega)
        have d1 := hr.1.frozen (off + (m * 2 + 1))
        obtain ⟨y1, hy1⟩ : ∃ y : Int, wr.cell? ⟨g, off + (m * 2 + 1), none⟩ = some (.int .i64 y) := ⟨_, c1⟩
        clear c1
        rw [show off + (m * 2 + 1) = off + m * 2 + 1 from rfl] at hy1 d1
        have hb1 : 0 ≤ k + ((m * 2 : Nat) : Int) := by omega
        have hb2 : k + ((m * 2 : Nat) : Int) ≤ 200000000 := by omega
        go_wp2
        go_roundw
        case rel => exact ⟨m + 1, by omega, by go_num, congrArg (Value.int .i64) (by omega), by rw [show (m + 1) * 2 = m * 2 + 2 by omega]; exact R⟩
        case measure => simp [intOf]; omega
      · obtain rfl : m = n := by omega
        go_wp2
        go_ret
        exact hr.done hb (by omega)

set_option maxHeartbeats 1000000 in
theorem heldItemS_any (w : World) (base : Nat) (A : Option Addr) (n cap : Nat) (k : Int) (hn : n ≤ 2097152) (hk : 0 ≤ k ∧ k ≤ 100000000) (h : OwnSl w base 45 A (n * 2) (fun j => k + j)) :
    Calls Try.prog 47 #[.slice A n cap, .int .i64 k] w fun e w' => e = .returned (.int .i64 (k + ((n * 2) : Nat))) ∧ w = w' := by
  rcases Nat.eq_zero_or_pos n with rfl | hp
  · go_enter Try.func47, Try.ntmps47
    go_wp2
    refine wp_loop_rounds 1 ?_; rw [rounds_succ]
    go_wp2
    go_ret
    exact ⟨by simp, rfl⟩
  · obtain ⟨g, off, rfl, hb, ho⟩ := h (by omega)
    go_enter Try.func47, Try.ntmps47
    go_wp2
    go_loop [1, 5] (fun q i => ∃ m : Nat, m ≤ n ∧ i = .int .i64 m ∧ q = .int .i64 (k + (m * 2 : Nat))) (fun _ i => n - (intOf i).toNat)
    case atStart => exact ⟨0, by omega, rfl, by simp⟩
    case round =>
      obtain ⟨m, hm, rfl, rfl⟩ := hrel
      by_cases hlt : m < n
      · have hb1 : 0 ≤ k + ((m * 2 : Nat) : Int) := by omega
        have hb2 : k + ((m * 2 : Nat) : Int) ≤ 200000000 := by omega
        have c0 := ho.cell (i := m * 2) (by omega)
        have c1 := ho.cell (i := m * 2 + 1) (by omega)
        rw [show off + (m * 2 + 1) = off + m * 2 + 1 from rfl, show k + ((m * 2 + 1 : Nat) : Int) = k + ((m * 2 : Nat) : Int) + 1 by omega] at c1
        go_wp2
        go_round
        case rel => exact ⟨m + 1, by omega, by go_num, congrArg (Value.int .i64) (by omega)⟩
        case measure => simp [intOf]; omega
      · obtain rfl : m = n := by omega
        go_wp2
        go_ret
        exact ⟨rfl, rfl⟩

end Go.Proofs.Ytdobiapnkdgjoaa
