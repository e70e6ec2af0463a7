/-
  Slices of items: what the laws' own functions over them compute (as over points: two numbers each). What cmp.Compare, cmp.Or (of two), impl.Item.compare and spec.l06Cmp compute: the order of items. Queues: sorted by Key, then Id, with all Ids different. What spec.QueueOk, slices.IsSortedFunc, impl.placesOf and impl.QueueOk compute. What slices.Clone gives over items, and what spec.QueuePop and impl.QueuePop compute.
-/
import Derived.Test.YtcaamhoakhgnhaaMarks
import Derived.Test.YtcaamhoakhgnhaaNetSpec
import Derived.Test.YtcaamhoakhgnhaaLinked
import Derived.Test.YtcaamhoakhgnhaaTurn
import Derived.Maps.OwnSet
import Derived.Maps.OwnOps
namespace Go.Proofs.Ytcaamhoakhgnhaa
open Go.RowKit Go.Deep

theorem Try.infoItem : (Try.prog.info? 73).map (fun i => (i.zero, i.size, i.bytes)) = some (some (.agg #[.int .i64 0, .int .i64 0]), 2, 16) := by kernel_rfl

theorem run_make_its (n : Nat) (h : n ≤ 2097152) (w : World) :
    (Instr.makeSlice 70 (.int .i64 (n : Int)) (.int .i64 (n : Int))).run Try.prog w = .ok (.slice (some ⟨w.heap.size, 0, none⟩) n n) (w.alloc (.cells (madeCells (Array.replicate 2 (.int .i64 0)) (n * 2)) 73)) := by
  obtain ⟨i, hi, hzz⟩ := Option.map_eq_some_iff.1 Try.infoItem
  simp only [Prod.mk.injEq] at hzz
  obtain ⟨hz, hs, hb⟩ := hzz
  have hr := run_make (P := Try.prog) w 70 73 i _ Try.underlying70 hi hz .i64 .i64 n n (by omega) (Int.le_refl _) (by rw [hb]; omega) (by omega)
  simp only [Int.toNat_natCast, hs] at hr
  exact hr

/-- Block b is a row of its own that holds the points ps (the arcs rs). -/
def ItsRow (w : World) (b : Nat) (ps : List (Int × Int)) : Prop := w.rowIs b 73 (ps.length * 2) (fun j => .int .i64 (flatP ps j))

theorem ItsRow.is {w : World} {b : Nat} {ps : List (Int × Int)} (h : ItsRow w b ps) : IsPts w (some ⟨b, 0, none⟩) ps := fun _ =>
  ⟨b, 0, rfl, World.rowIs.lt h, fun i hi => ⟨by rw [Nat.zero_add, World.rowIs.cell h (by omega), flatP_0], by rw [Nat.zero_add, World.rowIs.cell h (by omega), flatP_1]⟩⟩

/-- Copied so far: the first k elements. -/
def CopyI (w wr : World) (ps : List (Int × Int)) (k : Nat) : Prop :=
  wr.rowIs w.heap.size 73 (ps.length * 2) (fun j => .int .i64 (if j < k * 2 then flatP ps j else 0)) ∧ Below w.heap.size w wr

theorem copyI_start (w : World) (ps : List (Int × Int)) : CopyI w (w.alloc (.cells (madeCells (Array.replicate 2 (.int .i64 0)) (ps.length * 2)) 73)) ps 0 :=
  ⟨(made_ints w 2 ps.length (by omega) _).congr fun i _ => by rw [if_neg (by omega)], (Below.refl _ _).alloc (Nat.le_refl _) _⟩

theorem copyI_call {w wr w' : World} {ps : List (Int × Int)} {k : Nat} (h : CopyI w wr ps k) (hb : Below wr.heap.size wr w') : CopyI w w' ps k := ⟨rowIs_below h.1 hb, h.2.trans (hb.mono h.2.size)⟩

theorem copyI_step {w wr : World} {ps : List (Int × Int)} {k : Nat} (h : CopyI w wr ps k) :
    CopyI w ((wr.setCell ⟨w.heap.size, k * 2, none⟩ (.int .i64 (ptg ps k).1)).setCell ⟨w.heap.size, k * 2 + 1, none⟩ (.int .i64 (ptg ps k).2)) ps (k + 1) := by
  refine ⟨((World.rowIs.set h.1 (k * 2) _).set (k * 2 + 1) _).congr fun j _ => ?_, (h.2.setCell (Nat.le_refl _) _).setCell (Nat.le_refl _) _⟩
  by_cases e1 : j = k * 2 + 1
  · subst e1; rw [if_pos rfl, if_pos (by omega), flatP_1]
  · rw [if_neg e1]
    by_cases e0 : j = k * 2
    · subst e0; rw [if_pos rfl, if_pos (by omega), flatP_0]
    · rw [if_neg e0]
      by_cases hj : j < k * 2
      · rw [if_pos hj, if_pos (by omega)]
      · rw [if_neg hj, if_neg (by omega)]

theorem copyI_end {w wr : World} {ps : List (Int × Int)} {k : Nat} (h : CopyI w wr ps k) (hk : ps.length ≤ k) : ItsRow wr w.heap.size ps ∧ Below w.heap.size w wr :=
  ⟨World.rowIs.congr h.1 fun j hj => by rw [if_pos (by omega)], h.2⟩

/-- Cells of the copy at the place to be written: there, and not frozen. -/
theorem copyI_here {w wr : World} {ps : List (Int × Int)} {k : Nat} (h : CopyI w wr ps k) (hk : k < ps.length) :
    wr.cell? ⟨w.heap.size, k * 2, none⟩ = some (.int .i64 0) ∧ wr.cell? ⟨w.heap.size, k * 2 + 1, none⟩ = some (.int .i64 0) ∧ wr.frozen? ⟨w.heap.size, k * 2, none⟩ = false ∧ wr.frozen? ⟨w.heap.size, k * 2 + 1, none⟩ = false :=
  ⟨by rw [World.rowIs.cell h.1 (by omega), if_neg (by omega)], by rw [World.rowIs.cell h.1 (by omega), if_neg (by omega)], World.rowIs.frozen h.1 _, World.rowIs.frozen h.1 _⟩

theorem ItsRow.own {w : World} {b : Nat} {ps : List (Int × Int)} (h : ItsRow w b ps) : OwnAt w b 73 0 (ps.length * 2) (flatP ps) := by
  obtain ⟨c, h1, h2, h3⟩ := h
  exact ⟨c, h1, by omega, fun i hi => by rw [Nat.zero_add]; exact h3 i hi⟩

end Go.Proofs.Ytcaamhoakhgnhaa

namespace Go.Proofs.Ytcaamhoakhgnhaa
open Go.RowKit Go.Deep

/-- Two numbers held against each other. -/
def cp (x y : Int) : Int := if x < y then -1 else if y < x then 1 else 0
/-- Two items held against each other: by Key, then by Id. -/
def cmpI (a b : Int × Int) : Int := if cp a.1 b.1 ≠ 0 then cp a.1 b.1 else cp a.2 b.2

theorem cp_bd (x y : Int) : -1 ≤ cp x y ∧ cp x y ≤ 1 := by unfold cp; split <;> (try split) <;> omega
theorem cp_zero {x y : Int} : cp x y = 0 ↔ x = y := by unfold cp; split <;> (try split) <;> omega
theorem cp_neg {x y : Int} : cp x y < 0 ↔ x < y := by unfold cp; split <;> (try split) <;> omega
theorem cmpI_bd (a b : Int × Int) : -1 ≤ cmpI a b ∧ cmpI a b ≤ 1 := by unfold cmpI; split <;> exact cp_bd _ _
/-- One item ahead of another. -/
def ltI (a b : Int × Int) : Prop := a.1 < b.1 ∨ a.1 = b.1 ∧ a.2 < b.2
theorem cmpI_neg {a b : Int × Int} : cmpI a b < 0 ↔ ltI a b := by
  unfold cmpI ltI
  by_cases h : a.1 = b.1
  · rw [if_neg (by rw [ne_eq, cp_zero, Classical.not_not]; exact h), cp_neg]; omega
  · rw [if_pos (by rw [ne_eq, cp_zero]; exact h), cp_neg]; omega
theorem cmpI_zero {a b : Int × Int} : cmpI a b = 0 ↔ a = b := by
  unfold cmpI
  by_cases h : a.1 = b.1
  · rw [if_neg (by rw [ne_eq, cp_zero, Classical.not_not]; exact h), cp_zero, Prod.ext_iff]; exact ⟨fun k => ⟨h, k⟩, fun k => k.2⟩
  · have h' : cp a.1 b.1 ≠ 0 := by rw [ne_eq, cp_zero]; exact h
    rw [if_pos h', Prod.ext_iff]; exact ⟨fun k => absurd k h', fun k => absurd k.1 h⟩
theorem ltI_irr (a : Int × Int) : ¬ ltI a a := by unfold ltI; omega
theorem ltI_trans {a b c : Int × Int} (h1 : ltI a b) (h2 : ltI b c) : ltI a c := by unfold ltI at *; omega
theorem ltI_tri {a b : Int × Int} (h : ¬ ltI a b) (hne : a ≠ b) : ltI b a := by
  unfold ltI at *
  have : ¬ (a.1 = b.1 ∧ a.2 = b.2) := fun k => hne (Prod.ext k.1 k.2)
  omega

theorem compare_int (x y : Int) (w : World) : Calls Try.prog 160 #[.int .i64 x, .int .i64 y] w fun e w' => e = .returned (.int .i64 (cp x y)) ∧ w = w' := by
  unfold cp
  by_cases h : x < y
  · rw [if_pos h]
    go_enter Try.func160, Try.ntmps160
    go_wp2
    go_ret
    exact ⟨rfl, rfl⟩
  · rw [if_neg h]
    by_cases h2 : y < x
    · rw [if_pos h2]
      go_enter Try.func160, Try.ntmps160
      go_wp2
      go_ret
      exact ⟨rfl, rfl⟩
    · rw [if_neg h2]
      go_enter Try.func160, Try.ntmps160
      go_wp2
      go_ret
      exact ⟨rfl, rfl⟩

/-- How far cmp.Or has looked. -/
def OrR (a : Int) (i : Value) : Prop := i = .int .i64 0 ∨ i = .int .i64 1 ∧ a = 0 ∨ i = .int .i64 2 ∧ a = 0
def orI (a b : Int) : Int := if a ≠ 0 then a else b
set_option maxHeartbeats 1000000 in
theorem or_two (L : Nat) (a b : Int) (w : World) (h0 : w.cell? ⟨L, 0, none⟩ = some (.int .i64 a)) (h1 : w.cell? ⟨L, 1, none⟩ = some (.int .i64 b)) :
    Calls Try.prog 159 #[.slice (some ⟨L, 0, none⟩) 2 2] w fun e w' => e = .returned (.int .i64 (orI a b)) ∧ w = w' := by
  by_cases ha : a = 0
  · have HQ := Lib.hid (show orI a b = b by unfold orI; rw [if_neg (by omega)])
    subst ha
    by_cases hb : b = 0
    · subst hb
      go_enter Try.func159, Try.ntmps159
      go_wp2
      go_loop [8] (fun i => OrR 0 i) (fun i => (2 - intOf i).toNat)
      case atStart => exact .inl rfl
      case round =>
        rcases hrel with rfl | ⟨rfl, -⟩ | ⟨rfl, -⟩
        · go_wp2
          go_round
          case rel => exact .inr (.inl ⟨rfl, rfl⟩)
          case measure => simp [intOf]
        · go_wp2
          go_round
          case rel => exact .inr (.inr ⟨rfl, rfl⟩)
          case measure => simp [intOf]
        · go_wp2
          go_ret
          exact ⟨by rw [HQ.out]; rfl, rfl⟩
    · have hb' : (b != 0) = true := by simpa using hb
      go_enter Try.func159, Try.ntmps159
      go_wp2
      go_loop [8] (fun i => i = .int .i64 0 ∨ i = .int .i64 1) (fun i => (2 - intOf i).toNat)
      case atStart => exact .inl rfl
      case round =>
        rcases hrel with rfl | rfl
        · go_wp2
          go_round
          case rel => exact .inr rfl
          case measure => simp [intOf]
        · go_wp2
          go_ret
          exact ⟨by rw [HQ.out]; rfl, rfl⟩
  · have HQ := Lib.hid (show orI a b = a by unfold orI; rw [if_pos ha])
    have ha' : (a != 0) = true := by simpa using ha
    go_enter Try.func159, Try.ntmps159
    go_wp2
    refine wp_loop_rounds 1 ?_; rw [rounds_succ]
    go_wp2
    go_ret
    exact ⟨by rw [HQ.out]; rfl, rfl⟩

theorem two_new (W : World) (a b : Int) : (W.alloc (.cells #[.int .i64 a, .int .i64 b] 3)).drew.cell? ⟨W.heap.size, 0, none⟩ = some (.int .i64 a) ∧ (W.alloc (.cells #[.int .i64 a, .int .i64 b] 3)).drew.cell? ⟨W.heap.size, 1, none⟩ = some (.int .i64 b) :=
  ⟨(cell_of_block (heap_alloc_new W _)).trans rfl, (cell_of_block (heap_alloc_new W _)).trans rfl⟩

/-- The boxes of two items. -/
abbrev TwoS (b1 b2 : Nat) (x y x' y' : Int) (w : World) : Prop := (w.cell? ⟨b1, 0, none⟩ = some (.int .i64 x) ∧ w.cell? ⟨b1, 1, none⟩ = some (.int .i64 y)) ∧ w.cell? ⟨b2, 0, none⟩ = some (.int .i64 x') ∧ w.cell? ⟨b2, 1, none⟩ = some (.int .i64 y')
theorem TwoS.under {b1 b2 : Nat} {x y x' y' : Int} {w w' : World} (hb : Below w.heap.size w w') (h : TwoS b1 b2 x y x' y' w) : TwoS b1 b2 x y x' y' w' := ⟨⟨cell_under hb h.1.1, cell_under hb h.1.2⟩, cell_under hb h.2.1, cell_under hb h.2.2⟩

set_option maxRecDepth 100000 in
set_option maxHeartbeats 2000000 in
theorem itemCmp_any (x y x' y' : Int) (w : World) : Calls Try.prog 153 #[.agg #[.int .i64 x, .int .i64 y], .agg #[.int .i64 x', .int .i64 y']] w fun e w' => e = .returned (.int .i64 (cmpI (x, y) (x', y'))) ∧ Below w.heap.size w w' := by
  have K := below2 w (.cells #[.int .i64 x, .int .i64 y] 73) (.cells #[.int .i64 x', .int .i64 y'] 73)
  have T : TwoS w.heap.size (w.heap.size + 1) x y x' y' ((w.alloc (.cells #[.int .i64 x, .int .i64 y] 73)).alloc (.cells #[.int .i64 x', .int .i64 y'] 73)) := by
    obtain ⟨a0, a1, -, -⟩ := ((Pair.new w 73 (.int .i64 x) (.int .i64 y)).alloc (.cells #[.int .i64 x', .int .i64 y'] 73)).cells
    obtain ⟨b0, b1, -, -⟩ := (Pair.new (w.alloc (.cells #[.int .i64 x, .int .i64 y] 73)) 73 (.int .i64 x') (.int .i64 y')).cells
    rw [World.size_alloc] at b0 b1
    exact ⟨⟨a0, a1⟩, b0, b1⟩
  obtain ⟨W, hW⟩ : ∃ W, W = (w.alloc (.cells #[.int .i64 x, .int .i64 y] 73)).alloc (.cells #[.int .i64 x', .int .i64 y'] 73) := ⟨_, rfl⟩
  rw [← hW] at K T
  have HW := Lib.hid hW
  clear hW
  go_enter Try.func153, Try.ntmps153
  go_wp2_with fail
  rw [← HW.out]
  clear HW
  go_region_held3 (fun w' => TwoS w.heap.size (w.heap.size + 1) x y x' y' w')
    (first | exact T | exact TwoS.under (w := W) ((below1 W _).drew) T | assumption)
    (first
      | (go_at_call 160; refine (compare_int _ _ _).mono ?_; rintro e w1 ⟨rfl, rfl⟩)
      | (go_at_call 159; refine (or_two W.heap.size (cp x x') (cp y y') _ (two_new W _ _).1 (two_new W _ _).2).mono ?_; rintro e w2 ⟨rfl, rfl⟩))
  have K2 := K.trans (((below1 W (.cells #[.int .i64 (cp x x'), .int .i64 (cp y y')] 3)).drew).mono K.size)
  go_wp2
  go_ret
  exact ⟨rfl, K2⟩

theorem l06Cmp_any (x y x' y' : Int) (w : World) : Calls Try.prog 104 #[.agg #[.int .i64 x, .int .i64 y], .agg #[.int .i64 x', .int .i64 y']] w fun e w' => e = .returned (.int .i64 (cmpI (x, y) (x', y'))) ∧ Below w.heap.size w w' := by
  have K := below2 w (.cells #[.int .i64 x, .int .i64 y] 73) (.cells #[.int .i64 x', .int .i64 y'] 73)
  obtain ⟨q, HQ⟩ : ∃ q, Hid (cmpI (x, y) (x', y') = q) := ⟨_, Lib.hid rfl⟩
  rw [HQ.out]
  have HC := HQ.out
  unfold cmpI cp at HC
  simp only at HC
  by_cases h1 : x < x'
  · have H := Lib.hid (show -1 = q by rw [← HC]; simp [h1])
    clear HC
    go_enter Try.func104, Try.ntmps104
    go_wp2_with fail
    try go_quiet (fail)
    go_wp2
    go_ret
    exact ⟨retI H.out, by first | exact K | exact below_drewN K _⟩
  · by_cases h2 : x' < x
    · have H := Lib.hid (show 1 = q by rw [← HC]; simp [h1, h2])
      clear HC
      go_enter Try.func104, Try.ntmps104
      go_wp2_with fail
      try go_quiet (fail)
      go_wp2
      go_ret
      exact ⟨retI H.out, by first | exact K | exact below_drewN K _⟩
    · by_cases h3 : y < y'
      · have H := Lib.hid (show -1 = q by rw [← HC]; simp [h1, h2, h3])
        clear HC
        go_enter Try.func104, Try.ntmps104
        go_wp2_with fail
        try go_quiet (fail)
        go_wp2
        go_ret
        exact ⟨retI H.out, by first | exact K | exact below_drewN K _⟩
      · by_cases h4 : y' < y
        · have H := Lib.hid (show 1 = q by rw [← HC]; simp [h1, h2, h3, h4])
          clear HC
          go_enter Try.func104, Try.ntmps104
          go_wp2_with fail
          try go_quiet (fail)
          go_wp2
          go_ret
          exact ⟨retI H.out, by first | exact K | exact below_drewN K _⟩
        · have H := Lib.hid (show 0 = q by rw [← HC]; simp [h1, h2, h3, h4])
          clear HC
          go_enter Try.func104, Try.ntmps104
          go_wp2_with fail
          try go_quiet (fail)
          go_wp2
          go_ret
          exact ⟨retI H.out, by first | exact K | exact below_drewN K _⟩

end Go.Proofs.Ytcaamhoakhgnhaa

namespace Go.Proofs.Ytcaamhoakhgnhaa
open Go.RowKit Go.Maps

def idg (q : List (Int × Int)) (i : Nat) : Int := (ptg q i).2
/-- The first k items of a queue are in order, their Ids different. -/
def QUp (q : List (Int × Int)) (k : Nat) : Prop := ∀ i, i < k → (0 < i → ltI (ptg q (i - 1)) (ptg q i)) ∧ ∀ j, j < i → idg q j ≠ idg q i
def QOk (q : List (Int × Int)) : Prop := QUp q q.length
noncomputable def qB (q : List (Int × Int)) : Bool := @decide (QOk q) (Classical.propDecidable _)
theorem qB_iff {q : List (Int × Int)} : qB q = true ↔ QOk q := by unfold qB; exact @decide_eq_true_iff _ (Classical.propDecidable _)
theorem qB_no {q : List (Int × Int)} (h : ¬ QOk q) : qB q = false := by cases e : qB q with
  | false => rfl
  | true => exact absurd (qB_iff.1 e) h
theorem QUp.step {q : List (Int × Int)} {k : Nat} (h : QUp q k) (h1 : 0 < k → ltI (ptg q (k - 1)) (ptg q k)) (h2 : ∀ j, j < k → idg q j ≠ idg q k) : QUp q (k + 1) := fun i hi => by
  rcases Nat.lt_or_ge i k with h' | h'
  · exact h i h'
  · obtain rfl : i = k := by omega
    exact ⟨h1, h2⟩
theorem q_unsorted {q : List (Int × Int)} {k : Nat} (hk : k + 1 < q.length) (h : ¬ ltI (ptg q k) (ptg q (k + 1))) : qB q = false := qB_no fun g => h ((g (k + 1) hk).1 (by omega))
theorem q_twice {q : List (Int × Int)} {j k : Nat} (hk : k < q.length) (hj : j < k) (h : idg q j = idg q k) : qB q = false := qB_no fun g => (g k hk).2 j hj h

/-- From k on no item is less than the one ahead of it. -/
def Dn (q : List (Int × Int)) (k : Nat) : Prop := ∀ j, k < j → j < q.length → ¬ ltI (ptg q j) (ptg q (j - 1))
noncomputable def sB (q : List (Int × Int)) : Bool := @decide (Dn q 0) (Classical.propDecidable _)
theorem sB_iff {q : List (Int × Int)} : sB q = true ↔ Dn q 0 := by unfold sB; exact @decide_eq_true_iff _ (Classical.propDecidable _)
theorem sB_no {q : List (Int × Int)} (h : ¬ Dn q 0) : sB q = false := by cases e : sB q with
  | false => rfl
  | true => exact absurd (sB_iff.1 e) h

/-- How many different Ids the first k items have. -/
def seenB (q : List (Int × Int)) (k : Nat) : Bool := (List.range k).any (fun j => idg q j == idg q k)
def cntU (q : List (Int × Int)) : Nat → Nat
  | 0 => 0
  | k + 1 => cntU q k + if seenB q k = true then 0 else 1
theorem seenB_iff {q : List (Int × Int)} {k : Nat} : seenB q k = true ↔ ∃ j, j < k ∧ idg q j = idg q k := by
  unfold seenB; rw [List.any_eq_true]
  exact ⟨fun ⟨j, h1, h2⟩ => ⟨j, List.mem_range.1 h1, by simpa using h2⟩, fun ⟨j, h1, h2⟩ => ⟨j, List.mem_range.2 h1, by simpa using h2⟩⟩
theorem cntU_le (q : List (Int × Int)) : ∀ k, cntU q k ≤ k
  | 0 => Nat.le_refl _
  | k + 1 => by rw [cntU]; have := cntU_le q k; split <;> omega
theorem cntU_all {q : List (Int × Int)} : ∀ {k}, cntU q k = k ↔ ∀ i, i < k → ∀ j, j < i → idg q j ≠ idg q i
  | 0 => by simp [cntU]
  | k + 1 => by
    rw [cntU]
    have hle := cntU_le q k
    constructor
    · intro h i hi j hj
      by_cases hs : seenB q k = true
      · rw [if_pos hs] at h; omega
      · rw [if_neg hs] at h
        rcases Nat.lt_or_ge i k with h' | h'
        · exact cntU_all.1 (by omega) i h' j hj
        · obtain rfl : i = k := by omega
          exact fun e => hs (seenB_iff.2 ⟨j, hj, e⟩)
    · intro h
      have hs : ¬ seenB q k = true := fun g => by obtain ⟨j, hj, e⟩ := seenB_iff.1 g; exact h k (by omega) j hj e
      rw [if_neg hs, cntU_all.2 (fun i hi => h i (by omega))]

theorem qB_eq (q : List (Int × Int)) : qB q = (sB q && decide (cntU q q.length = q.length)) := by
  rw [Bool.eq_iff_iff, Bool.and_eq_true, qB_iff, sB_iff, decide_eq_true_eq, cntU_all]
  constructor
  · intro h
    exact ⟨fun j hj hl g => ltI_irr _ (ltI_trans ((h j hl).1 hj) g), fun i hi => (h i hi).2⟩
  · rintro ⟨h1, h2⟩ i hi
    exact ⟨fun h0 => ltI_tri (h1 i h0 hi) (fun e => h2 i hi (i - 1) (by omega) (by unfold idg; rw [e])), h2 i hi⟩

/-- The key of an integer. -/
abbrev kI (x : Int) : Lit := .int .i64 x
theorem isKey_int (x : Int) : WideAt.IsKeyLit (kI x) := by trivial
theorem kI_ne {x y : Int} (h : x ≠ y) : kI x ≠ kI y := fun e => h (by injection e)

/-- What a map of the places of the first k items holds. -/
structure PlUp (q : List (Int × Int)) (k : Nat) (D : DataW Unit) : Prop where
  tidy : Tidy D
  size : Maps.size D = cntU q k
  has : ∀ x, Maps.has D (kI x) = true ↔ ∃ i, i < k ∧ idg q i = x
  at_ : ∀ i, i < k → (∀ j, i < j → j < k → idg q j ≠ idg q i) → ∀ z, D.atKey (kI (idg q i)) z = .lit (kI (i : Int))

theorem plUp_start (q : List (Int × Int)) : PlUp q 0 (.map []) := ⟨tidy_empty, rfl, fun x => ⟨fun h => by simp [Maps.has] at h, fun ⟨i, hi, _⟩ => by omega⟩, fun i hi => by omega⟩
theorem PlUp.step {q : List (Int × Int)} {k : Nat} {D : DataW Unit} (h : PlUp q k D) : PlUp q (k + 1) (D.put (kI (idg q k)) (.lit (kI (k : Int)))) := by
  have hm := h.tidy.isMap
  refine ⟨h.tidy.put (isKey_int _) _, ?_, fun x => ?_, fun i hi hn z => ?_⟩
  · rw [size_put h.tidy, cntU]
    by_cases hs : seenB q k = true
    · have : Maps.has D (kI (idg q k)) = true := (h.has _).2 (by obtain ⟨j, hj, e⟩ := seenB_iff.1 hs; exact ⟨j, hj, e⟩)
      rw [if_pos this, if_pos hs, h.size]; rfl
    · have : ¬ Maps.has D (kI (idg q k)) = true := fun g => hs (by obtain ⟨j, hj, e⟩ := (h.has _).1 g; exact seenB_iff.2 ⟨j, hj, e⟩)
      rw [if_neg this, if_neg hs, h.size]
  · by_cases e : x = idg q k
    · subst e
      rw [has_put_same hm (isKey_int _)]
      exact ⟨fun _ => ⟨k, by omega, rfl⟩, fun _ => rfl⟩
    · rw [has_put_other (kI_ne e), h.has]
      exact ⟨fun ⟨i, hi, g⟩ => ⟨i, by omega, g⟩, fun ⟨i, hi, g⟩ => by
        rcases Nat.lt_or_ge i k with h' | h'
        · exact ⟨i, h', g⟩
        · obtain rfl : i = k := by omega
          exact absurd g.symm e⟩
  · rcases Nat.lt_or_ge i k with h' | h'
    · rw [atKey_put_other (kI_ne (fun e => hn k h' (by omega) e.symm))]
      exact h.at_ i h' (fun j hj hl => hn j hj (by omega)) z
    · obtain rfl : i = k := by omega
      rw [atKey_put_same hm (isKey_int _)]

end Go.Proofs.Ytcaamhoakhgnhaa

namespace Go.Proofs.Ytcaamhoakhgnhaa
open Go.RowKit Go.Deep Go.Maps

theorem eqN (a b : Nat) : ((a : Int) == (b : Int)) = decide (a = b) := by rw [Bool.eq_iff_iff, beq_iff_eq, decide_eq_true_eq]; omega

/-- Two items of a slice, and nothing older has turned. -/
abbrev ItS (w : World) (b1 o1 b2 o2 : Nat) (x y x' y' : Int) (w' : World) : Prop :=
  w'.cell? ⟨b1, o1, none⟩ = some (.int .i64 x) ∧ w'.cell? ⟨b1, o1 + 1, none⟩ = some (.int .i64 y) ∧ w'.cell? ⟨b2, o2, none⟩ = some (.int .i64 x') ∧ w'.cell? ⟨b2, o2 + 1, none⟩ = some (.int .i64 y') ∧ Below w.heap.size w w'
theorem ItS.under {w w1 w2 : World} {b1 o1 b2 o2 : Nat} {x y x' y' : Int} (hb : Below w1.heap.size w1 w2) (h : ItS w b1 o1 b2 o2 x y x' y' w1) : ItS w b1 o1 b2 o2 x y x' y' w2 := by
  obtain ⟨h1, h2, h3, h4, h5⟩ := h
  exact ⟨cell_under hb h1, cell_under hb h2, cell_under hb h3, cell_under hb h4, h5.trans (hb.mono h5.size)⟩
theorem ItS.drew {w w1 : World} {b1 o1 b2 o2 : Nat} {x y x' y' : Int} (h : ItS w b1 o1 b2 o2 x y x' y' w1) : ItS w b1 o1 b2 o2 x y x' y' w1.drew := ⟨h.1, h.2.1, h.2.2.1, h.2.2.2.1, h.2.2.2.2.drew⟩

theorem Try.law : Keyed Try.prog 3 := int_keyed Try.underlying3
theorem Try.zeroI (w : World) : (zeroValue 3).run Try.prog w = .ok (.int .i64 0) w := by kernel_rfl

theorem makeMap_hint (n : Nat) (w : World) : (Instr.makeMap 124 (some (.int .i64 (n : Int)))).run Try.prog w = .ok (.map (some w.heap.size)) (w.alloc (.map #[] 0)) := by
  simp [Instr.makeMap, run_underlying Try.underlying124, asInt, asIntOf]

/-- A map of the places of items, of the call's own. -/
def PlMade (w : World) (q : List (Int × Int)) (e : Ending) (w' : World) : Prop :=
  ∃ (B : Nat) (D : DataW Unit), e = .returned (.map (some B)) ∧ w.heap.size ≤ B ∧ w'.ownsMap Try.prog 3 (plainElem Try.prog 3) B q.length D ∧ PlUp q q.length D ∧ Below w.heap.size w w'

theorem ownsMap_below {w w' : World} {b n : Nat} {D : DataW Unit} (h : w.ownsMap Try.prog 3 (plainElem Try.prog 3) b n D) (hb : Below w.heap.size w w') : w'.ownsMap Try.prog 3 (plainElem Try.prog 3) b n D := by
  have hl := h.lt
  obtain ⟨es, clock, h1, r⟩ := h
  exact ⟨es, clock, (hb.block b hl).trans h1, r⟩

set_option maxRecDepth 100000 in
set_option maxHeartbeats 4000000 in
theorem placesOf_any (A : Option Addr) (ca : Nat) (q : List (Int × Int)) (w : World) (hn : q.length ≤ 2097152) (h : IsPts w A q) (hi64 : ∀ i, i < q.length → In64 (idg q i)) :
    Calls Try.prog 100 #[.slice A q.length ca] w (PlMade w q) := by
  have hmm := makeMap_hint q.length
  go_enter Try.func100, Try.ntmps100
  go_wp2
  go_loopw [11] (fun i wr => ∃ (k : Nat) (D : DataW Unit), k ≤ q.length ∧ i = .int .i64 k ∧ wr.ownsMap Try.prog 3 (plainElem Try.prog 3) w.heap.size k D ∧ PlUp q k D ∧ Below w.heap.size w wr) (fun i _ => q.length - (intOf i).toNat)
  case atStart => exact ⟨0, _, by omega, rfl, World.ownsMap_made _ _ _ _, plUp_start q, (Below.refl _ _).alloc (Nat.le_refl _) _⟩
  case round =>
    obtain ⟨k, D, hk, rfl, hown, hpl, K⟩ := hrel
    clear hmm
    by_cases hlt : k < q.length
    · obtain ⟨b, off, rfl, -, z1, z2⟩ := (h.below K).at_ (k := k) hlt
      have hwf := hi64 k hlt
      have HP := Lib.hid (hpl.step)
      have kb := below1 wr (.cells #[.int .i64 (ptg q k).1, .int .i64 (ptg q k).2] 73)
      have hown' := ownsMap_below hown kb
      have K' := K.trans (kb.mono K.size)
      have hKs := K.size
      have hix : (ptg q k).2 = idg q k := rfl
      rw [hix] at z2 kb hown' K'
      obtain ⟨x, hx⟩ : ∃ x, x = (ptg q k).1 := ⟨_, rfl⟩
      rw [← hx] at z1 hown' K'
      generalize idg q k = y at z2 hown' K' HP hwf
      clear hx hix kb hown K hpl
      go_wp2_with (at_mapUpdate; refine wpList_mapUpdate_own _ rfl _ _ _ 124 rfl 3 3 Try.law Try.underlying124 _ w.heap.size k D rfl hown' (by unfold maxLen; omega) _ _ _ rfl rfl (keyOf_int_mk Try.underlying3 (WalkArith.wf_i64 hwf)) _ [] (plainElem_int Try.underlying3 (WalkArith.wf_i64 (by omega))) ?_; intro w1 hown1 hgrow1)
      go_roundw
      case rel => exact ⟨k + 1, _, by omega, by go_num, hown1, HP.out, K'.grown hgrow1 K'.size (fun g e => by injection e with e; omega)⟩
      case measure => simp [intOf]; omega
    · obtain rfl : k = q.length := by omega
      go_wp2
      go_ret
      exact ⟨_, D, rfl, Nat.le_refl _, hown, hpl, K⟩

end Go.Proofs.Ytcaamhoakhgnhaa

namespace Go.Proofs.Ytcaamhoakhgnhaa
open Go.RowKit Go.Deep Go.Maps

theorem ownI_is {w : World} {base : Nat} {v : Value} {ps : List (Int × Int)} (h : w.ownsRow base 73 2 v ps.length (cellsP ps)) : ∃ A cap, v = .slice A ps.length cap ∧ ps.length ≤ cap ∧ (0 < ps.length → ∃ g, A = some ⟨g, 0, none⟩ ∧ base ≤ g ∧ OwnAt w g 73 0 (ps.length * 2) (flatP ps)) := by
  rcases h.2 with ⟨h1, h2⟩ | ⟨g, cap, cur, h1, h2, h3, h4, h5, h6, h7⟩
  · exact ⟨none, 0, by rw [h1, h2], by omega, fun hp => by omega⟩
  · refine ⟨_, cap, h1, h4, fun _ => ⟨g, rfl, h2, cur, h3, by omega, fun i hi => ?_⟩⟩
    have e : (cur.toList.take (ps.length * 2))[i]? = (cellsP ps)[i]? := by rw [h7]
    rw [List.getElem?_take, if_pos hi, Array.getElem?_toList, cellsP_get _ _ hi] at e
    rw [Nat.zero_add, e]

set_option maxRecDepth 100000 in
/-- Items appended to a row that is one's own, out of any slice. -/
theorem run_append_items {w : World} (ty : TypeId) (base : Nat) (v : Value) (n : Nat) (xs : List Value) (hown : w.ownsRow base 73 2 v n xs) (A : Option Addr) (m c : Nat) (ps : List (Int × Int)) (hm : ps.length = m) (hA : IsPts w A ps)
    (h63 : n + m ≤ 8388608) (hbase : base ≤ w.heap.size) :
    ∃ v' w', (Builtin.append_ #[70, 70] ty #[v, .slice A m c]).run Try.prog w = .ok v' w' ∧ w'.ownsRow base 73 2 v' (n + m) (xs ++ cellsP ps) ∧ w.grownBy w' v.ownBlock ∧ (v'.ownBlock = v.ownBlock ∨ v'.ownBlock = some w.heap.size) := by
  obtain ⟨i0, hi, hz0, hz1, hz2⟩ := info_parts Try.infoItem
  subst hm
  cases A with
  | none =>
    have h0 : ps.length = 0 := by
      rcases Nat.eq_zero_or_pos ps.length with h | h
      · exact h
      · obtain ⟨b, off, e, -⟩ := hA h; cases e
    obtain rfl := List.eq_nil_of_length_eq_zero h0
    obtain ⟨a0, cap0, rfl, hle⟩ : ∃ a0 cap0, v = .slice a0 n cap0 ∧ n ≤ cap0 := by
      rcases hown.2 with ⟨h1, h2⟩ | ⟨g, cap, cur, h1, h2, h3, h4, _⟩
      · exact ⟨none, 0, by rw [h1, h2], by omega⟩
      · exact ⟨_, cap, h1, h4⟩
    have hs : Src Try.prog i0.size 70 (.slice none 0 c) 0 [] w := Src.ofNil w Try.underlying70 c
    refine ⟨_, w, run_append_nothing w 70 70 ty 73 i0 Try.underlying70 hi a0 n cap0 hle _ hs, ?_, ⟨rfl, rfl, rfl, Nat.le_refl _, fun _ _ _ => rfl⟩, .inl rfl⟩
    simpa [cellsP] using hown
  | some a =>
    obtain ⟨v', w', h1, h2, h3, -, h5⟩ := run_append_own_at (P := Try.prog) w base 70 ty 73 i0 (.agg #[.int .i64 0, .int .i64 0]) 2 16 Try.underlying70 hi hz0 hz1 hz2 rfl (by decide) v n xs hown a ps.length c (cellsP ps) (cellsP_len _) hA.news' (cellsP_one _) (by unfold maxLen; omega) (by omega) hbase
    exact ⟨v', w', h1, h2, h3, h5⟩

/-- Items of the call's own. -/
def ItsMade (w : World) (ps : List (Int × Int)) (e : Ending) (w' : World) : Prop := ∃ v', e = .returned v' ∧ w'.ownsRow w.heap.size 73 2 v' ps.length (cellsP ps) ∧ Below w.heap.size w w'

set_option maxRecDepth 100000 in
set_option maxHeartbeats 2000000 in
theorem cloneIts_any (A : Option Addr) (m c : Nat) (ps : List (Int × Int)) (w : World) (hm : ps.length = m) (hbig : m ≤ 2097152) (hc : IsPts w A ps) :
    Calls Try.prog 99 #[.slice A m c] w (ItsMade w ps) := by
  have q22 : ∀ (w : World) (a : Option Addr) (n c n' c' : Nat), (binOp .eql 70 (.slice a n c) (.slice none n' c')).run Try.prog w = .ok (.bool a.isNone) w := fun w a n c n' c' => Lib.run_eql_slice_nil w _ _ a n c n' c' Try.underlying70
  cases A with
  | none =>
    have h0 : ps.length = 0 := by
      rcases Nat.eq_zero_or_pos ps.length with h | h
      · exact h
      · obtain ⟨b, off, e, -⟩ := hc h; cases e
    obtain rfl := List.eq_nil_of_length_eq_zero h0
    subst hm
    clear h0 hc
    go_enter Try.func99, Try.ntmps99
    go_wp2
    go_ret
    exact ⟨_, rfl, World.ownsRow_nil _ _ _ _, Below.refl _ _⟩
  | some ad =>
    have kb := below1 w (.cells #[] 73)
    have own0 := World.ownsRow_made (base := w.heap.size) (size := 2) (e := 73) w #[] 0 (Nat.le_refl _) (by decide) rfl
    obtain ⟨v', w', hr, own', g', -⟩ := run_append_items (ty := 70) _ _ _ _ own0 (some ad) m c ps hm (hc.below kb) (by omega) (by simp)
    have K' : Below w.heap.size w w' := kb.grown g' kb.size (fun g e => (World.ownsRow.lt own0 g e).1)
    have own2 : w'.ownsRow w.heap.size 73 2 v' ps.length (cellsP ps) := by rw [hm]; simpa using own'
    clear own0 own' g' kb
    go_enter Try.func99, Try.ntmps99
    go_wp2_with (at_builtin; refine Lib.wpList_append_run _ rfl _ _ _ _ rfl _ _ rfl rfl _ _ hr ?_)
    go_ret
    exact ⟨v', rfl, own2, K'⟩

noncomputable def popB (q : List (Int × Int)) : Bool := qB q && decide (0 < q.length)
noncomputable def popH (q : List (Int × Int)) : Int × Int := if popB q = true then ptg q 0 else (0, 0)
noncomputable def popR (q : List (Int × Int)) : List (Int × Int) := if popB q = true then q.drop 1 else []
theorem popR_len (q : List (Int × Int)) : (popR q).length ≤ q.length := by unfold popR; split <;> simp
/-- What QueuePop answers. -/
def PopMade (w : World) (q : List (Int × Int)) (e : Ending) (w' : World) : Prop :=
  ∃ A cap, e = .returned (.tuple #[.agg #[.int .i64 (popH q).1, .int .i64 (popH q).2], .slice A (popR q).length cap, .bool (popB q)]) ∧ (popR q).length ≤ cap ∧ OwnSl w' w.heap.size 73 A ((popR q).length * 2) (flatP (popR q)) ∧ Below w.heap.size w w'
theorem popMade_no {w w' : World} {q : List (Int × Int)} (h : popB q = false) (A : Option Addr) (c : Nat) (K : Below w.heap.size w w') : PopMade w q (.returned (.tuple #[.agg #[.int .i64 0, .int .i64 0], .slice A 0 c, .bool false])) w' := by
  have e1 : popH q = (0, 0) := by unfold popH; rw [h]; simp
  have e2 : popR q = [] := by unfold popR; rw [h]; simp
  unfold PopMade
  rw [e1, e2, h]
  exact ⟨A, c, rfl, Nat.zero_le _, fun hp => by simp at hp, K⟩
theorem popMade_yes {w w' : World} {q : List (Int × Int)} {v : Value} (h : popB q = true) (own : w'.ownsRow w.heap.size 73 2 v (q.drop 1).length (cellsP (q.drop 1))) (K : Below w.heap.size w w') : PopMade w q (.returned (.tuple #[.agg #[.int .i64 (ptg q 0).1, .int .i64 (ptg q 0).2], v, .bool true])) w' := by
  have e1 : popH q = ptg q 0 := by unfold popH; rw [if_pos h]
  have e2 : popR q = q.drop 1 := by unfold popR; rw [if_pos h]
  unfold PopMade
  rw [e1, e2, h]
  obtain ⟨A, cap, rfl, h1, h2⟩ := ownI_is own
  exact ⟨A, cap, rfl, h1, fun hp => by obtain ⟨g, e, hg, ho⟩ := h2 (by omega); exact ⟨g, 0, e, hg, ho⟩, K⟩

theorem isPts_tail {w : World} {b off : Nat} {q : List (Int × Int)} (hp : 0 < q.length) (h : IsPts w (some ⟨b, off, none⟩) q) : IsPts w (some ⟨b, off + 2, none⟩) (q.drop 1) := fun _ => by
  obtain ⟨b', off', e, hb, hc⟩ := h hp
  cases e
  refine ⟨b, off + 2, rfl, hb, fun i hi => ?_⟩
  rw [List.length_drop] at hi
  have e : ptg (q.drop 1) i = ptg q (i + 1) := by unfold ptg; simp
  rw [e]
  obtain ⟨h1, h2⟩ := hc (i + 1) (by omega)
  rw [show off + (i + 1) * 2 = off + 2 + i * 2 by omega] at h1 h2
  exact ⟨h1, h2⟩
theorem isPts_tail_none {w : World} {A : Option Addr} {q : List (Int × Int)} (h : q.length = 1) : IsPts w A (q.drop 1) := fun hp => by rw [List.length_drop] at hp; omega

/-- The first item, and nothing older has turned. -/
abbrev FstS (w : World) (b o : Nat) (x y : Int) (w' : World) : Prop := w'.cell? ⟨b, o, none⟩ = some (.int .i64 x) ∧ w'.cell? ⟨b, o + 1, none⟩ = some (.int .i64 y) ∧ Below w.heap.size w w'

end Go.Proofs.Ytcaamhoakhgnhaa
