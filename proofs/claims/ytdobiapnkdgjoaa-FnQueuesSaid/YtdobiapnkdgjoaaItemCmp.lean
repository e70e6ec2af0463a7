/-
  What cmp.Compare, cmp.Or (of two), impl.Item.compare and spec.l06Cmp compute: the order of items.
-/
import Derived.Test.YtdobiapnkdgjoaaItems
import Derived.Test.YtdobiapnkdgjoaaNetSpec
namespace Go.Proofs.Ytdobiapnkdgjoaa
open Go.RowKit Go.Deep

/-- Two numbers held against each other. -/
def cp (x y : Int) : Int := if x < y then -1 else if y < x then 1 else 0
/-- Two items held against each other: by Key, then by Id. -/
def cmpI (a b : Int × Int) : Int := if cp a.1 b.1 ≠ 0 then cp a.1 b.1 else cp a.2 b.2

theorem cp_bd (x y : Int) : -1 ≤ cp x y ∧ cp x y ≤ 1 := by unfold cp; split <;> (try split) <;> omega
theorem cp_zero {x y : Int} : cp x y = 0 ↔ x = y := by unfold cp; split <;> (try split) <;> omega
theorem cp_neg {x y : Int} : cp x y < 0 ↔ x < y := by unfold cp; split <;> (try split) <;> omega
theorem cmpI_bd (a b : Int × Int) : -1 ≤ cmpI a b ∧ cmpI a b ≤ 1 := by unfold cmpI; split <;> exact cp_bd _ _
/-- One item ahead of another. -/
def ltI (a b : Int × Int) : Prop := a.1 < b.1 ∨ a.1 = b.1 ∧ a.2 < b.2
theorem cmpI_neg {a b : Int × Int} : cmpI a b < 0 ↔ ltI a b := by
  unfold cmpI ltI
  by_cases h : a.1 = b.1
  · rw [if_neg (by rw [ne_eq, cp_zero, Classical.not_not]; exact h), cp_neg]; omega
  · rw [if_pos (by rw [ne_eq, cp_zero]; exact h), cp_neg]; omega
theorem cmpI_zero {a b : Int × Int} : cmpI a b = 0 ↔ a = b := by
  unfold cmpI
  by_cases h : a.1 = b.1
  · rw [if_neg (by rw [ne_eq, cp_zero, Classical.not_not]; exact h), cp_zero, Prod.ext_iff]; exact ⟨fun k => ⟨h, k⟩, fun k => k.2⟩
  · have h' : cp a.1 b.1 ≠ 0 := by rw [ne_eq, cp_zero]; exact h
    rw [if_pos h', Prod.ext_iff]; exact ⟨fun k => absurd k h', fun k => absurd k.1 h⟩
theorem ltI_irr (a : Int × Int) : ¬ ltI a a := by unfold ltI; omega
theorem ltI_trans {a b c : Int × Int} (h1 : ltI a b) (h2 : ltI b c) : ltI a c := by unfold ltI at *; omega
theorem ltI_tri {a b : Int × Int} (h : ¬ ltI a b) (hne : a ≠ b) : ltI b a := by
  unfold ltI at *
  have : ¬ (a.1 = b.1 ∧ a.2 = b.2) := fun k => hne (Prod.ext k.1 k.2)
  omega

theorem compare_int (x y : Int) (w : World) : Calls Try.prog 125 #[.int .i64 x, .int .i64 y] w fun e w' => e = .returned (.int .i64 (cp x y)) ∧ w = w' := by
  unfold cp
  by_cases h : x < y
  · rw [if_pos h]
    go_enter Try.func125, Try.ntmps125
    go_wp2
    go_ret
    exact ⟨rfl, rfl⟩
  · rw [if_neg h]
    by_cases h2 : y < x
    · rw [if_pos h2]
      go_enter Try.func125, Try.ntmps125
      go_wp2
      go_ret
      exact ⟨rfl, rfl⟩
    · rw [if_neg h2]
      go_enter Try.func125, Try.ntmps125
      go_wp2
      go_ret
      exact ⟨rfl, rfl⟩

/-- How far cmp.Or has looked. -/
def OrR (a : Int) (i : Value) : Prop := i = .int .i64 0 ∨ i = .int .i64 1 ∧ a = 0 ∨ i = .int .i64 2 ∧ a = 0
def orI (a b : Int) : Int := if a ≠ 0 then a else b
set_option maxHeartbeats 1000000 in
theorem or_two (L : Nat) (a b : Int) (w : World) (h0 : w.cell? ⟨L, 0, none⟩ = some (.int .i64 a)) (h1 : w.cell? ⟨L, 1, none⟩ = some (.int .i64 b)) :
    Calls Try.prog 124 #[.slice (some ⟨L, 0, none⟩) 2 2] w fun e w' => e = .returned (.int .i64 (orI a b)) ∧ w = w' := by
  by_cases ha : a = 0
  · have HQ := Lib.hid (show orI a b = b by unfold orI; rw [if_neg (by omega)])
    subst ha
    by_cases hb : b = 0
    · subst hb
      go_enter Try.func124, Try.ntmps124
      go_wp2
      go_loop [8] (fun i => OrR 0 i) (fun i => (2 - intOf i).toNat)
      case atStart => exact .inl rfl
      case round =>
        rcases hrel with rfl | ⟨rfl, -⟩ | ⟨rfl, -⟩
        · go_wp2
          go_round
          case rel => exact .inr (.inl ⟨rfl, rfl⟩)
          case measure => simp [intOf]
        · go_wp2
          go_round
          case rel => exact .inr (.inr ⟨rfl, rfl⟩)
          case measure => simp [intOf]
        · go_wp2
          go_ret
          exact ⟨by rw [HQ.out]; rfl, rfl⟩
    · have hb' : (b != 0) = true := by simpa using hb
      go_enter Try.func124, Try.ntmps124
      go_wp2
      go_loop [8] (fun i => i = .int .i64 0 ∨ i = .int .i64 1) (fun i => (2 - intOf i).toNat)
      case atStart => exact .inl rfl
      case round =>
        rcases hrel with rfl | rfl
        · go_wp2
          go_round
          case rel => exact .inr rfl
          case measure => simp [intOf]
        · go_wp2
          go_ret
          exact ⟨by rw [HQ.out]; rfl, rfl⟩
  · have HQ := Lib.hid (show orI a b = a by unfold orI; rw [if_pos ha])
    have ha' : (a != 0) = true := by simpa using ha
    go_enter Try.func124, Try.ntmps124
    go_wp2
    refine wp_loop_rounds 1 ?_; rw [rounds_succ]
    go_wp2
    go_ret
    exact ⟨by rw [HQ.out]; rfl, rfl⟩

theorem two_new (W : World) (a b : Int) : (W.alloc (.cells #[.int .i64 a, .int .i64 b] 3)).drew.cell? ⟨W.heap.size, 0, none⟩ = some (.int .i64 a) ∧ (W.alloc (.cells #[.int .i64 a, .int .i64 b] 3)).drew.cell? ⟨W.heap.size, 1, none⟩ = some (.int .i64 b) :=
  ⟨(cell_of_block (heap_alloc_new W _)).trans rfl, (cell_of_block (heap_alloc_new W _)).trans rfl⟩

/-- The boxes of two items. -/
abbrev TwoS (b1 b2 : Nat) (x y x' y' : Int) (w : World) : Prop := (w.cell? ⟨b1, 0, none⟩ = some (.int .i64 x) ∧ w.cell? ⟨b1, 1, none⟩ = some (.int .i64 y)) ∧ w.cell? ⟨b2, 0, none⟩ = some (.int .i64 x') ∧ w.cell? ⟨b2, 1, none⟩ = some (.int .i64 y')
theorem TwoS.under {b1 b2 : Nat} {x y x' y' : Int} {w w' : World} (hb : Below w.heap.size w w') (h : TwoS b1 b2 x y x' y' w) : TwoS b1 b2 x y x' y' w' := ⟨⟨cell_under hb h.1.1, cell_under hb h.1.2⟩, cell_under hb h.2.1, cell_under hb h.2.2⟩

set_option maxRecDepth 100000 in
set_option maxHeartbeats 2000000 in
theorem itemCmp_any (x y x' y' : Int) (w : World) : Calls Try.prog 80 #[.agg #[.int .i64 x, .int .i64 y], .agg #[.int .i64 x', .int .i64 y']] w fun e w' => e = .returned (.int .i64 (cmpI (x, y) (x', y'))) ∧ Below w.heap.size w w' := by
  have K := below2 w (.cells #[.int .i64 x, .int .i64 y] 45) (.cells #[.int .i64 x', .int .i64 y'] 45)
  have T : TwoS w.heap.size (w.heap.size + 1) x y x' y' ((w.alloc (.cells #[.int .i64 x, .int .i64 y] 45)).alloc (.cells #[.int .i64 x', .int .i64 y'] 45)) := by
    obtain ⟨a0, a1, -, -⟩ := ((Pair.new w 45 (.int .i64 x) (.int .i64 y)).alloc (.cells #[.int .i64 x', .int .i64 y'] 45)).cells
    obtain ⟨b0, b1, -, -⟩ := (Pair.new (w.alloc (.cells #[.int .i64 x, .int .i64 y] 45)) 45 (.int .i64 x') (.int .i64 y')).cells
    rw [World.size_alloc] at b0 b1
    exact ⟨⟨a0, a1⟩, b0, b1⟩
  obtain ⟨W, hW⟩ : ∃ W, W = (w.alloc (.cells #[.int .i64 x, .int .i64 y] 45)).alloc (.cells #[.int .i64 x', .int .i64 y'] 45) := ⟨_, rfl⟩
  rw [← hW] at K T
  have HW := Lib.hid hW
  clear hW
  go_enter Try.func80, Try.ntmps80
  go_wp2_with fail
  rw [← HW.out]
  clear HW
  go_region_held3 (fun w' => TwoS w.heap.size (w.heap.size + 1) x y x' y' w')
    (first | exact T | exact TwoS.under (w := W) ((below1 W _).drew) T | assumption)
    (first
      | (go_at_call 125; refine (compare_int _ _ _).mono ?_; rintro e w1 ⟨rfl, rfl⟩)
      | (go_at_call 124; refine (or_two W.heap.size (cp x x') (cp y y') _ (two_new W _ _).1 (two_new W _ _).2).mono ?_; rintro e w2 ⟨rfl, rfl⟩))
  have K2 := K.trans (((below1 W (.cells #[.int .i64 (cp x x'), .int .i64 (cp y y')] 3)).drew).mono K.size)
  go_wp2
  go_ret
  exact ⟨rfl, K2⟩

theorem l06Cmp_any (x y x' y' : Int) (w : World) : Calls Try.prog 93 #[.agg #[.int .i64 x, .int .i64 y], .agg #[.int .i64 x', .int .i64 y']] w fun e w' => e = .returned (.int .i64 (cmpI (x, y) (x', y'))) ∧ Below w.heap.size w w' := by
  have K := below2 w (.cells #[.int .i64 x, .int .i64 y] 45) (.cells #[.int .i64 x', .int .i64 y'] 45)
  obtain ⟨q, HQ⟩ : ∃ q, Hid (cmpI (x, y) (x', y') = q) := ⟨_, Lib.hid rfl⟩
  rw [HQ.out]
  have HC := HQ.out
  unfold cmpI cp at HC
  simp only at HC
  by_cases h1 : x < x'
  · have H := Lib.hid (show -1 = q by rw [← HC]; simp [h1])
    clear HC
    go_enter Try.func93, Try.ntmps93
    go_wp2_with fail
    try go_quiet (fail)
    go_wp2
    go_ret
    exact ⟨retI H.out, by first | exact K | exact below_drewN K _⟩
  · by_cases h2 : x' < x
    · have H := Lib.hid (show 1 = q by rw [← HC]; simp [h1, h2])
      clear HC
      go_enter Try.func93, Try.ntmps93
      go_wp2_with fail
      try go_quiet (fail)
      go_wp2
      go_ret
      exact ⟨retI H.out, by first | exact K | exact below_drewN K _⟩
    · by_cases h3 : y < y'
      · have H := Lib.hid (show -1 = q by rw [← HC]; simp [h1, h2, h3])
        clear HC
        go_enter Try.func93, Try.ntmps93
        go_wp2_with fail
        try go_quiet (fail)
        go_wp2
        go_ret
        exact ⟨retI H.out, by first | exact K | exact below_drewN K _⟩
      · by_cases h4 : y' < y
        · have H := Lib.hid (show 1 = q by rw [← HC]; simp [h1, h2, h3, h4])
          clear HC
          go_enter Try.func93, Try.ntmps93
          go_wp2_with fail
          try go_quiet (fail)
          go_wp2
          go_ret
          exact ⟨retI H.out, by first | exact K | exact below_drewN K _⟩
        · have H := Lib.hid (show 0 = q by rw [← HC]; simp [h1, h2, h3, h4])
          clear HC
          go_enter Try.func93, Try.ntmps93
          go_wp2_with fail
          try go_quiet (fail)
          go_wp2
          go_ret
          exact ⟨retI H.out, by first | exact K | exact below_drewN K _⟩

end Go.Proofs.Ytdobiapnkdgjoaa
