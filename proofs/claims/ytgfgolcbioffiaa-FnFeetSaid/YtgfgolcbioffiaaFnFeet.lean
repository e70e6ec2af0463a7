/-
  For every slice of bytes the law FnFeet returns true: Foot and Along of the points drawn from it are the specification's; no end of a segment is nearer than its foot by more than two; Along is between the ends (no condition).
-/
import Derived.Test.YtgfgolcbioffiaaRows
import Derived.WalkKit
import Derived.ProofKit
import Derived.OpenShut
import Derived.ShutString
import Derived.ChangeOld
import Derived.Below
import Derived.Test.YtgfgolcbioffiaaFeetMath
import Derived.Test.YtgfgolcbioffiaaFootSp
import Derived.Test.YtgfgolcbioffiaaFootCuts
import Derived.Test.YtgfgolcbioffiaaDrawAlong
import Derived.Deep.DeepCutAuto
namespace Go.Proofs.Ytgfgolcbioffiaa.fnFeet
open Go.ChangeShapes Go.WideShapes Go.ChangeAt Go.RowKit
open Go.ChangeMaps (open_string shut_string)
set_option linter.unusedVariables false

theorem own : ownKnob Try.prog.godebug = none := by kernel_rfl
theorem laidOut : laidOutB Try.prog = true := by kernel_rfl

/-- WHAT THE WALK IS TOLD OF A SLICE OF INTEGERS THAT CAME IN: it is nil; or it leads to a row of 'cap' cells, the numbers 'zs' (the first 'len' are its elements, the rest its spare room), each fitting its kind. -/
def IsRow (k : IntKind) (w : World) (a : Option Addr) (len cap : Nat) (zs : List Int) : Prop :=
  (a = none ∧ len = 0 ∧ cap = 0 ∧ zs = []) ∨
  ∃ x, a = some x ∧ len ≤ cap ∧ cap ≤ maxLen ∧ zs.length = cap ∧ (∀ i, i < zs.length → w.cell? (x.add i) = some (.int k (zs.getD i 0))) ∧ ∀ n ∈ zs, (Lit.int k n).wf = true

theorem implAlong_a {ax ay bx by_ l : Int} (ha : ptB ax ay = true) (hb : ptB bx by_ = true) (h0 : 0 ≤ l) (h1 : l ≤ 1000000) (w : World) :
    Calls Try.prog 13 #[.agg #[.int .i64 ax, .int .i64 ay], .agg #[.int .i64 bx, .int .i64 by_], .agg #[.int .i64 ax, .int .i64 ay], .int .i64 l] w fun e w' => e = .returned (.int .i64 0) ∧ Below w.heap.size w w' := by
  have h := implAlong_any ax ay bx by_ ax ay l w
  rw [al_ok ha hb ha h0 h1, al_a] at h
  exact h
theorem implAlong_b {ax ay bx by_ l : Int} (ha : ptB ax ay = true) (hb : ptB bx by_ = true) (hne : ¬ (ax = bx ∧ ay = by_)) (h0 : 0 ≤ l) (h1 : l ≤ 1000000) (w : World) :
    Calls Try.prog 13 #[.agg #[.int .i64 ax, .int .i64 ay], .agg #[.int .i64 bx, .int .i64 by_], .agg #[.int .i64 bx, .int .i64 by_], .int .i64 l] w fun e w' => e = .returned (.int .i64 l) ∧ Below w.heap.size w w' := by
  have h := implAlong_any ax ay bx by_ bx by_ l w
  rw [al_ok ha hb hb h0 h1, al_b ha hb hne] at h
  exact h
theorem implFoot_a {ax ay bx by_ : Int} (ha : ptB ax ay = true) (hb : ptB bx by_ = true) (w : World) :
    Calls Try.prog 12 #[.agg #[.int .i64 ax, .int .i64 ay], .agg #[.int .i64 bx, .int .i64 by_], .agg #[.int .i64 ax, .int .i64 ay]] w fun e w' => e = .returned (.agg #[.int .i64 ax, .int .i64 ay]) ∧ Below w.heap.size w w' := by
  have h := implFoot_any ax ay bx by_ ax ay w
  rw [fX_ok ha hb ha, fY_ok ha hb ha, foot_a.1, foot_a.2] at h
  exact h
theorem implFoot_b {ax ay bx by_ : Int} (ha : ptB ax ay = true) (hb : ptB bx by_ = true) (hne : ¬ (ax = bx ∧ ay = by_)) (w : World) :
    Calls Try.prog 12 #[.agg #[.int .i64 ax, .int .i64 ay], .agg #[.int .i64 bx, .int .i64 by_], .agg #[.int .i64 bx, .int .i64 by_]] w fun e w' => e = .returned (.agg #[.int .i64 bx, .int .i64 by_]) ∧ Below w.heap.size w w' := by
  have h := implFoot_any ax ay bx by_ bx by_ w
  rw [fX_ok ha hb hb, fY_ok ha hb hb, (foot_b ha hb hne).1, (foot_b ha hb hne).2] at h
  exact h

/-! ### STEP 1: THE WALK: the Go text returns true, AND WRITES NOTHING THAT WAS THERE: 'Below w.heap.size w w'' (Derived/Below.lean: '.refl', '.alloc', '.drew', '.setCell' at a new block, '.trans'). Open each 'IsRow' by 'rcases' AHEAD of 'go_enter'; part every test ahead of the walk. -/
set_option maxHeartbeats 4000000 in
set_option maxRecDepth 100000 in
theorem walk (a0 : Option Addr) (len0 cap0 : Nat) (z0 : List Int) (w : World) (w0 : IsRow .u8 w a0 len0 cap0 z0) :
    Calls Try.prog 3 #[.slice a0 len0 cap0] w fun e w' => e = .returned (.bool true) ∧ Below w.heap.size w w' := by
  have hcode := codeIn_of w0
  clear w0
  by_cases hbig : 1048576 < len0
  · have hd : decide ((1048576 : Int) < len0) = true := by simp; omega
    go_enter Try.func3, Try.ntmps3
    go_wp2_with (go_at_call 10; refine (big_any _ _ _ _).mono ?_; rintro e w' ⟨rfl, rfl⟩)
    go_ret
    exact ⟨rfl, Below.refl _ _⟩
  · have hd : decide ((1048576 : Int) < len0) = false := by simp; omega
    go_enter Try.func3, Try.ntmps3
    go_wp2_with fail
    refine (big_any _ _ _ _).mono ?_; rintro e w' ⟨rfl, rfl⟩
    go_wp2_with fail
    refine (drawAlong_any w a0 len0 cap0 hcode (by omega)).mono ?_
    rintro e w1 ⟨ax, ay, bx, by_, px, py, l, rfl, hin, b1⟩
    obtain ⟨p0, p1, p2, b2⟩ := boxed3 w1 ax ay bx by_ px py 25
    have T : Tri w w1.heap.size (w1.heap.size + 1) (w1.heap.size + 2) ax ay bx by_ px py _ := ⟨p0.2.1, p0.2.2, p1.2.1, p1.2.2, p2.2.1, p2.2.2, b1.trans (b2.mono b1.size)⟩
    clear b1 b2 p0 p1 p2 hcode hbig
    go_wp2_with fail
    refine (implFoot_any _ _ _ _ _ _ _).mono ?_; rintro e w2 ⟨rfl, b2⟩
    replace T := T.below b2
    clear b2
    have F : TT w w1.heap.size (w1.heap.size + 1) (w1.heap.size + 2) ax ay bx by_ px py w2.heap.size (fX ax ay bx by_ px py) (fY ax ay bx by_ px py) (w2.alloc (.cells #[.int .i64 (fX ax ay bx by_ px py), .int .i64 (fY ax ay bx by_ px py)] 25)) := ⟨T.alloc _, Two.new _ _ _ _⟩
    obtain ⟨c0, c1, c2, c3, c4, c5, -⟩ := T
    have l2 : w1.heap.size < w2.heap.size := by simpa using World.block_lt_of_cell? w2 _ c0
    have l3 : w1.heap.size + 1 < w2.heap.size := by simpa using World.block_lt_of_cell? w2 _ c2
    have l4 : w1.heap.size + 2 < w2.heap.size := by simpa using World.block_lt_of_cell? w2 _ c4
    go_wp2_with fail
    clear c0 c1 c2 c3 c4 c5 l2 l3 l4
    refine (implAlong_any _ _ _ _ _ _ _ _).mono ?_; rintro e w3 ⟨rfl, b3⟩
    replace F := TT.under b3 F
    clear b3
    go_wp2_with fail
    go_region_held3 (fun w' => TT w w1.heap.size (w1.heap.size + 1) (w1.heap.size + 2) ax ay bx by_ px py w2.heap.size (fX ax ay bx by_ px py) (fY ax ay bx by_ px py) w') (first | exact TT.drew F | (refine TT.under (by assumption) ?_; assumption))
      (first
        | (go_at_call 14; refine (specFoot_any _ _ _ _ _ _ _).mono ?_; rintro e w4 ⟨rfl, b4⟩)
        | (go_at_call 15; refine (specAlong_any _ _ _ _ _ _ _ _).mono ?_; rintro e w4 ⟨rfl, b4⟩))
    rename_i G
    clear F
    cases ha : ptB ax ay with
    | false =>
      obtain ⟨h1, h2⟩ := f_bad (ax := ax) (ay := ay) (bx := bx) (by_ := by_) (px := px) (py := py) (.inl ha)
      rw [h1, h2] at G
      have H1 := Lib.hid h1
      have H2 := Lib.hid h2
      clear h1 h2
      have G' := G
      obtain ⟨⟨c0, c1, c2, c3, c4, c5, k1⟩, -, -⟩ := G'
      go_wp2_with fail
      clear c0 c1 c2 c3 c4 c5 k1
      refine (specPtOk_any _ _ _).mono ?_; rintro e w5 ⟨rfl, b6⟩
      replace G := TT.under b6 G
      obtain ⟨⟨-, -, -, -, -, -, k6⟩, g0, g1⟩ := G
      go_wp2
      go_ret
      exact ⟨rfl, k6⟩
    | true =>
      have G' := G
      obtain ⟨⟨c0, c1, c2, c3, c4, c5, k1⟩, -, -⟩ := G'
      go_wp2_with fail
      clear c0 c1 c2 c3 c4 c5 k1
      refine (specPtOk_any _ _ _).mono ?_; rintro e w5 ⟨rfl, b6⟩
      replace G := TT.under b6 G
      clear b6
      cases hb : ptB bx by_ with
      | false =>
        obtain ⟨h1, h2⟩ := f_bad (ax := ax) (ay := ay) (bx := bx) (by_ := by_) (px := px) (py := py) (.inr (.inl hb))
        rw [h1, h2] at G
        have H1 := Lib.hid h1
        have H2 := Lib.hid h2
        clear h1 h2
        have G' := G
        obtain ⟨⟨c0, c1, c2, c3, c4, c5, k1⟩, -, -⟩ := G'
        go_wp2_with fail
        clear c0 c1 c2 c3 c4 c5 k1
        refine (specPtOk_any _ _ _).mono ?_; rintro e w6 ⟨rfl, b6⟩
        replace G := TT.under b6 G
        obtain ⟨⟨-, -, -, -, -, -, k6⟩, g0, g1⟩ := G
        go_wp2
        go_ret
        exact ⟨rfl, k6⟩
      | true =>
        have G' := G
        obtain ⟨⟨c0, c1, c2, c3, c4, c5, k1⟩, -, -⟩ := G'
        go_wp2_with fail
        clear c0 c1 c2 c3 c4 c5 k1
        refine (specPtOk_any _ _ _).mono ?_; rintro e w6 ⟨rfl, b6⟩
        replace G := TT.under b6 G
        clear b6
        cases hp : ptB px py with
        | false =>
          obtain ⟨h1, h2⟩ := f_bad (ax := ax) (ay := ay) (bx := bx) (by_ := by_) (px := px) (py := py) (.inr (.inr hp))
          rw [h1, h2] at G
          have H1 := Lib.hid h1
          have H2 := Lib.hid h2
          clear h1 h2
          have G' := G
          obtain ⟨⟨c0, c1, c2, c3, c4, c5, k1⟩, -, -⟩ := G'
          go_wp2_with fail
          clear c0 c1 c2 c3 c4 c5 k1
          refine (specPtOk_any _ _ _).mono ?_; rintro e w7 ⟨rfl, b6⟩
          replace G := TT.under b6 G
          obtain ⟨⟨-, -, -, -, -, -, k6⟩, g0, g1⟩ := G
          go_wp2
          go_ret
          exact ⟨rfl, k6⟩
        | true =>
          have G' := G
          obtain ⟨⟨c0, c1, c2, c3, c4, c5, k1⟩, -, -⟩ := G'
          go_wp2_with fail
          clear c0 c1 c2 c3 c4 c5 k1
          refine (specPtOk_any _ _ _).mono ?_; rintro e w7 ⟨rfl, b6⟩
          replace G := TT.under b6 G
          clear b6
          have hn : rt (d2 px py (fX ax ay bx by_ px py) (fY ax ay bx by_ px py)) ≤ rt (d2 px py ax ay) + 2 ∧ rt (d2 px py (fX ax ay bx by_ px py) (fY ax ay bx by_ px py)) ≤ rt (d2 px py bx by_) + 2 := by
            rw [fX_ok ha hb hp, fY_ok ha hb hp]; exact feet_near ha hb hp
          obtain ⟨hn1, hn2⟩ := hn
          have ra := rt_small (d2_bd px py ax ay).1 (d2_bd px py ax ay).2
          have rb := rt_small (d2_bd px py bx by_).1 (d2_bd px py bx by_).2
          obtain ⟨ra1, ra2, -, -⟩ := ra
          obtain ⟨rb1, rb2, -, -⟩ := rb
          have G' := G
          obtain ⟨⟨c0, c1, c2, c3, c4, c5, k1⟩, g0, g1⟩ := G'
          go_wp2_with fail
          clear c0 c1 c2 c3 c4 c5 k1 g0 g1
          refine (implDistOf_any _ _ _ _ _).mono ?_; rintro e w8 ⟨rfl, b8⟩
          replace G := TT.under b8 G
          clear b8
          have G' := G
          obtain ⟨⟨c0, c1, c2, c3, c4, c5, k1⟩, -, -⟩ := G'
          go_wp2_with fail
          clear c0 c1 c2 c3 c4 c5 k1
          refine (implDistOf_any _ _ _ _ _).mono ?_; rintro e w9 ⟨rfl, b9⟩
          replace G := TT.under b9 G
          clear b9
          have G' := G
          obtain ⟨⟨c0, c1, c2, c3, c4, c5, k1⟩, -, -⟩ := G'
          go_wp2_with fail
          clear c0 c1 c2 c3 c4 c5 k1
          refine (implDistOf_any _ _ _ _ _).mono ?_; rintro e w10 ⟨rfl, b10⟩
          replace G := TT.under b10 G
          clear b10
          by_cases h0 : l < 0
          · have HA := Lib.hid (al_bad (ax := ax) (ay := ay) (bx := bx) (by_ := by_) (px := px) (py := py) (.inr (.inr (.inr (.inl h0)))))
            obtain ⟨⟨c0, c1, c2, c3, c4, c5, k1⟩, -, -⟩ := G
            rw [HA.out]
            go_wp2
            go_ret
            exact ⟨rfl, k1⟩
          · by_cases h1 : 1000000 < l
            · have HA := Lib.hid (al_bad (ax := ax) (ay := ay) (bx := bx) (by_ := by_) (px := px) (py := py) (.inr (.inr (.inr (.inr h1)))))
              obtain ⟨⟨c0, c1, c2, c3, c4, c5, k1⟩, -, -⟩ := G
              rw [HA.out]
              go_wp2
              go_ret
              exact ⟨rfl, k1⟩
            · have h0' : 0 ≤ l := by omega
              have h1' : l ≤ 1000000 := by omega
              have hr : 0 ≤ al ax ay bx by_ px py l ∧ al ax ay bx by_ px py l ≤ l := by rw [al_ok ha hb hp h0' h1']; exact al_range h0' h1'
              obtain ⟨hr1, hr2⟩ := hr
              by_cases hx : ax = bx
              · subst hx
                by_cases hy : ay = by_
                · subst hy
                  have HA := Lib.hid (al_same ax ay px py l)
                  obtain ⟨⟨c0, c1, c2, c3, c4, c5, k1⟩, -, -⟩ := G
                  rw [HA.out]
                  clear hr1 hr2
                  go_wp2
                  go_ret
                  exact ⟨rfl, k1⟩
                · skip
                  have G' := G
                  obtain ⟨⟨c0, c1, c2, c3, c4, c5, k1⟩, -, -⟩ := G'
                  go_wp2_with fail
                  clear c0 c1 c2 c3 c4 c5 k1
                  replace G := G.1
                  go_region_held3 (fun w' => Tri w w1.heap.size (w1.heap.size + 1) (w1.heap.size + 2) ax ay ax by_ px py w') (first | exact Tri.drew G | (refine Tri.under (by assumption) ?_; assumption))
                    (first
                      | ((go_at_call 13; with_reducible refine (implAlong_a ha hb h0' h1' _).mono ?_); rintro e w11 ⟨rfl, b11⟩)
                      | ((go_at_call 13; refine (implAlong_b (bx := ax) (by_ := by_) ha hb (fun h => hy h.2) h0' h1' _).mono ?_); rintro e w11 ⟨rfl, b11⟩)
                      | ((go_at_call 12; with_reducible refine (implFoot_a ha hb _).mono ?_); rintro e w11 ⟨rfl, b11⟩)
                      | ((go_at_call 12; refine (implFoot_b (bx := ax) (by_ := by_) ha hb (fun h => hy h.2) _).mono ?_); rintro e w11 ⟨rfl, b11⟩))
                  rename_i hU
                  obtain ⟨-, -, -, -, -, -, k⟩ := hU
                  go_wp2
                  go_ret
                  exact ⟨rfl, k⟩
              · have HNE := Lib.hid (show ¬ (ax = bx ∧ ay = by_) from fun h => hx h.1)
                have G' := G
                obtain ⟨⟨c0, c1, c2, c3, c4, c5, k1⟩, -, -⟩ := G'
                go_wp2_with fail
                clear c0 c1 c2 c3 c4 c5 k1
                replace G := G.1
                go_region_held3 (fun w' => Tri w w1.heap.size (w1.heap.size + 1) (w1.heap.size + 2) ax ay bx by_ px py w') (first | exact Tri.drew G | (refine Tri.under (by assumption) ?_; assumption))
                  (first
                    | ((go_at_call 13; with_reducible refine (implAlong_a ha hb h0' h1' _).mono ?_); rintro e w11 ⟨rfl, b11⟩)
                    | ((go_at_call 13; with_reducible refine (implAlong_b ha hb HNE.out h0' h1' _).mono ?_); rintro e w11 ⟨rfl, b11⟩)
                    | ((go_at_call 12; with_reducible refine (implFoot_a ha hb _).mono ?_); rintro e w11 ⟨rfl, b11⟩)
                    | ((go_at_call 12; with_reducible refine (implFoot_b ha hb HNE.out _).mono ?_); rintro e w11 ⟨rfl, b11⟩))
                rename_i hU
                obtain ⟨-, -, -, -, -, -, k⟩ := hU
                go_wp2
                go_ret
                exact ⟨rfl, k⟩

/-! ### THE ROW's STEP: WRITTEN OUT: LEAVE IT -/
set_option maxRecDepth 100000 in
theorem lifted (os : Os) (started : os.Started) (H : Type) (enc : TypeId × Value → H) :
    ReturnsInHanded {} Try.checked os 3 .any (Rows.fnFeetSpec.pre6 enc Try.prog Try.f3 Rows.fnFeetRow.domain false) (Rows.fnFeetSpec.post enc Try.prog Try.f3 false true false false) := by
  refine returnsInHanded_of_change (C := Try.checked) own started (by kernel_rfl) Try.func3
    (ChangeSpec.witness6 (enc := enc) (C := Try.checked) false ⟨#[], #[.slice none 0 0], []⟩ 8 (by kernel_rfl) (by kernel_rfl) (by kernel_rfl) (by kernel_rfl)) ?_
  intro W base args ds gs before hval0 hW hcnd _
  have hval : ∀ (j : Nat) t v, Try.f3.params[j]? = some t → args[j]? = some v → Value.okWide Try.prog W .any base t v := hval0
  have hW' := hW
  obtain ⟨p, q, hA0, hV, rfl, hfz, hnd⟩ := hW
  have hA : DataW.TrodAll enc Try.prog W 0 (fun _ => true) true Try.f3.params.toList args.toList ds p := hA0
  rw [Try.params3] at hA hval
  obtain ⟨v0, vs0, d0, ds0, p0, q0, hargs, rfl, rfl, h0, r0⟩ := trodAll_cons hA
  obtain ⟨rfl, rfl, rfl⟩ := trodAll_nil r0
  obtain rfl : args = #[v0] := by cases args; simp_all
  obtain ⟨rfl, rfl⟩ := trodVars_none hV
  obtain ⟨a0, len0, cap0, rfl⟩ := okWide_slice Try.underlying22 (hval 0 22 v0 rfl rfl)
  have k0 := h0
  have lt0 : ∀ x ∈ p0, x.block < W.heap.size := by obtain ⟨m, hm⟩ := k0; exact DataW.trod_lt m _ _ _ hm
  obtain ⟨z0, w0⟩ : ∃ zs, IsRow .u8 W a0 len0 cap0 zs := by
    obtain ⟨fuel, hf⟩ := h0
    rcases open_ints Try.underlying22 Try.underlying5 (by kernel_rfl) hf with ⟨hcs, _⟩ | ⟨x, l, c, zs, hcs, _, hl, hm, hz, _, hcell, hwz⟩
    · simp [Value.cells] at hcs
      obtain ⟨rfl, rfl, rfl⟩ := hcs
      exact ⟨[], .inl ⟨rfl, rfl, rfl, rfl⟩⟩
    · simp [Value.cells] at hcs
      obtain ⟨rfl, rfl, rfl⟩ := hcs
      exact ⟨zs, .inr ⟨_, rfl, hl, hm, by simpa using hz, hcell, hwz⟩⟩
  clear hA0 hval0
  refine (walk a0 len0 cap0 z0 W w0).mono fun e W' ⟨he, bel⟩ => ?_
  subst he
  exact ⟨_, rfl, _, _, _, [], _, [], hW', trodAll_mk1 (shut_bool Try.underlying4 _), (trodAll_cons_mk (Below.trod laidOut (by kernel_rfl) (of_decide_eq_true (by kernel_rfl)) k0 bel lt0) trodAll_mk0), rfl, bel.frame _, fun h => by cases h⟩

theorem over : Rows.fnFeetRow.holds Try.pinned (OpenSpec.ofChange Rows.fnFeetSpec) :=
  OpenClaim.holds_of_wide 3 Try.f3 rfl rfl rfl rfl rfl rfl rfl ⟨rfl, rfl, rfl, rfl, rfl⟩ rfl rfl rfl rfl rfl (by kernel_rfl) Try.func3 (by kernel_rfl)
    (of_decide_eq_true (by kernel_rfl)) (by unfold Func.isWrapper; first | (rw [if_pos (by decide +kernel)]; kernel_rfl) | (rw [if_neg (by decide +kernel)]; exact ⟨rfl, rfl⟩))
    (fun os started H enc _ => lifted os started H enc)

/-- ████ THE STATEMENT ████ -/
theorem proved : Rows.FnFeetSaid := over
#print axioms proved
end Go.Proofs.Ytgfgolcbioffiaa.fnFeet
