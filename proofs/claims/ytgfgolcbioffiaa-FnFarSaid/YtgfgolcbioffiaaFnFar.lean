/-
  For all two slices of bytes the law FnFar returns true: distances of the points drawn from them are the specification's, symmetric, satisfy the triangle inequality apart from rounding, and are 0 for equal points alone (no condition).
-/
import Derived.Test.YtgfgolcbioffiaaRows
import Derived.WalkKit
import Derived.ProofKit
import Derived.OpenShut
import Derived.ShutString
import Derived.ChangeOld
import Derived.Below
import Derived.Test.YtgfgolcbioffiaaFarMath
import Derived.Test.YtgfgolcbioffiaaFootI
import Derived.Test.YtgfgolcbioffiaaDrawPt
import Derived.Deep.DeepCutAuto
namespace Go.Proofs.Ytgfgolcbioffiaa.fnFar
open Go.ChangeShapes Go.WideShapes Go.ChangeAt Go.RowKit
open Go.ChangeMaps (open_string shut_string)
set_option linter.unusedVariables false

theorem own : ownKnob Try.prog.godebug = none := by kernel_rfl
theorem laidOut : laidOutB Try.prog = true := by kernel_rfl

/-- WHAT THE WALK IS TOLD OF A SLICE OF INTEGERS THAT CAME IN: it is nil; or it leads to a row of 'cap' cells, the numbers 'zs' (the first 'len' are its elements, the rest its spare room), each fitting its kind. -/
def IsRow (k : IntKind) (w : World) (a : Option Addr) (len cap : Nat) (zs : List Int) : Prop :=
  (a = none ∧ len = 0 ∧ cap = 0 ∧ zs = []) ∨
  ∃ x, a = some x ∧ len ≤ cap ∧ cap ≤ maxLen ∧ zs.length = cap ∧ (∀ i, i < zs.length → w.cell? (x.add i) = some (.int k (zs.getD i 0))) ∧ ∀ n ∈ zs, (Lit.int k n).wf = true

theorem implDistOf_rev (ax ay bx by_ : Int) (w : World) : Calls Try.prog 17 #[.agg #[.int .i64 bx, .int .i64 by_], .agg #[.int .i64 ax, .int .i64 ay]] w fun e w' => e = .returned (.int .i64 (rt (d2 ax ay bx by_))) ∧ Below w.heap.size w w' := by
  rw [d2_comm]; exact implDistOf_any bx by_ ax ay w

theorem far_nums {x y : Int} (hx : 0 ≤ x ∧ x ≤ 30000) (hy : 0 ≤ y ∧ y ≤ 30000) : IntKind.i64.wrap (x + y) = x + y ∧ IntKind.i64.wrap (x + y + 2) = x + y + 2 := ⟨IntWalk.i64_in _ (by omega), IntWalk.i64_in _ (by omega)⟩

/-! ### STEP 1: THE WALK: the Go text returns true, AND WRITES NOTHING THAT WAS THERE: 'Below w.heap.size w w'' (Derived/Below.lean: '.refl', '.alloc', '.drew', '.setCell' at a new block, '.trans'). Open each 'IsRow' by 'rcases' AHEAD of 'go_enter'; part every test ahead of the walk. -/
set_option maxHeartbeats 4000000 in
set_option maxRecDepth 100000 in
theorem walk (a0 : Option Addr) (len0 cap0 : Nat) (z0 : List Int) (a1 : Option Addr) (len1 cap1 : Nat) (z1 : List Int) (w : World) (w0 : IsRow .u8 w a0 len0 cap0 z0) (w1 : IsRow .u8 w a1 len1 cap1 z1) :
    Calls Try.prog 4 #[.slice a0 len0 cap0, .slice a1 len1 cap1] w fun e w' => e = .returned (.bool true) ∧ Below w.heap.size w w' := by
  have hcode := codeIn_of w0
  have hmore := codeIn_of w1
  clear w0 w1
  by_cases hbig : 1048576 < len0
  · have hd : decide ((1048576 : Int) < len0) = true := by simp; omega
    go_enter Try.func4, Try.ntmps4
    go_wp2_with (go_at_call 10; refine (big_any _ _ _ _).mono ?_; rintro e w' ⟨rfl, rfl⟩)
    go_ret
    exact ⟨rfl, Below.refl _ _⟩
  · have hd : decide ((1048576 : Int) < len0) = false := by simp; omega
    by_cases hbig1 : 1048576 < len1
    · have hd1 : decide ((1048576 : Int) < len1) = true := by simp; omega
      go_enter Try.func4, Try.ntmps4
      go_wp2_with (go_at_call 10; refine (big_any _ _ _ _).mono ?_; rintro e w' ⟨rfl, rfl⟩)
      go_ret
      exact ⟨rfl, Below.refl _ _⟩
    · have hd1 : decide ((1048576 : Int) < len1) = false := by simp; omega
      go_enter Try.func4, Try.ntmps4
      go_wp2_with fail
      refine (big_any _ _ _ _).mono ?_; rintro e w' ⟨rfl, rfl⟩
      go_wp2_with fail
      refine (big_any _ _ _ _).mono ?_; rintro e w' ⟨rfl, rfl⟩
      go_wp2_with fail
      refine (drawDistOf_any w a0 len0 cap0 hcode (by omega)).mono ?_
      rintro e w1 ⟨ax, ay, bx, by_, rfl, hax, hay, hbx, hby, b1⟩
      obtain ⟨p0, p1, b2⟩ := boxed2 w1 ax ay bx by_ 25
      replace b2 := b1.trans (b2.mono b1.size)
      clear b1
      obtain ⟨W2, hW2⟩ : ∃ W2, W2 = (w1.alloc (.cells #[.int .i64 ax, .int .i64 ay] 25)).alloc (.cells #[.int .i64 bx, .int .i64 by_] 25) := ⟨_, rfl⟩
      rw [← hW2] at p0 p1 b2
      have HW2 := Lib.hid hW2
      clear hW2 hax hay hbx hby
      go_wp2_with fail
      rw [← HW2.out]
      refine (drawDistOf_any W2 a1 len1 cap1 (hmore.below b2) (by omega)).mono ?_
      rintro e w2 ⟨cx, cy, dx, dy, rfl, hcx, hcy, hdx, hdy, b3⟩
      replace p0 := p0.below b3
      replace p1 := p1.below b3
      replace b3 := b2.trans (b3.mono b2.size)
      obtain ⟨f0, f1⟩ := p0.cells
      obtain ⟨f2, f3⟩ := p1.cells
      have l0 := p0.1
      have l1 := p1.1
      obtain ⟨p2, -, b4⟩ := boxed2 w2 cx cy dx dy 25
      obtain ⟨W3, hW3⟩ : ∃ W3, W3 = (w2.alloc (.cells #[.int .i64 cx, .int .i64 cy] 25)).alloc (.cells #[.int .i64 dx, .int .i64 dy] 25) := ⟨_, rfl⟩
      rw [← hW3] at p2 b4
      replace p0 := p0.below b4
      replace p1 := p1.below b4
      replace b4 := b3.trans (b4.mono b3.size)
      have T : Tri w w1.heap.size (w1.heap.size + 1) w2.heap.size ax ay bx by_ cx cy W3 := ⟨p0.2.1, p0.2.2, p1.2.1, p1.2.2, p2.2.1, p2.2.2, b4⟩
      have HW3 := Lib.hid hW3
      clear hW3 HW2 b2 b3 b4 p0 p1 p2 hcx hcy hdx hdy hcode hmore
      go_wp2_with fail
      rw [← HW3.out]
      clear HW3 f0 f1 f2 f3 l0 l1
      refine (implDistOf_any _ _ _ _ _).mono ?_; rintro e w4 ⟨rfl, b5⟩
      replace T := T.below b5
      clear b5
      go_wp2_with fail
      go_region_held3 (fun w' => Tri w w1.heap.size (w1.heap.size + 1) w2.heap.size ax ay bx by_ cx cy w') (first | exact Tri.drew T | (refine Tri.under (by assumption) ?_; assumption))
        (first
          | (go_at_call 17; refine (implDistOf_rev _ _ _ _ _).mono ?_; rintro e w5 ⟨rfl, b5⟩)
          | (go_at_call 19; refine (specDistOf_any _ _ _ _ _).mono ?_; rintro e w5 ⟨rfl, b5⟩)
          | (go_at_call 20; refine (implDist2_any _ _ _ _ _).mono ?_; rintro e w5 ⟨rfl, b5⟩)
          | (go_at_call 21; refine (specDist2_any _ _ _ _ _).mono ?_; rintro e w5 ⟨rfl, b5⟩))
      rename_i hT
      clear T
      replace hT := hT
      cases ha : ptB ax ay with
      | false =>
        obtain ⟨c0, c1, c2, c3, c4, c5, k1⟩ := hT
        go_wp2_with fail
        refine (specPtOk_any _ _ _).mono ?_; rintro e w6 ⟨rfl, b6⟩
        have k6 := k1.trans (b6.mono k1.size)
        go_wp2
        go_ret
        exact ⟨rfl, k6⟩
      | true =>
        have T' := hT
        obtain ⟨c0, c1, c2, c3, c4, c5, k1⟩ := T'
        go_wp2_with fail
        clear c0 c1 c2 c3 c4 c5 k1
        refine (specPtOk_any _ _ _).mono ?_; rintro e w6 ⟨rfl, b6⟩
        replace hT := hT.below b6
        clear b6
        cases hb : ptB bx by_ with
        | false =>
          obtain ⟨c0, c1, c2, c3, c4, c5, k1⟩ := hT
          go_wp2_with fail
          refine (specPtOk_any _ _ _).mono ?_; rintro e w7 ⟨rfl, b7⟩
          have k7 := k1.trans (b7.mono k1.size)
          go_wp2
          go_ret
          exact ⟨rfl, k7⟩
        | true =>
          have T' := hT
          obtain ⟨c0, c1, c2, c3, c4, c5, k1⟩ := T'
          go_wp2_with fail
          clear c0 c1 c2 c3 c4 c5 k1
          refine (specPtOk_any _ _ _).mono ?_; rintro e w7 ⟨rfl, b7⟩
          replace hT := hT.below b7
          clear b7
          cases hc : ptB cx cy with
          | false =>
            obtain ⟨c0, c1, c2, c3, c4, c5, k1⟩ := hT
            go_wp2_with fail
            refine (specPtOk_any _ _ _).mono ?_; rintro e w8 ⟨rfl, b8⟩
            have k8 := k1.trans (b8.mono k1.size)
            go_wp2
            go_ret
            exact ⟨rfl, k8⟩
          | true =>
            have T' := hT
            obtain ⟨c0, c1, c2, c3, c4, c5, k1⟩ := T'
            go_wp2_with fail
            clear c0 c1 c2 c3 c4 c5 k1
            refine (specPtOk_any _ _ _).mono ?_; rintro e w8 ⟨rfl, b8⟩
            replace hT := hT.below b8
            clear b8
            have ht := rt_tri ha hb hc
            have hx1 := rt_small (d2_bd ax ay cx cy).1 (d2_bd ax ay cx cy).2
            have hx2 := rt_small (d2_bd cx cy bx by_).1 (d2_bd cx cy bx by_).2
            obtain ⟨e1, e2⟩ := far_nums ⟨hx1.1, hx1.2.1⟩ ⟨hx2.1, hx2.2.1⟩
            have hle : decide (rt (d2 ax ay bx by_) ≤ rt (d2 ax ay cx cy) + rt (d2 cx cy bx by_) + 2) = true := decide_eq_true (by omega)
            have E1 := Lib.hid e1; have E2 := Lib.hid e2; have HLE := Lib.hid hle
            clear e1 e2 hle ht hx1 hx2
            have hz := d2_zero ha hb
            have HZ := Lib.hid hz
            clear hz
            go_wp2_with fail
            have e1 := E1.out; have e2 := E2.out; have hle := HLE.out
            by_cases hx : ax = bx
            rotate_left
            · have hnz : (d2 ax ay bx by_ == 0) = false := by rw [beq_eq_false_iff_ne]; exact fun h => hx (HZ.out.1 h).1
              go_region_held3 (fun w' => Tri w w1.heap.size (w1.heap.size + 1) w2.heap.size ax ay bx by_ cx cy w') (first | exact Tri.drew hT | (refine Tri.under (by assumption) ?_; assumption))
                (first
                  | (go_at_call 17; refine (implDistOf_any _ _ _ _ _).mono ?_; rintro e w9 ⟨rfl, b9⟩)
                  | (go_at_call 20; refine (implDist2_any _ _ _ _ _).mono ?_; rintro e w9 ⟨rfl, b9⟩))
              rename_i hU
              obtain ⟨-, -, -, -, -, -, k⟩ := hU
              go_wp2
              go_ret
              exact ⟨rfl, k⟩
            · subst hx
              by_cases hy : ay = by_
              rotate_left
              · have hnz : (d2 ax ay ax by_ == 0) = false := by rw [beq_eq_false_iff_ne]; exact fun h => hy (HZ.out.1 h).2
                go_region_held3 (fun w' => Tri w w1.heap.size (w1.heap.size + 1) w2.heap.size ax ay ax by_ cx cy w') (first | exact Tri.drew hT | (refine Tri.under (by assumption) ?_; assumption))
                  (first
                    | (go_at_call 17; refine (implDistOf_any _ _ _ _ _).mono ?_; rintro e w9 ⟨rfl, b9⟩)
                    | (go_at_call 20; refine (implDist2_any _ _ _ _ _).mono ?_; rintro e w9 ⟨rfl, b9⟩))
                rename_i hU
                obtain ⟨-, -, -, -, -, -, k⟩ := hU
                go_wp2
                go_ret
                exact ⟨rfl, k⟩
              · subst hy
                have hnz : (d2 ax ay ax ay == 0) = true := by rw [beq_iff_eq]; exact HZ.out.2 ⟨rfl, rfl⟩
                go_region_held3 (fun w' => Tri w w1.heap.size (w1.heap.size + 1) w2.heap.size ax ay ax ay cx cy w') (first | exact Tri.drew hT | (refine Tri.under (by assumption) ?_; assumption))
                  (first
                    | (go_at_call 17; refine (implDistOf_any _ _ _ _ _).mono ?_; rintro e w9 ⟨rfl, b9⟩)
                    | (go_at_call 20; refine (implDist2_any _ _ _ _ _).mono ?_; rintro e w9 ⟨rfl, b9⟩))
                rename_i hU
                obtain ⟨-, -, -, -, -, -, k⟩ := hU
                go_wp2
                go_ret
                exact ⟨rfl, k⟩

/-! ### THE ROW's STEP: WRITTEN OUT: LEAVE IT -/
set_option maxRecDepth 100000 in
theorem lifted (os : Os) (started : os.Started) (H : Type) (enc : TypeId × Value → H) :
    ReturnsInHanded {} Try.checked os 4 .any (Rows.fnFarSpec.pre6 enc Try.prog Try.f4 Rows.fnFarRow.domain false) (Rows.fnFarSpec.post enc Try.prog Try.f4 false true false false) := by
  refine returnsInHanded_of_change (C := Try.checked) own started (by kernel_rfl) Try.func4
    (ChangeSpec.witness6 (enc := enc) (C := Try.checked) false ⟨#[], #[.slice none 0 0, .slice none 0 0], []⟩ 8 (by kernel_rfl) (by kernel_rfl) (by kernel_rfl) (by kernel_rfl)) ?_
  intro W base args ds gs before hval0 hW hcnd _
  have hval : ∀ (j : Nat) t v, Try.f4.params[j]? = some t → args[j]? = some v → Value.okWide Try.prog W .any base t v := hval0
  have hW' := hW
  obtain ⟨p, q, hA0, hV, rfl, hfz, hnd⟩ := hW
  have hA : DataW.TrodAll enc Try.prog W 0 (fun _ => true) true Try.f4.params.toList args.toList ds p := hA0
  rw [Try.params4] at hA hval
  obtain ⟨v0, vs0, d0, ds0, p0, q0, hargs, rfl, rfl, h0, r0⟩ := trodAll_cons hA
  obtain ⟨v1, vs1, d1, ds1, p1, q1, rfl, rfl, rfl, h1, r1⟩ := trodAll_cons r0
  obtain ⟨rfl, rfl, rfl⟩ := trodAll_nil r1
  obtain rfl : args = #[v0, v1] := by cases args; simp_all
  obtain ⟨rfl, rfl⟩ := trodVars_none hV
  obtain ⟨a0, len0, cap0, rfl⟩ := okWide_slice Try.underlying22 (hval 0 22 v0 rfl rfl)
  have k0 := h0
  have lt0 : ∀ x ∈ p0, x.block < W.heap.size := by obtain ⟨m, hm⟩ := k0; exact DataW.trod_lt m _ _ _ hm
  obtain ⟨z0, w0⟩ : ∃ zs, IsRow .u8 W a0 len0 cap0 zs := by
    obtain ⟨fuel, hf⟩ := h0
    rcases open_ints Try.underlying22 Try.underlying5 (by kernel_rfl) hf with ⟨hcs, _⟩ | ⟨x, l, c, zs, hcs, _, hl, hm, hz, _, hcell, hwz⟩
    · simp [Value.cells] at hcs
      obtain ⟨rfl, rfl, rfl⟩ := hcs
      exact ⟨[], .inl ⟨rfl, rfl, rfl, rfl⟩⟩
    · simp [Value.cells] at hcs
      obtain ⟨rfl, rfl, rfl⟩ := hcs
      exact ⟨zs, .inr ⟨_, rfl, hl, hm, by simpa using hz, hcell, hwz⟩⟩
  obtain ⟨a1, len1, cap1, rfl⟩ := okWide_slice Try.underlying22 (hval 1 22 v1 rfl rfl)
  have k1 := h1
  have lt1 : ∀ x ∈ p1, x.block < W.heap.size := by obtain ⟨m, hm⟩ := k1; exact DataW.trod_lt m _ _ _ hm
  obtain ⟨z1, w1⟩ : ∃ zs, IsRow .u8 W a1 len1 cap1 zs := by
    obtain ⟨fuel, hf⟩ := h1
    rcases open_ints Try.underlying22 Try.underlying5 (by kernel_rfl) hf with ⟨hcs, _⟩ | ⟨x, l, c, zs, hcs, _, hl, hm, hz, _, hcell, hwz⟩
    · simp [Value.cells] at hcs
      obtain ⟨rfl, rfl, rfl⟩ := hcs
      exact ⟨[], .inl ⟨rfl, rfl, rfl, rfl⟩⟩
    · simp [Value.cells] at hcs
      obtain ⟨rfl, rfl, rfl⟩ := hcs
      exact ⟨zs, .inr ⟨_, rfl, hl, hm, by simpa using hz, hcell, hwz⟩⟩
  clear hA0 hval0
  refine (walk a0 len0 cap0 z0 a1 len1 cap1 z1 W w0 w1).mono fun e W' ⟨he, bel⟩ => ?_
  subst he
  exact ⟨_, rfl, _, _, _, [], _, [], hW', trodAll_mk1 (shut_bool Try.underlying4 _), (trodAll_cons_mk (Below.trod laidOut (by kernel_rfl) (of_decide_eq_true (by kernel_rfl)) k0 bel lt0) (trodAll_cons_mk (Below.trod laidOut (by kernel_rfl) (of_decide_eq_true (by kernel_rfl)) k1 bel lt1) trodAll_mk0)), rfl, bel.frame _, fun h => by cases h⟩

theorem over : Rows.fnFarRow.holds Try.pinned (OpenSpec.ofChange Rows.fnFarSpec) :=
  OpenClaim.holds_of_wide 4 Try.f4 rfl rfl rfl rfl rfl rfl rfl ⟨rfl, rfl, rfl, rfl, rfl⟩ rfl rfl rfl rfl rfl (by kernel_rfl) Try.func4 (by kernel_rfl)
    (of_decide_eq_true (by kernel_rfl)) (by unfold Func.isWrapper; first | (rw [if_pos (by decide +kernel)]; kernel_rfl) | (rw [if_neg (by decide +kernel)]; exact ⟨rfl, rfl⟩))
    (fun os started H enc _ => lifted os started H enc)

/-- ████ THE STATEMENT ████ -/
theorem proved : Rows.FnFarSaid := over
#print axioms proved
end Go.Proofs.Ytgfgolcbioffiaa.fnFar
