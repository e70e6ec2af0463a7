/-
  For all three points the law FnExactFoot returns true: the program's Foot answers as the specification's (no condition).
-/
import Derived.Test.YtgfgolcbioffiaaRows
import Derived.WalkKit
import Derived.ProofKit
import Derived.OpenShut
import Derived.ShutString
import Derived.ChangeOld
import Derived.Below
import Derived.Test.YtgfgolcbioffiaaPtLaws
import Derived.Test.YtgfgolcbioffiaaFootCuts
import Derived.Test.YtgfgolcbioffiaaFootSp
import Derived.Deep.DeepCutAuto
namespace Go.Proofs.Ytgfgolcbioffiaa.fnExactFoot
open Go.ChangeShapes Go.WideShapes Go.ChangeAt Go.RowKit
open Go.ChangeMaps (open_string shut_string)
set_option linter.unusedVariables false

theorem own : ownKnob Try.prog.godebug = none := by kernel_rfl
theorem laidOut : laidOutB Try.prog = true := by kernel_rfl

/-! ### The walk. -/
set_option maxHeartbeats 4000000 in
theorem walk (x0 y0 : Int) (x1 y1 : Int) (x2 y2 : Int) (w : World) (w0 : In64 x0 ∧ In64 y0) (w1 : In64 x1 ∧ In64 y1) (w2 : In64 x2 ∧ In64 y2) :
    Calls Try.prog 8 #[.agg #[.int .i64 x0, .int .i64 y0], .agg #[.int .i64 x1, .int .i64 y1], .agg #[.int .i64 x2, .int .i64 y2]] w fun e w' => e = .returned (.bool true) ∧ Below w.heap.size w w' := by
  have T := tri_boxed w x0 y0 x1 y1 x2 y2 35
  have hl0 := T.lt2
  go_enter Try.func8, Try.ntmps8
  go_upto_region 1 with (fail)
  generalize World.alloc (World.alloc (World.alloc w _) _) _ = W0 at T hl0 ⊢
  go_cut [7] (fun t wc => FootCut w x0 y0 x1 y1 x2 y2 t wc)
  case first =>
    go_region_held3 (fun w' => Tri w w.heap.size (w.heap.size + 1) (w.heap.size + 2) x0 y0 x1 y1 x2 y2 w')
      (first | exact Tri.drew T | assumption | (refine Tri.alloc ?_ _; assumption) | exact Tri.drew (Tri.alloc T _) | (refine Tri.set ?_ ?_ ?_ ?_ (Tri.set ?_ ?_ ?_ ?_ ?_) <;> first | assumption | omega))
      (first
        | (go_at_call 22; refine (toPt_any _ _ _).mono ?_; rintro e w1 ⟨rfl, b1⟩; have hK : Tri w w.heap.size (w.heap.size + 1) (w.heap.size + 2) x0 y0 x1 y1 x2 y2 w1 := Tri.under b1 (by assumption); have hl := Tri.lt2 hK; (first | (have hn := Zero.first b1; obtain ⟨z0, z1, z2, z3⟩ := id hn) | (have hn := Zero.first' b1; obtain ⟨z0, z1, z2, z3⟩ := id hn) | (have hn := Zero.under b1 (by assumption); obtain ⟨z0, z1, z2, z3⟩ := id hn) | skip))
        | (go_at_call 14; refine (specFoot_any _ _ _ _ _ _ _).mono ?_; rintro e w1 ⟨rfl, b1⟩; have hK : Tri w w.heap.size (w.heap.size + 1) (w.heap.size + 2) x0 y0 x1 y1 x2 y2 w1 := Tri.under b1 (by assumption); have hl := Tri.lt2 hK; (first | (have hn := Zero.first b1; obtain ⟨z0, z1, z2, z3⟩ := id hn) | (have hn := Zero.first' b1; obtain ⟨z0, z1, z2, z3⟩ := id hn) | (have hn := Zero.under b1 (by assumption); obtain ⟨z0, z1, z2, z3⟩ := id hn) | skip)))
    all_goals
      go_wp2
      go_meet
      case rel => first | exact ⟨_, rfl, Two.new _ _ _ _, by assumption⟩ | exact ⟨_, rfl, Two.set2 (by assumption) _ _, by assumption⟩
  case rest =>
    clear T hl0
    obtain ⟨b7, rfl, F7, T0⟩ := hcut
    have T : TT w w.heap.size (w.heap.size + 1) (w.heap.size + 2) x0 y0 x1 y1 x2 y2 b7 (fX x0 y0 x1 y1 x2 y2) (fY x0 y0 x1 y1 x2 y2) wc := ⟨T0, F7⟩
    clear F7 T0
    have hl0 := T.1.lt2
    have hm0 := T.2.lt
    go_upto_region 2 with (fail)
    go_cut [8] (fun t wc => FootCut2 w x0 y0 x1 y1 x2 y2 b7 t wc)
    case first =>
      go_region_held3 (fun w' => TT w w.heap.size (w.heap.size + 1) (w.heap.size + 2) x0 y0 x1 y1 x2 y2 b7 (fX x0 y0 x1 y1 x2 y2) (fY x0 y0 x1 y1 x2 y2) w')
        (first | exact TT.drew T | assumption | (refine TT.alloc ?_ _; assumption) | exact TT.drew (TT.alloc T _) | (refine TT.set ?_ ?_ ?_ ?_ ?_ (TT.set ?_ ?_ ?_ ?_ ?_ ?_) <;> first | assumption | omega))
        (first
          | (go_at_call 22; refine (toPt_any _ _ _).mono ?_; rintro e w1 ⟨rfl, b1⟩; have hK : TT w w.heap.size (w.heap.size + 1) (w.heap.size + 2) x0 y0 x1 y1 x2 y2 b7 (fX x0 y0 x1 y1 x2 y2) (fY x0 y0 x1 y1 x2 y2) w1 := TT.under b1 (by assumption); have hl := Tri.lt2 hK.1; have hm := Two.lt hK.2; (first | (have hn := Zero.first b1; obtain ⟨z0, z1, z2, z3⟩ := id hn) | (have hn := Zero.first' b1; obtain ⟨z0, z1, z2, z3⟩ := id hn) | (have hn := Zero.under b1 (by assumption); obtain ⟨z0, z1, z2, z3⟩ := id hn) | skip))
          | (go_at_call 12; refine (implFoot_any _ _ _ _ _ _ _).mono ?_; rintro e w1 ⟨rfl, b1⟩; have hK : TT w w.heap.size (w.heap.size + 1) (w.heap.size + 2) x0 y0 x1 y1 x2 y2 b7 (fX x0 y0 x1 y1 x2 y2) (fY x0 y0 x1 y1 x2 y2) w1 := TT.under b1 (by assumption); have hl := Tri.lt2 hK.1; have hm := Two.lt hK.2; (first | (have hn := Zero.first b1; obtain ⟨z0, z1, z2, z3⟩ := id hn) | (have hn := Zero.first' b1; obtain ⟨z0, z1, z2, z3⟩ := id hn) | (have hn := Zero.under b1 (by assumption); obtain ⟨z0, z1, z2, z3⟩ := id hn) | skip)))
      all_goals
        go_wp2
        go_meet
        case rel => first | exact ⟨_, rfl, Two.new _ _ _ _, by assumption⟩ | exact ⟨_, rfl, Two.set2 (by assumption) _ _, by assumption⟩
    case rest =>
      clear T hl0 hm0
      obtain ⟨b8, rfl, ⟨f0, f1⟩, ⟨-, -, -, -, -, -, k⟩, g0, g1⟩ := hcut
      go_wp2_with fail
      refine (eqPt_same _ _ _).mono ?_; rintro e w9 ⟨rfl, b9⟩
      have k9 := k.trans (b9.mono k.size)
      go_wp2
      go_ret
      exact ⟨rfl, k9⟩

/-! ### The row's step. -/
set_option maxRecDepth 100000 in
theorem lifted (os : Os) (started : os.Started) (H : Type) (enc : TypeId × Value → H) :
    ReturnsInHanded {} Try.checked os 8 .any (Rows.fnExactFootSpec.pre6 enc Try.prog Try.f8 Rows.fnExactFootRow.domain false) (Rows.fnExactFootSpec.post enc Try.prog Try.f8 false true false false) := by
  refine returnsInHanded_of_change (C := Try.checked) own started (by kernel_rfl) Try.func8
    (ChangeSpec.witness6 (enc := enc) (C := Try.checked) false ⟨#[], #[.agg #[.int .i64 0, .int .i64 0], .agg #[.int .i64 0, .int .i64 0], .agg #[.int .i64 0, .int .i64 0]], []⟩ 8 (by kernel_rfl) (by kernel_rfl) (by kernel_rfl) (by kernel_rfl)) ?_
  intro W base args ds gs before hval0 hW hcnd _
  have hval : ∀ (j : Nat) t v, Try.f8.params[j]? = some t → args[j]? = some v → Value.okWide Try.prog W .any base t v := hval0
  have hW' := hW
  obtain ⟨p, q, hA0, hV, rfl, hfz, hnd⟩ := hW
  have hA : DataW.TrodAll enc Try.prog W 0 (fun _ => true) true Try.f8.params.toList args.toList ds p := hA0
  rw [Try.params8] at hA hval
  obtain ⟨v0, vs0, d0, ds0, p0, q0, hargs, rfl, rfl, h0, r0⟩ := trodAll_cons hA
  obtain ⟨v1, vs1, d1, ds1, p1, q1, rfl, rfl, rfl, h1, r1⟩ := trodAll_cons r0
  obtain ⟨v2, vs2, d2, ds2, p2, q2, rfl, rfl, rfl, h2, r2⟩ := trodAll_cons r1
  obtain ⟨rfl, rfl, rfl⟩ := trodAll_nil r2
  obtain rfl : args = #[v0, v1, v2] := by cases args; simp_all
  obtain ⟨rfl, rfl⟩ := trodVars_none hV
  have k0 := h0
  have lt0 : ∀ x ∈ p0, x.block < W.heap.size := by obtain ⟨m, hm⟩ := k0; exact DataW.trod_lt m _ _ _ hm
  obtain ⟨x0, y0, rfl, w0⟩ := opens_pt (hval 0 35 v0 rfl rfl) h0
  have k1 := h1
  have lt1 : ∀ x ∈ p1, x.block < W.heap.size := by obtain ⟨m, hm⟩ := k1; exact DataW.trod_lt m _ _ _ hm
  obtain ⟨x1, y1, rfl, w1⟩ := opens_pt (hval 1 35 v1 rfl rfl) h1
  have k2 := h2
  have lt2 : ∀ x ∈ p2, x.block < W.heap.size := by obtain ⟨m, hm⟩ := k2; exact DataW.trod_lt m _ _ _ hm
  obtain ⟨x2, y2, rfl, w2⟩ := opens_pt (hval 2 35 v2 rfl rfl) h2
  clear hA0 hval0
  refine (walk x0 y0 x1 y1 x2 y2 W w0 w1 w2).mono fun e W' ⟨he, bel⟩ => ?_
  subst he
  exact ⟨_, rfl, _, _, _, [], _, [], hW', trodAll_mk1 (shut_bool Try.underlying4 _), (trodAll_cons_mk (Below.trod laidOut (by kernel_rfl) (of_decide_eq_true (by kernel_rfl)) k0 bel lt0) (trodAll_cons_mk (Below.trod laidOut (by kernel_rfl) (of_decide_eq_true (by kernel_rfl)) k1 bel lt1) (trodAll_cons_mk (Below.trod laidOut (by kernel_rfl) (of_decide_eq_true (by kernel_rfl)) k2 bel lt2) trodAll_mk0))), rfl, bel.frame _, fun h => by cases h⟩

theorem over : Rows.fnExactFootRow.holds Try.pinned (OpenSpec.ofChange Rows.fnExactFootSpec) :=
  OpenClaim.holds_of_wide 8 Try.f8 rfl rfl rfl rfl rfl rfl rfl ⟨rfl, rfl, rfl, rfl, rfl⟩ rfl rfl rfl rfl rfl (by kernel_rfl) Try.func8 (by kernel_rfl)
    (of_decide_eq_true (by kernel_rfl)) (by unfold Func.isWrapper; first | (rw [if_pos (by decide +kernel)]; kernel_rfl) | (rw [if_neg (by decide +kernel)]; exact ⟨rfl, rfl⟩))
    (fun os started H enc _ => lifted os started H enc)

/-- ████ THE STATEMENT ████ -/
theorem proved : Rows.FnExactFootSaid := over
#print axioms proved
end Go.Proofs.Ytgfgolcbioffiaa.fnExactFoot
