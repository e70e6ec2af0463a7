/-
  For all two points the law FnExactDist2 returns true: the program's Dist2 answers as the specification's (no condition).
-/
import Derived.Test.YtgfgolcbioffiaaRows
import Derived.WalkKit
import Derived.ProofKit
import Derived.OpenShut
import Derived.ShutString
import Derived.ChangeOld
import Derived.Below
import Derived.Test.YtgfgolcbioffiaaPtLaws
import Derived.Test.YtgfgolcbioffiaaFoot
namespace Go.Proofs.Ytgfgolcbioffiaa.fnExactDist2
open Go.ChangeShapes Go.WideShapes Go.ChangeAt Go.RowKit
open Go.ChangeMaps (open_string shut_string)
set_option linter.unusedVariables false

theorem own : ownKnob Try.prog.godebug = none := by kernel_rfl
theorem laidOut : laidOutB Try.prog = true := by kernel_rfl

/-! ### The walk. -/
set_option maxHeartbeats 1000000 in
theorem walk (x0 y0 : Int) (x1 y1 : Int) (w : World) (w0 : In64 x0 ∧ In64 y0) (w1 : In64 x1 ∧ In64 y1) :
    Calls Try.prog 6 #[.agg #[.int .i64 x0, .int .i64 y0], .agg #[.int .i64 x1, .int .i64 y1]] w fun e w' => e = .returned (.bool true) ∧ Below w.heap.size w w' := by
  have T := duo_boxed w x0 y0 x1 y1 35
  go_enter Try.func6, Try.ntmps6
  go_wp2_with fail
  go_region_held3 (fun w' => Duo w w.heap.size (w.heap.size + 1) x0 y0 x1 y1 w') (first | exact Duo.drew T | (refine Duo.under (by assumption) ?_; assumption))
    (first
      | (go_at_call 22; refine (toPt_any _ _ _).mono ?_; rintro e w1 ⟨rfl, b1⟩)
      | (go_at_call 21; refine (specDist2_any _ _ _ _ _).mono ?_; rintro e w1 ⟨rfl, b1⟩))
  rename_i hT
  clear T
  go_wp2_with fail
  go_region_held3 (fun w' => Duo w w.heap.size (w.heap.size + 1) x0 y0 x1 y1 w') (first | exact Duo.drew hT | (refine Duo.under (by assumption) ?_; assumption))
    (first
      | (go_at_call 22; refine (toPt_any _ _ _).mono ?_; rintro e w1 ⟨rfl, b1⟩)
      | (go_at_call 20; refine (implDist2_any _ _ _ _ _).mono ?_; rintro e w1 ⟨rfl, b1⟩))
  rename_i hU
  obtain ⟨-, -, -, -, k⟩ := hU
  go_wp2
  go_ret
  exact ⟨rfl, k⟩

/-! ### The row's step. -/
set_option maxRecDepth 100000 in
theorem lifted (os : Os) (started : os.Started) (H : Type) (enc : TypeId × Value → H) :
    ReturnsInHanded {} Try.checked os 6 .any (Rows.fnExactDist2Spec.pre6 enc Try.prog Try.f6 Rows.fnExactDist2Row.domain false) (Rows.fnExactDist2Spec.post enc Try.prog Try.f6 false true false false) := by
  refine returnsInHanded_of_change (C := Try.checked) own started (by kernel_rfl) Try.func6
    (ChangeSpec.witness6 (enc := enc) (C := Try.checked) false ⟨#[], #[.agg #[.int .i64 0, .int .i64 0], .agg #[.int .i64 0, .int .i64 0]], []⟩ 8 (by kernel_rfl) (by kernel_rfl) (by kernel_rfl) (by kernel_rfl)) ?_
  intro W base args ds gs before hval0 hW hcnd _
  have hval : ∀ (j : Nat) t v, Try.f6.params[j]? = some t → args[j]? = some v → Value.okWide Try.prog W .any base t v := hval0
  have hW' := hW
  obtain ⟨p, q, hA0, hV, rfl, hfz, hnd⟩ := hW
  have hA : DataW.TrodAll enc Try.prog W 0 (fun _ => true) true Try.f6.params.toList args.toList ds p := hA0
  rw [Try.params6] at hA hval
  obtain ⟨v0, vs0, d0, ds0, p0, q0, hargs, rfl, rfl, h0, r0⟩ := trodAll_cons hA
  obtain ⟨v1, vs1, d1, ds1, p1, q1, rfl, rfl, rfl, h1, r1⟩ := trodAll_cons r0
  obtain ⟨rfl, rfl, rfl⟩ := trodAll_nil r1
  obtain rfl : args = #[v0, v1] := by cases args; simp_all
  obtain ⟨rfl, rfl⟩ := trodVars_none hV
  have k0 := h0
  have lt0 : ∀ x ∈ p0, x.block < W.heap.size := by obtain ⟨m, hm⟩ := k0; exact DataW.trod_lt m _ _ _ hm
  obtain ⟨x0, y0, rfl, w0⟩ := opens_pt (hval 0 35 v0 rfl rfl) h0
  have k1 := h1
  have lt1 : ∀ x ∈ p1, x.block < W.heap.size := by obtain ⟨m, hm⟩ := k1; exact DataW.trod_lt m _ _ _ hm
  obtain ⟨x1, y1, rfl, w1⟩ := opens_pt (hval 1 35 v1 rfl rfl) h1
  clear hA0 hval0
  refine (walk x0 y0 x1 y1 W w0 w1).mono fun e W' ⟨he, bel⟩ => ?_
  subst he
  exact ⟨_, rfl, _, _, _, [], _, [], hW', trodAll_mk1 (shut_bool Try.underlying4 _), (trodAll_cons_mk (Below.trod laidOut (by kernel_rfl) (of_decide_eq_true (by kernel_rfl)) k0 bel lt0) (trodAll_cons_mk (Below.trod laidOut (by kernel_rfl) (of_decide_eq_true (by kernel_rfl)) k1 bel lt1) trodAll_mk0)), rfl, bel.frame _, fun h => by cases h⟩

theorem over : Rows.fnExactDist2Row.holds Try.pinned (OpenSpec.ofChange Rows.fnExactDist2Spec) :=
  OpenClaim.holds_of_wide 6 Try.f6 rfl rfl rfl rfl rfl rfl rfl ⟨rfl, rfl, rfl, rfl, rfl⟩ rfl rfl rfl rfl rfl (by kernel_rfl) Try.func6 (by kernel_rfl)
    (of_decide_eq_true (by kernel_rfl)) (by unfold Func.isWrapper; first | (rw [if_pos (by decide +kernel)]; kernel_rfl) | (rw [if_neg (by decide +kernel)]; exact ⟨rfl, rfl⟩))
    (fun os started H enc _ => lifted os started H enc)

/-- ████ THE STATEMENT ████ -/
theorem proved : Rows.FnExactDist2Said := over
#print axioms proved
end Go.Proofs.Ytgfgolcbioffiaa.fnExactDist2
