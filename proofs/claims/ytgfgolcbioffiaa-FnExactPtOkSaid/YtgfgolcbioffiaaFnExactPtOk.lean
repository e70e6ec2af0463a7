/-
  For every point the law FnExactPtOk returns true: the program's PtOk answers as the specification's (no condition).
-/
import Derived.Test.YtgfgolcbioffiaaRows
import Derived.WalkKit
import Derived.ProofKit
import Derived.OpenShut
import Derived.ShutString
import Derived.ChangeOld
import Derived.Below
import Derived.Test.YtgfgolcbioffiaaPtLaws
namespace Go.Proofs.Ytgfgolcbioffiaa.fnExactPtOk
open Go.ChangeShapes Go.WideShapes Go.ChangeAt Go.RowKit
open Go.ChangeMaps (open_string shut_string)
set_option linter.unusedVariables false

theorem own : ownKnob Try.prog.godebug = none := by kernel_rfl
theorem laidOut : laidOutB Try.prog = true := by kernel_rfl

/-! ### The walk. -/
theorem walk (x0 y0 : Int) (w : World) (w0 : In64 x0 ∧ In64 y0) :
    Calls Try.prog 5 #[.agg #[.int .i64 x0, .int .i64 y0]] w fun e w' => e = .returned (.bool true) ∧ Below w.heap.size w w' := by
  obtain ⟨p0, k0⟩ := boxed1 w x0 y0 35
  go_enter Try.func5, Try.ntmps5
  go_wp2_with fail
  refine (toPt_any _ _ _).mono ?_; rintro e w1 ⟨rfl, b1⟩
  replace p0 := p0.below b1
  replace k0 := k0.trans (b1.mono k0.size)
  clear b1
  go_wp2_with fail
  refine (specPtOk_any _ _ _).mono ?_; rintro e w2 ⟨rfl, b2⟩
  replace p0 := p0.below b2
  replace k0 := k0.trans (b2.mono k0.size)
  clear b2
  obtain ⟨c0, c1⟩ := p0.cells
  go_wp2_with fail
  refine (toPt_any _ _ _).mono ?_; rintro e w3 ⟨rfl, b3⟩
  replace k0 := k0.trans (b3.mono k0.size)
  go_wp2_with fail
  refine (implPtOk_any _ _ _).mono ?_; rintro e w4 ⟨rfl, b4⟩
  replace k0 := k0.trans (b4.mono k0.size)
  go_wp2
  go_ret
  exact ⟨rfl, k0⟩

/-! ### The row's step. -/
set_option maxRecDepth 100000 in
theorem lifted (os : Os) (started : os.Started) (H : Type) (enc : TypeId × Value → H) :
    ReturnsInHanded {} Try.checked os 5 .any (Rows.fnExactPtOkSpec.pre6 enc Try.prog Try.f5 Rows.fnExactPtOkRow.domain false) (Rows.fnExactPtOkSpec.post enc Try.prog Try.f5 false true false false) := by
  refine returnsInHanded_of_change (C := Try.checked) own started (by kernel_rfl) Try.func5
    (ChangeSpec.witness6 (enc := enc) (C := Try.checked) false ⟨#[], #[.agg #[.int .i64 0, .int .i64 0]], []⟩ 8 (by kernel_rfl) (by kernel_rfl) (by kernel_rfl) (by kernel_rfl)) ?_
  intro W base args ds gs before hval0 hW hcnd _
  have hval : ∀ (j : Nat) t v, Try.f5.params[j]? = some t → args[j]? = some v → Value.okWide Try.prog W .any base t v := hval0
  have hW' := hW
  obtain ⟨p, q, hA0, hV, rfl, hfz, hnd⟩ := hW
  have hA : DataW.TrodAll enc Try.prog W 0 (fun _ => true) true Try.f5.params.toList args.toList ds p := hA0
  rw [Try.params5] at hA hval
  obtain ⟨v0, vs0, d0, ds0, p0, q0, hargs, rfl, rfl, h0, r0⟩ := trodAll_cons hA
  obtain ⟨rfl, rfl, rfl⟩ := trodAll_nil r0
  obtain rfl : args = #[v0] := by cases args; simp_all
  obtain ⟨rfl, rfl⟩ := trodVars_none hV
  have k0 := h0
  have lt0 : ∀ x ∈ p0, x.block < W.heap.size := by obtain ⟨m, hm⟩ := k0; exact DataW.trod_lt m _ _ _ hm
  obtain ⟨x0, y0, rfl, w0⟩ := opens_pt (hval 0 35 v0 rfl rfl) h0
  clear hA0 hval0
  refine (walk x0 y0 W w0).mono fun e W' ⟨he, bel⟩ => ?_
  subst he
  exact ⟨_, rfl, _, _, _, [], _, [], hW', trodAll_mk1 (shut_bool Try.underlying4 _), (trodAll_cons_mk (Below.trod laidOut (by kernel_rfl) (of_decide_eq_true (by kernel_rfl)) k0 bel lt0) trodAll_mk0), rfl, bel.frame _, fun h => by cases h⟩

theorem over : Rows.fnExactPtOkRow.holds Try.pinned (OpenSpec.ofChange Rows.fnExactPtOkSpec) :=
  OpenClaim.holds_of_wide 5 Try.f5 rfl rfl rfl rfl rfl rfl rfl ⟨rfl, rfl, rfl, rfl, rfl⟩ rfl rfl rfl rfl rfl (by kernel_rfl) Try.func5 (by kernel_rfl)
    (of_decide_eq_true (by kernel_rfl)) (by unfold Func.isWrapper; first | (rw [if_pos (by decide +kernel)]; kernel_rfl) | (rw [if_neg (by decide +kernel)]; exact ⟨rfl, rfl⟩))
    (fun os started H enc _ => lifted os started H enc)

/-- ████ THE STATEMENT ████ -/
theorem proved : Rows.FnExactPtOkSaid := over
#print axioms proved
end Go.Proofs.Ytgfgolcbioffiaa.fnExactPtOk
