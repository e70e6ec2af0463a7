/-
  For every hierarchy and all two numbers the law FnExactQuery returns true: the program's Query answers as the specification's and writes nothing into the hierarchy (no condition).
-/
import Derived.Test.YtagaildnfbegkabRows
import Derived.WalkKit
import Derived.ProofKit
import Derived.OpenShut
import Derived.ShutString
import Derived.ChangeOld
import Derived.Below
import Derived.Test.YtagaildnfbegkabHierFrame
import Derived.Test.YtagaildnfbegkabQueryIm
namespace Go.Proofs.Ytagaildnfbegkab.fnExactQuery
open Go.ChangeShapes Go.WideShapes Go.ChangeAt Go.RowKit
open Go.ChangeMaps (open_string shut_string)
set_option linter.unusedVariables false

theorem own : ownKnob Try.prog.godebug = none := by kernel_rfl
theorem laidOut : laidOutB Try.prog = true := by kernel_rfl

/-! ### The walk. -/
set_option maxHeartbeats 2000000 in
theorem walk (A0 B0 : Option Addr) (ca0 cb0 : Nat) (zs0 : List Int) (rs0 : List A4) (a1 : Int) (a2 : Int) (w : World) (w0 : HierIn w A0 B0 ca0 cb0 zs0 rs0) (w1 : (Lit.int .i64 a1).wf = true) (w2 : (Lit.int .i64 a2).wf = true) :
    Calls Try.prog 3 #[.agg #[.slice A0 zs0.length ca0, .slice B0 rs0.length cb0], .int .i64 a1, .int .i64 a2] w fun e w' => e = .returned (.bool true) ∧ Below w.heap.size w w' := by
  obtain ⟨⟨hc0, hc1, hc3, hc2⟩, hP, hR, -⟩ := w0
  have X := Pair.new w 25 (.slice A0 zs0.length ca0) (.slice B0 rs0.length cb0)
  have K := below1 w (.cells #[.slice A0 zs0.length ca0, .slice B0 rs0.length cb0] 25)
  by_cases hs : zs0.length + rs0.length ≤ 1048576
  rotate_left
  · go_enter Try.func3, Try.ntmps3
    go_wp2_with fail
    refine (szHier_no A0 B0 zs0.length rs0.length ca0 cb0 (by omega) (by omega) (by omega) _).mono ?_; rintro e w1 ⟨rfl, b1⟩
    have k1 := K.trans (b1.mono K.size)
    go_wp2
    go_ret
    exact ⟨rfl, k1⟩
  · have hz : ¬ ((1048576 : Int) - zs0.length - rs0.length < 0) := by omega
    go_enter Try.func3, Try.ntmps3
    go_wp2_with fail
    refine (szHier_yes A0 B0 zs0.length rs0.length ca0 cb0 hs _).mono ?_; rintro e w1 ⟨rfl, b1⟩
    replace X := X.below b1
    replace K := K.trans (b1.mono K.size)
    clear b1
    obtain ⟨x0, x1, -, -⟩ := X.cells
    go_wp2_with fail
    clear x0 x1
    refine (toHierZ_any A0 B0 ca0 cb0 zs0 rs0 _ (by omega) (by omega) (hP.below K) (hR.below K)).mono ?_; rintro e w2 ⟨c1, c2, rfl, hl1, hl2, P1, R1, b2⟩
    replace X := X.below b2
    replace K := K.trans (b2.mono K.size)
    clear b2 hl1 hl2
    go_wp2_with fail
    refine (specQuery_any _ _ _ _ zs0 rs0 a1 a2 _ (by omega) (by omega) P1.is R1.is).mono ?_; rintro e w3 ⟨rfl, b3⟩
    replace X := X.below b3
    replace K := K.trans (b3.mono K.size)
    clear b3 P1 R1
    obtain ⟨x0, x1, -, -⟩ := X.cells
    go_wp2_with fail
    clear x0 x1
    refine (toHierZ_any A0 B0 ca0 cb0 zs0 rs0 _ (by omega) (by omega) (hP.below K) (hR.below K)).mono ?_; rintro e w4 ⟨d1, d2, rfl, hl1, hl2, P2, R2, b4⟩
    replace X := X.below b4
    replace K := K.trans (b4.mono K.size)
    clear b4 hl1 hl2
    have Y := Pair.new w4 30 (.slice (some ⟨d1, 0, none⟩) zs0.length zs0.length) (.slice (some ⟨d2, 0, none⟩) rs0.length rs0.length)
    have k5 := below1 w4 (.cells #[.slice (some ⟨d1, 0, none⟩) zs0.length zs0.length, .slice (some ⟨d2, 0, none⟩) rs0.length rs0.length] 30)
    replace P2 := rowIs_below P2 k5
    replace R2 := rowIs_below R2 k5
    replace X := X.below k5
    replace K := K.trans (k5.mono K.size)
    clear k5
    go_wp2_with fail
    refine (implQuery_any _ _ _ _ zs0 rs0 a1 a2 _ (by omega) (by omega) (ZRow.is P2) (HsRow.is R2)).mono ?_; rintro e w5 ⟨rfl, b5⟩
    have T : LawH w w.heap.size (.slice A0 zs0.length ca0) (.slice B0 rs0.length cb0) w4.heap.size (.slice (some ⟨d1, 0, none⟩) zs0.length zs0.length) (.slice (some ⟨d2, 0, none⟩) rs0.length rs0.length) d1 d2 zs0 rs0 w5 :=
      ⟨(X.below b5).cells.1, (X.below b5).cells.2.1, (Y.below b5).cells.1, (Y.below b5).cells.2.1, rowIs_below P2 b5, rowIs_below R2 b5, K.trans (b5.mono K.size)⟩
    clear b5 X Y K P2 R2
    go_wp2_with fail
    go_region_held3 (fun w' => LawH w w.heap.size (.slice A0 zs0.length ca0) (.slice B0 rs0.length cb0) w4.heap.size (.slice (some ⟨d1, 0, none⟩) zs0.length zs0.length) (.slice (some ⟨d2, 0, none⟩) rs0.length rs0.length) d1 d2 zs0 rs0 w')
      (first | exact LawH.drew T | (refine LawH.under (by assumption) ?_; assumption))
      (first
        | (go_at_call 10; refine (toHierZ_any A0 B0 ca0 cb0 zs0 rs0 _ (by omega) (by omega) (hP.below (LawH.bel (by assumption))) (hR.below (LawH.bel (by assumption)))).mono ?_; rintro e w6 ⟨f1, f2, rfl, hl1, hl2, P3, R3, b6⟩)
        | (go_at_call 12; refine (eqHier_same _ _ _ _ _ _ _ _ zs0 rs0 _ (by omega) (by omega) (LawH.pts (by assumption)) (LawH.arcs (by assumption)) P3.is R3.is).mono ?_; rintro e w7 ⟨rfl, b7⟩))
    rename_i hU
    obtain ⟨-, -, -, -, -, -, k⟩ := hU
    go_wp2
    go_ret
    exact ⟨rfl, k⟩

/-! ### The row's step. -/
set_option maxRecDepth 100000 in
theorem lifted (os : Os) (started : os.Started) (H : Type) (enc : TypeId × Value → H) :
    ReturnsInHanded {} Try.checked os 3 .any (Rows.fnExactQuerySpec.pre6 enc Try.prog Try.f3 Rows.fnExactQueryRow.domain false) (Rows.fnExactQuerySpec.post enc Try.prog Try.f3 false true false false) := by
  refine returnsInHanded_of_change (C := Try.checked) own started (by kernel_rfl) Try.func3
    (ChangeSpec.witness6 (enc := enc) (C := Try.checked) false ⟨#[], #[.agg #[.slice none 0 0, .slice none 0 0], .int .i64 0, .int .i64 0], []⟩ 8 (by kernel_rfl) (by kernel_rfl) (by kernel_rfl) (by kernel_rfl)) ?_
  intro W base args ds gs before hval0 hW hcnd _
  have hval : ∀ (j : Nat) t v, Try.f3.params[j]? = some t → args[j]? = some v → Value.okWide Try.prog W .any base t v := hval0
  have hW' := hW
  obtain ⟨p, q, hA0, hV, rfl, hfz, hnd⟩ := hW
  have hA : DataW.TrodAll enc Try.prog W 0 (fun _ => true) true Try.f3.params.toList args.toList ds p := hA0
  rw [Try.params3] at hA hval
  obtain ⟨v0, vs0, d0, ds0, p0, q0, hargs, rfl, rfl, h0, r0⟩ := trodAll_cons hA
  obtain ⟨v1, vs1, d1, ds1, p1, q1, rfl, rfl, rfl, h1, r1⟩ := trodAll_cons r0
  obtain ⟨v2, vs2, d2, ds2, p2, q2, rfl, rfl, rfl, h2, r2⟩ := trodAll_cons r1
  obtain ⟨rfl, rfl, rfl⟩ := trodAll_nil r2
  obtain rfl : args = #[v0, v1, v2] := by cases args; simp_all
  obtain ⟨rfl, rfl⟩ := trodVars_none hV
  have k0 := h0
  have lt0 : ∀ x ∈ p0, x.block < W.heap.size := by obtain ⟨m, hm⟩ := k0; exact DataW.trod_lt m _ _ _ hm
  obtain ⟨A0, B0, ca0, cb0, zs0, rs0, rfl, w0⟩ := opens_hier (hval 0 25 v0 rfl rfl) h0
  have k1 := h1
  have lt1 : ∀ x ∈ p1, x.block < W.heap.size := by obtain ⟨m, hm⟩ := k1; exact DataW.trod_lt m _ _ _ hm
  obtain ⟨a1, rfl, -, -, w1⟩ := open_int Try.underlying3 (hval 1 3 v1 rfl rfl) h1
  have k2 := h2
  have lt2 : ∀ x ∈ p2, x.block < W.heap.size := by obtain ⟨m, hm⟩ := k2; exact DataW.trod_lt m _ _ _ hm
  obtain ⟨a2, rfl, -, -, w2⟩ := open_int Try.underlying3 (hval 2 3 v2 rfl rfl) h2
  clear hA0 hval0
  refine (walk A0 B0 ca0 cb0 zs0 rs0 a1 a2 W w0 w1 w2).mono fun e W' ⟨he, bel⟩ => ?_
  subst he
  exact ⟨_, rfl, _, _, _, [], _, [], hW', trodAll_mk1 (shut_bool Try.underlying4 _), (trodAll_cons_mk (Below.trod laidOut (by kernel_rfl) (of_decide_eq_true (by kernel_rfl)) k0 bel lt0) (trodAll_cons_mk (Below.trod laidOut (by kernel_rfl) (of_decide_eq_true (by kernel_rfl)) k1 bel lt1) (trodAll_cons_mk (Below.trod laidOut (by kernel_rfl) (of_decide_eq_true (by kernel_rfl)) k2 bel lt2) trodAll_mk0))), rfl, bel.frame _, fun h => by cases h⟩

theorem over : Rows.fnExactQueryRow.holds Try.pinned (OpenSpec.ofChange Rows.fnExactQuerySpec) :=
  OpenClaim.holds_of_wide 3 Try.f3 rfl rfl rfl rfl rfl rfl rfl ⟨rfl, rfl, rfl, rfl, rfl⟩ rfl rfl rfl rfl rfl (by kernel_rfl) Try.func3 (by kernel_rfl)
    (of_decide_eq_true (by kernel_rfl)) (by unfold Func.isWrapper; first | (rw [if_pos (by decide +kernel)]; kernel_rfl) | (rw [if_neg (by decide +kernel)]; exact ⟨rfl, rfl⟩))
    (fun os started H enc _ => lifted os started H enc)

/-- ████ THE STATEMENT ████ -/
theorem proved : Rows.FnExactQuerySaid := over
#print axioms proved
end Go.Proofs.Ytagaildnfbegkab.fnExactQuery
