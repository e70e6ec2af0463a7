/-
  For every network and every hierarchy the law FnExactHierOk returns true: the program's HierOk answers as the specification's and writes into neither of its arguments (no condition).
-/
import Derived.Test.YtagaildnfbegkaaRows
import Derived.WalkKit
import Derived.ProofKit
import Derived.OpenShut
import Derived.ShutString
import Derived.ChangeOld
import Derived.Below
import Derived.Test.YtagaildnfbegkaaHokLaw
import Derived.Test.YtagaildnfbegkaaHokSp
namespace Go.Proofs.Ytagaildnfbegkaa.fnExactHierOk
open Go.ChangeShapes Go.WideShapes Go.ChangeAt Go.RowKit
open Go.ChangeMaps (open_string shut_string)
set_option linter.unusedVariables false

theorem own : ownKnob Try.prog.godebug = none := by kernel_rfl
theorem laidOut : laidOutB Try.prog = true := by kernel_rfl

/-! ### The walk. -/
set_option maxHeartbeats 4000000 in
set_option maxRecDepth 100000 in
theorem walk (A0 B0 : Option Addr) (ca0 cb0 : Nat) (ps0 : List (Int × Int)) (rs0 : List (Int × Int × Int)) (A1 B1 : Option Addr) (ca1 cb1 : Nat) (zs1 : List Int) (rs1 : List A4) (w : World) (w0 : NetIn w A0 B0 ca0 cb0 ps0 rs0) (w1 : HierIn w A1 B1 ca1 cb1 zs1 rs1) :
    Calls Try.prog 4 #[.agg #[.slice A0 ps0.length ca0, .slice B0 rs0.length cb0], .agg #[.slice A1 zs1.length ca1, .slice B1 rs1.length cb1]] w fun e w' => e = .returned (.bool true) ∧ Below w.heap.size w w' := by
  obtain ⟨⟨hc0, hc1, hc3, hc2⟩, hP, hR, -, -⟩ := w0
  obtain ⟨⟨hd0, hd1, hd3, hd2⟩, hZ, hH, -⟩ := w1
  have X := (Pair.new w 39 (.slice A0 ps0.length ca0) (.slice B0 rs0.length cb0)).alloc (.cells #[.slice A1 zs1.length ca1, .slice B1 rs1.length cb1] 42)
  have Y : Pair ((w.alloc (.cells #[.slice A0 ps0.length ca0, .slice B0 rs0.length cb0] 39)).alloc (.cells #[.slice A1 zs1.length ca1, .slice B1 rs1.length cb1] 42)) (w.heap.size + 1) 42 (.slice A1 zs1.length ca1) (.slice B1 rs1.length cb1) := by
    have := Pair.new (w.alloc (.cells #[.slice A0 ps0.length ca0, .slice B0 rs0.length cb0] 39)) 42 (.slice A1 zs1.length ca1) (.slice B1 rs1.length cb1); rwa [World.size_alloc] at this
  have K := below2 w (.cells #[.slice A0 ps0.length ca0, .slice B0 rs0.length cb0] 39) (.cells #[.slice A1 zs1.length ca1, .slice B1 rs1.length cb1] 42)
  obtain ⟨x0, x1, -, -⟩ := X.cells
  obtain ⟨y0, y1, -, -⟩ := Y.cells
  by_cases hs : ps0.length + rs0.length ≤ 1048576
  rotate_left
  · go_enter Try.func4, Try.ntmps4
    go_wp2_with fail
    refine (szNet_no A0 B0 ps0.length rs0.length ca0 cb0 (by omega) (by omega) (by omega) _).mono ?_; rintro e w1 ⟨rfl, b1⟩
    have k1 := K.trans (b1.mono K.size)
    go_wp2
    go_ret
    exact ⟨rfl, k1⟩
  have hn : ps0.length ≤ 1048576 := by omega
  have hm : rs0.length ≤ 1048576 := by omega
  obtain ⟨l1, hl1⟩ : ∃ l1 : Int, l1 = 1048576 - ps0.length - rs0.length := ⟨_, rfl⟩
  have HL1 := Lib.hid hl1.symm
  have hb1 : 0 ≤ l1 ∧ l1 ≤ 1048576 := by omega
  have hz1 : ¬ (l1 < 0) := by omega
  have hz2 : decide (l1 < 0) = false := decide_eq_false hz1
  clear hl1
  by_cases hs2 : l1 < (zs1.length : Int) + rs1.length
  · go_enter Try.func4, Try.ntmps4
    go_wp2_with fail
    refine (szNet_yes A0 B0 ps0.length rs0.length ca0 cb0 hs _).mono ?_; rw [HL1.out]; rintro e w1 ⟨rfl, b1⟩
    replace Y := Y.below b1
    replace K := K.trans (b1.mono K.size)
    clear x0 x1 y0 y1 b1
    obtain ⟨y0, y1, -, -⟩ := Y.cells
    go_wp2_with fail
    refine (szHierL_no A1 B1 zs1.length rs1.length ca1 cb1 l1 (by omega) (by omega) hb1.1 hb1.2 hs2 _).mono ?_; rintro e w2 ⟨rfl, b2⟩
    have k1 := K.trans (b2.mono K.size)
    go_wp2
    go_ret
    exact ⟨rfl, k1⟩
  have hzn : zs1.length ≤ 1048576 := by omega
  have hhn : rs1.length ≤ 1048576 := by omega
  go_enter Try.func4, Try.ntmps4
  go_wp2_with fail
  refine (szNet_yes A0 B0 ps0.length rs0.length ca0 cb0 hs _).mono ?_; rw [HL1.out]; rintro e w1 ⟨rfl, b1⟩
  replace X := X.below b1
  replace Y := Y.below b1
  replace K := K.trans (b1.mono K.size)
  clear x0 x1 y0 y1 b1
  obtain ⟨x0, x1, -, -⟩ := X.cells
  obtain ⟨y0, y1, -, -⟩ := Y.cells
  go_wp2_with fail
  refine (szHierL_yes A1 B1 zs1.length rs1.length ca1 cb1 l1 (by omega) (by omega) hb1.1 hb1.2 (by omega) _).mono ?_; rintro e w2 ⟨z, hz0, rfl, b2⟩
  have hzz : ¬ z < 0 := by omega
  have hzz2 : decide (z < 0) = false := decide_eq_false hzz
  have T : TwoS w w.heap.size (w.heap.size + 1) (.slice A0 ps0.length ca0) (.slice B0 rs0.length cb0) (.slice A1 zs1.length ca1) (.slice B1 rs1.length cb1) w2 := TwoS.under b2 ⟨x0, x1, y0, y1, K⟩
  clear X Y K x0 x1 y0 y1 b2 HL1 hz1 hz2 hb1 hs2 hs
  go_wp2_with fail
  clear hzz hzz2 hz0
  go_region_held3 (fun w' => TwoS w w.heap.size (w.heap.size + 1) (.slice A0 ps0.length ca0) (.slice B0 rs0.length cb0) (.slice A1 zs1.length ca1) (.slice B1 rs1.length cb1) w')
    (first | exact TwoS.drew T | assumption | (refine TwoS.under (by assumption) ?_; assumption))
    (first
      | (go_at_call 16; refine (toNet_any A0 B0 ca0 cb0 ps0 rs0 _ hn hm (hP.below (TwoS.bel (by assumption))) (hR.below (TwoS.bel (by assumption)))).mono ?_; rintro e w3 ⟨c1, c2, rfl, -, -, P1, R1, b3⟩)
      | (go_at_call 17; refine (toHierZ_any A1 B1 ca1 cb1 zs1 rs1 _ hzn hhn (hZ.below (TwoS.bel (by assumption))) (hH.below (TwoS.bel (by assumption)))).mono ?_; rintro e w4 ⟨d1, d2, rfl, -, -, P2, R2, b4⟩)
      | (go_at_call 15; refine (specHierOk_any _ _ _ _ _ _ _ _ ps0 rs0 zs1 rs1 _ hn hm hzn hhn (P1.is.below b4) (R1.is.below b4) P2.is R2.is).mono ?_; rintro e w5 ⟨rfl, b5⟩))
  rename_i hU
  clear T P1 R1 P2 R2 b3 b4 b5
  generalize hq : hierB ps0 rs0 zs1 rs1 = q
  have HQ := Lib.hid hq
  clear hq
  obtain ⟨x0, x1, y0, y1, K⟩ := hU
  have T : TwoS w w.heap.size (w.heap.size + 1) (.slice A0 ps0.length ca0) (.slice B0 rs0.length cb0) (.slice A1 zs1.length ca1) (.slice B1 rs1.length cb1) _ := ⟨x0, x1, y0, y1, K⟩
  go_wp2_with fail
  clear x0 x1 y0 y1
  refine (toNet_any A0 B0 ca0 cb0 ps0 rs0 _ hn hm (hP.below K) (hR.below K)).mono ?_; rintro e w6 ⟨d1, d2, rfl, -, hd12, P1, R1, b6⟩
  replace T := TwoS.under b6 T
  have XN := Pair.new w6 49 (.slice (some ⟨d1, 0, none⟩) ps0.length ps0.length) (.slice (some ⟨d2, 0, none⟩) rs0.length rs0.length)
  have kb := below1 w6 (.cells #[.slice (some ⟨d1, 0, none⟩) ps0.length ps0.length, .slice (some ⟨d2, 0, none⟩) rs0.length rs0.length] 49)
  replace T := TwoS.under kb T
  replace P1 := rowIs_below P1 kb
  replace R1 := rowIs_below R1 kb
  clear kb K b6
  obtain ⟨x0, x1, y0, y1, K⟩ := T
  have T : TwoS w w.heap.size (w.heap.size + 1) (.slice A0 ps0.length ca0) (.slice B0 rs0.length cb0) (.slice A1 zs1.length ca1) (.slice B1 rs1.length cb1) _ := ⟨x0, x1, y0, y1, K⟩
  go_wp2_with fail
  clear x0 x1 y0 y1
  obtain ⟨nb, hnb⟩ : ∃ nb, nb = w6.heap.size := ⟨_, rfl⟩
  rw [← hnb] at XN ⊢
  obtain ⟨W6, hW6⟩ : ∃ W6, W6 = w6.alloc (.cells #[.slice (some ⟨d1, 0, none⟩) ps0.length ps0.length, .slice (some ⟨d2, 0, none⟩) rs0.length rs0.length] 49) := ⟨_, rfl⟩
  rw [← hW6] at XN P1 R1 T K ⊢
  clear hW6 hnb
  refine (toHierZ_any A1 B1 ca1 cb1 zs1 rs1 _ hzn hhn (hZ.below K) (hH.below K)).mono ?_; rintro e w7 ⟨e1, e2, rfl, -, he12, P2, R2, b7⟩
  replace T := TwoS.under b7 T
  replace XN := XN.below b7
  replace P1 := rowIs_below P1 b7
  replace R1 := rowIs_below R1 b7
  have XH := Pair.new w7 27 (.slice (some ⟨e1, 0, none⟩) zs1.length zs1.length) (.slice (some ⟨e2, 0, none⟩) rs1.length rs1.length)
  have kb := below1 w7 (.cells #[.slice (some ⟨e1, 0, none⟩) zs1.length zs1.length, .slice (some ⟨e2, 0, none⟩) rs1.length rs1.length] 27)
  replace T := TwoS.under kb T
  replace XN := XN.below kb
  replace P1 := rowIs_below P1 kb
  replace R1 := rowIs_below R1 kb
  replace P2 := rowIs_below P2 kb
  replace R2 := rowIs_below R2 kb
  clear kb K b7
  obtain ⟨n0, n1, -, -⟩ := XN.cells
  obtain ⟨h0, h1, -, -⟩ := XH.cells
  go_wp2_with fail
  clear n0 n1 h0 h1
  refine (implHierOk_any _ _ _ _ _ _ _ _ ps0 rs0 zs1 rs1 _ hn hm hzn hhn (PtsRow.is P1) (ArcsRow.is R1) (ZRow.is P2) (HsRow.is R2)).mono ?_; rw [HQ.out]; rintro e w8 ⟨rfl, b8⟩
  obtain ⟨x0, x1, y0, y1, K⟩ := TwoS.under b8 T
  have U : LawS w w.heap.size (.slice A0 ps0.length ca0) (.slice B0 rs0.length cb0) nb (.slice (some ⟨d1, 0, none⟩) ps0.length ps0.length) (.slice (some ⟨d2, 0, none⟩) rs0.length rs0.length) d1 d2 ps0 rs0 w8 ∧ LawH w (w.heap.size + 1) (.slice A1 zs1.length ca1) (.slice B1 rs1.length cb1) w7.heap.size (.slice (some ⟨e1, 0, none⟩) zs1.length zs1.length) (.slice (some ⟨e2, 0, none⟩) rs1.length rs1.length) e1 e2 zs1 rs1 w8 :=
    ⟨⟨x0, x1, (XN.below b8).cells.1, (XN.below b8).cells.2.1, rowIs_below P1 b8, rowIs_below R1 b8, K⟩, y0, y1, (XH.below b8).cells.1, (XH.below b8).cells.2.1, rowIs_below P2 b8, rowIs_below R2 b8, K⟩
  clear x0 x1 y0 y1 K T XN XH P1 R1 P2 R2 b8 HQ
  have hqq : (q != q) = false := by cases q <;> rfl
  go_wp2_with fail
  go_region_held3 (fun w' => LawS w w.heap.size (.slice A0 ps0.length ca0) (.slice B0 rs0.length cb0) nb (.slice (some ⟨d1, 0, none⟩) ps0.length ps0.length) (.slice (some ⟨d2, 0, none⟩) rs0.length rs0.length) d1 d2 ps0 rs0 w' ∧ LawH w (w.heap.size + 1) (.slice A1 zs1.length ca1) (.slice B1 rs1.length cb1) w7.heap.size (.slice (some ⟨e1, 0, none⟩) zs1.length zs1.length) (.slice (some ⟨e2, 0, none⟩) rs1.length rs1.length) e1 e2 zs1 rs1 w')
    (first | exact ⟨LawS.drew U.1, LawH.drew U.2⟩ | assumption | (refine ⟨LawS.under ?_ (And.left (by assumption)), LawH.under ?_ (And.right (by assumption))⟩ <;> assumption))
    (first
      | (go_at_call 16; refine (toNet_any A0 B0 ca0 cb0 ps0 rs0 _ hn hm (hP.below (LawS.bel (And.left (by assumption)))) (hR.below (LawS.bel (And.left (by assumption))))).mono ?_; rintro e w9 ⟨f1, f2, rfl, -, -, P3, R3, b9⟩)
      | (go_at_call 19; refine (eqNet_same _ _ _ _ _ _ _ _ ps0 rs0 _ hn hm (LawS.pts (And.left (by assumption))) (LawS.arcs (And.left (by assumption))) P3.is R3.is).mono ?_; rintro e w10 ⟨rfl, b10⟩))
  rename_i hU
  clear U P3 R3 b9 b10
  have U := hU
  clear hU
  go_wp2_with fail
  go_region_held3 (fun w' => LawS w w.heap.size (.slice A0 ps0.length ca0) (.slice B0 rs0.length cb0) nb (.slice (some ⟨d1, 0, none⟩) ps0.length ps0.length) (.slice (some ⟨d2, 0, none⟩) rs0.length rs0.length) d1 d2 ps0 rs0 w' ∧ LawH w (w.heap.size + 1) (.slice A1 zs1.length ca1) (.slice B1 rs1.length cb1) w7.heap.size (.slice (some ⟨e1, 0, none⟩) zs1.length zs1.length) (.slice (some ⟨e2, 0, none⟩) rs1.length rs1.length) e1 e2 zs1 rs1 w')
    (first | exact ⟨LawS.drew U.1, LawH.drew U.2⟩ | assumption | (refine ⟨LawS.under ?_ (And.left (by assumption)), LawH.under ?_ (And.right (by assumption))⟩ <;> assumption))
    (first
      | (go_at_call 17; refine (toHierZ_any A1 B1 ca1 cb1 zs1 rs1 _ hzn hhn (hZ.below (LawS.bel (And.left (by assumption)))) (hH.below (LawS.bel (And.left (by assumption))))).mono ?_; rintro e w11 ⟨f1, f2, rfl, -, -, P3, R3, b11⟩)
      | (go_at_call 20; refine (eqHier_same _ _ _ _ _ _ _ _ zs1 rs1 _ hzn hhn (LawH.pts (And.right (by assumption))) (LawH.arcs (And.right (by assumption))) P3.is R3.is).mono ?_; rintro e w12 ⟨rfl, b12⟩))
  rename_i hU
  have KE := LawS.bel (And.left hU)
  go_wp2
  go_ret
  exact ⟨rfl, KE⟩

/-! ### The row's step. -/
set_option maxRecDepth 100000 in
theorem lifted (os : Os) (started : os.Started) (H : Type) (enc : TypeId × Value → H) :
    ReturnsInHanded {} Try.checked os 4 .any (Rows.fnExactHierOkSpec.pre6 enc Try.prog Try.f4 Rows.fnExactHierOkRow.domain false) (Rows.fnExactHierOkSpec.post enc Try.prog Try.f4 false true false false) := by
  refine returnsInHanded_of_change (C := Try.checked) own started (by kernel_rfl) Try.func4
    (ChangeSpec.witness6 (enc := enc) (C := Try.checked) false ⟨#[], #[.agg #[.slice none 0 0, .slice none 0 0], .agg #[.slice none 0 0, .slice none 0 0]], []⟩ 8 (by kernel_rfl) (by kernel_rfl) (by kernel_rfl) (by kernel_rfl)) ?_
  intro W base args ds gs before hval0 hW hcnd _
  have hval : ∀ (j : Nat) t v, Try.f4.params[j]? = some t → args[j]? = some v → Value.okWide Try.prog W .any base t v := hval0
  have hW' := hW
  obtain ⟨p, q, hA0, hV, rfl, hfz, hnd⟩ := hW
  have hA : DataW.TrodAll enc Try.prog W 0 (fun _ => true) true Try.f4.params.toList args.toList ds p := hA0
  rw [Try.params4] at hA hval
  obtain ⟨v0, vs0, d0, ds0, p0, q0, hargs, rfl, rfl, h0, r0⟩ := trodAll_cons hA
  obtain ⟨v1, vs1, d1, ds1, p1, q1, rfl, rfl, rfl, h1, r1⟩ := trodAll_cons r0
  obtain ⟨rfl, rfl, rfl⟩ := trodAll_nil r1
  obtain rfl : args = #[v0, v1] := by cases args; simp_all
  obtain ⟨rfl, rfl⟩ := trodVars_none hV
  have k0 := h0
  have lt0 : ∀ x ∈ p0, x.block < W.heap.size := by obtain ⟨m, hm⟩ := k0; exact DataW.trod_lt m _ _ _ hm
  obtain ⟨A0, B0, ca0, cb0, ps0, rs0, rfl, w0⟩ := opens_net (hval 0 39 v0 rfl rfl) h0
  have k1 := h1
  have lt1 : ∀ x ∈ p1, x.block < W.heap.size := by obtain ⟨m, hm⟩ := k1; exact DataW.trod_lt m _ _ _ hm
  obtain ⟨A1, B1, ca1, cb1, zs1, rs1, rfl, w1⟩ := opens_hier (hval 1 42 v1 rfl rfl) h1
  clear hA0 hval0
  refine (walk A0 B0 ca0 cb0 ps0 rs0 A1 B1 ca1 cb1 zs1 rs1 W w0 w1).mono fun e W' ⟨he, bel⟩ => ?_
  subst he
  exact ⟨_, rfl, _, _, _, [], _, [], hW', trodAll_mk1 (shut_bool Try.underlying4 _), (trodAll_cons_mk (Below.trod laidOut (by kernel_rfl) (of_decide_eq_true (by kernel_rfl)) k0 bel lt0) (trodAll_cons_mk (Below.trod laidOut (by kernel_rfl) (of_decide_eq_true (by kernel_rfl)) k1 bel lt1) trodAll_mk0)), rfl, bel.frame _, fun h => by cases h⟩

theorem over : Rows.fnExactHierOkRow.holds Try.pinned (OpenSpec.ofChange Rows.fnExactHierOkSpec) :=
  OpenClaim.holds_of_wide 4 Try.f4 rfl rfl rfl rfl rfl rfl rfl ⟨rfl, rfl, rfl, rfl, rfl⟩ rfl rfl rfl rfl rfl (by kernel_rfl) Try.func4 (by kernel_rfl)
    (of_decide_eq_true (by kernel_rfl)) (by unfold Func.isWrapper; first | (rw [if_pos (by decide +kernel)]; kernel_rfl) | (rw [if_neg (by decide +kernel)]; exact ⟨rfl, rfl⟩))
    (fun os started H enc _ => lifted os started H enc)

/-- ████ THE STATEMENT ████ -/
theorem proved : Rows.FnExactHierOkSaid := over
#print axioms proved
end Go.Proofs.Ytagaildnfbegkaa.fnExactHierOk
