/-
  For every network the law FnExactNetText returns true: the program's NetText answers as the specification's and writes nothing into the network; its condition, that the library's tables read as their initialisers lay them, is tied to the program's text by the card.
-/
import Derived.Test.YtahpjpchphbgiaaDoorRows
import Derived.WalkKit
import Derived.ProofKit
import Derived.OpenShut
import Derived.ShutString
import Derived.ChangeOld
import Derived.Below
import Derived.Test.YtahpjpchphbgiaaDoorNetFrame
import Derived.Test.YtahpjpchphbgiaaDoorNetTxt
import Derived.Test.YtahpjpchphbgiaaDoorTie
import Derived.Test.YtahpjpchphbgiaaDoorCards
import Derived.LaidMore
import Derived.Stop.Joined
import Derived.SevenTiedAt
import Derived.MakeChecks
namespace Go.Proofs.YtahpjpchphbgiaaDoor.fnExactNetText
open Go.ChangeShapes Go.WideShapes Go.ChangeAt Go.RowKit
open Go.ChangeMaps (open_string shut_string)
set_option linter.unusedVariables false

theorem own : ownKnob Tryd.prog.godebug = none := by kernel_rfl
theorem laidOut : laidOutB Tryd.prog = true := by kernel_rfl

/-! ### The walk. -/
set_option maxHeartbeats 2000000 in
set_option maxRecDepth 100000 in
theorem walk (A0 B0 : Option Addr) (ca0 cb0 : Nat) (ps0 : List (Int × Int)) (rs0 : List (Int × Int × Int)) (w : World) (w0 : NetIn w A0 B0 ca0 cb0 ps0 rs0) (hL : laidMetH Tryd.prog Rows.fnExactNetTextRow.laid w) :
    Calls Tryd.prog 4 #[.agg #[.slice A0 ps0.length ca0, .slice B0 rs0.length cb0]] w fun e w' => e = .returned (.bool true) ∧ Below w.heap.size w w' := by
  obtain ⟨⟨hc0, hc1, hc3, hc2⟩, hP, hR, -, -⟩ := w0
  rw [MakeChecks.laidMetH_plain _ _ _ (by kernel_rfl)] at hL
  have ht := Lib.hid (pow10_of hL)
  clear hL
  have X := Pair.new w 38 (.slice A0 ps0.length ca0) (.slice B0 rs0.length cb0)
  have K := below1 w (.cells #[.slice A0 ps0.length ca0, .slice B0 rs0.length cb0] 38)
  by_cases hs : ps0.length + rs0.length ≤ 1048576
  rotate_left
  · go_enter Tryd.func4, Tryd.ntmps4
    go_wp2_with fail
    refine (szNet_no A0 B0 ps0.length rs0.length ca0 cb0 (by omega) (by omega) (by omega) _).mono ?_; rintro e w1 ⟨rfl, b1⟩
    have k1 := K.trans (b1.mono K.size)
    go_wp2
    go_ret
    exact ⟨rfl, k1⟩
  · have hz : ¬ ((1048576 : Int) - ps0.length - rs0.length < 0) := by omega
    go_enter Tryd.func4, Tryd.ntmps4
    go_wp2_with fail
    refine (szNet_yes A0 B0 ps0.length rs0.length ca0 cb0 hs _).mono ?_; rintro e w1 ⟨rfl, b1⟩
    replace X := X.below b1
    replace K := K.trans (b1.mono K.size)
    clear b1
    obtain ⟨x0, x1, -, -⟩ := X.cells
    go_wp2_with fail
    clear x0 x1
    refine (toNet_any A0 B0 ca0 cb0 ps0 rs0 _ (by omega) (by omega) (hP.below K) (hR.below K)).mono ?_; rintro e w2 ⟨c1, c2, rfl, hl1, hl2, P1, R1, b2⟩
    replace X := X.below b2
    replace K := K.trans (b2.mono K.size)
    clear b2 hl1 hl2
    go_wp2_with fail
    refine (specNetText_any _ _ _ _ ps0 rs0 _ (by omega) (by omega) P1.is R1.is).mono ?_; rintro e w3 ⟨rfl, b3⟩
    replace X := X.below b3
    replace K := K.trans (b3.mono K.size)
    clear b3 P1 R1
    obtain ⟨x0, x1, -, -⟩ := X.cells
    go_wp2_with fail
    clear x0 x1
    refine (toNet_any A0 B0 ca0 cb0 ps0 rs0 _ (by omega) (by omega) (hP.below K) (hR.below K)).mono ?_; rintro e w4 ⟨d1, d2, rfl, hl1, hl2, P2, R2, b4⟩
    replace X := X.below b4
    replace K := K.trans (b4.mono K.size)
    clear b4 hl1 hl2
    have Y := Pair.new w4 27 (.slice (some ⟨d1, 0, none⟩) ps0.length ps0.length) (.slice (some ⟨d2, 0, none⟩) rs0.length rs0.length)
    have k5 := below1 w4 (.cells #[.slice (some ⟨d1, 0, none⟩) ps0.length ps0.length, .slice (some ⟨d2, 0, none⟩) rs0.length rs0.length] 27)
    replace P2 := rowIs_below P2 k5
    replace R2 := rowIs_below R2 k5
    replace X := X.below k5
    replace K := K.trans (k5.mono K.size)
    clear k5
    go_wp2_with fail
    refine (implNetText_any _ _ _ _ ps0 rs0 _ (by omega) (by omega) (PtsRow.is P2) (ArcsRow.is R2) (tab_below ht.out K)).mono ?_; rintro e w5 ⟨rfl, b5⟩
    have T : LawS w w.heap.size (.slice A0 ps0.length ca0) (.slice B0 rs0.length cb0) w4.heap.size (.slice (some ⟨d1, 0, none⟩) ps0.length ps0.length) (.slice (some ⟨d2, 0, none⟩) rs0.length rs0.length) d1 d2 ps0 rs0 w5 :=
      ⟨(X.below b5).cells.1, (X.below b5).cells.2.1, (Y.below b5).cells.1, (Y.below b5).cells.2.1, rowIs_below P2 b5, rowIs_below R2 b5, K.trans (b5.mono K.size)⟩
    clear b5 X Y K P2 R2
    go_wp2_with fail
    go_region_held3 (fun w' => LawS w w.heap.size (.slice A0 ps0.length ca0) (.slice B0 rs0.length cb0) w4.heap.size (.slice (some ⟨d1, 0, none⟩) ps0.length ps0.length) (.slice (some ⟨d2, 0, none⟩) rs0.length rs0.length) d1 d2 ps0 rs0 w')
      (first | exact LawS.drew T | (refine LawS.under (by assumption) ?_; assumption))
      (first
        | (go_at_call 17; refine (toNet_any A0 B0 ca0 cb0 ps0 rs0 _ (by omega) (by omega) (hP.below (LawS.bel (by assumption))) (hR.below (LawS.bel (by assumption)))).mono ?_; rintro e w6 ⟨f1, f2, rfl, hl1, hl2, P3, R3, b6⟩)
        | (go_at_call 18; refine (eqNet_same _ _ _ _ _ _ _ _ ps0 rs0 _ (by omega) (by omega) (LawS.pts (by assumption)) (LawS.arcs (by assumption)) P3.is R3.is).mono ?_; rintro e w7 ⟨rfl, b7⟩))
    rename_i hU
    obtain ⟨-, -, -, -, -, -, k⟩ := hU
    go_wp2
    go_ret
    exact ⟨rfl, k⟩

/-! ### The row's step. -/
theorem door_met (os : Os) (args : Array Value) : laidMetH Tryd.prog Rows.fnExactNetTextRow.laid ((World.doorLaid Tryd.prog 72 os).forCall (fun _ _ => 0) ⟨#[], args, []⟩).memory :=
  laidMetH_of_parts3 (fuel := 8) (laidMet_of_run' 8 (by kernel_rfl) (by kernel_rfl)) (by kernel_rfl) (by kernel_rfl)

set_option maxRecDepth 100000 in
theorem lifted (os : Os) (started : os.Started) (H : Type) (enc : TypeId × Value → H) :
    ReturnsInHanded {} Tryd.checked os 4 .any (fun w args => (Rows.fnExactNetTextSpec.pre enc Tryd.prog Tryd.f4 [] false w args ∧ laidMetH Tryd.prog Rows.fnExactNetTextRow.laid w) ∧ sizedMet enc Tryd.prog Tryd.f4 (OpenSpec.ofChange Rows.fnExactNetTextSpec) false w args) (Rows.fnExactNetTextSpec.post enc Tryd.prog Tryd.f4 false true false false) := by
  refine returnsInHanded_of_change_and (C := Tryd.checked) (X := fun w _ => laidMetH Tryd.prog Rows.fnExactNetTextRow.laid w) (fun _ _ _ hh h => h.of_heap hh) own started (by kernel_rfl) Tryd.func4
    (ChangeSpec.witness_shaped (enc := enc) (C := Tryd.checked) (os := os) (X := fun w _ => laidMetH Tryd.prog Rows.fnExactNetTextRow.laid w) false (World.doorLaid Tryd.prog 72 os) #[.agg #[.slice none 0 0, .slice none 0 0]] 8 rfl (World.shaped_of_RefB (by kernel_rfl) (by kernel_rfl)) (by kernel_rfl) (by kernel_rfl) (by kernel_rfl) (door_met os _)) ?_
  intro W base args ds gs before hval0 hW _ _ hL _
  have hval : ∀ (j : Nat) t v, Tryd.f4.params[j]? = some t → args[j]? = some v → Value.okWide Tryd.prog W .any base t v := hval0
  have hW' := hW
  obtain ⟨p, q, hA0, hV, rfl, hfz, hnd⟩ := hW
  have hA : DataW.TrodAll enc Tryd.prog W 0 (fun _ => true) true Tryd.f4.params.toList args.toList ds p := hA0
  rw [Tryd.params4] at hA hval
  obtain ⟨v0, vs0, d0, ds0, p0, q0, hargs, rfl, rfl, h0, r0⟩ := trodAll_cons hA
  obtain ⟨rfl, rfl, rfl⟩ := trodAll_nil r0
  obtain rfl : args = #[v0] := by cases args; simp_all
  obtain ⟨rfl, rfl⟩ := trodVars_none hV
  have k0 := h0
  have lt0 : ∀ x ∈ p0, x.block < W.heap.size := by obtain ⟨m, hm⟩ := k0; exact DataW.trod_lt m _ _ _ hm
  obtain ⟨A0, B0, ca0, cb0, ps0, rs0, rfl, w0⟩ := opens_net (hval 0 38 v0 rfl rfl) h0
  clear hA0 hval0
  refine (walk A0 B0 ca0 cb0 ps0 rs0 W w0 hL).mono fun e W' ⟨he, bel⟩ => ?_
  subst he
  exact ⟨_, rfl, _, _, _, [], _, [], hW', trodAll_mk1 (shut_bool Tryd.underlying4 _), (trodAll_cons_mk (Below.trod laidOut (by kernel_rfl) (of_decide_eq_true (by kernel_rfl)) k0 bel lt0) trodAll_mk0), rfl, bel.frame _, fun h => by cases h⟩

theorem over : Rows.fnExactNetTextRow.holds Tryd.pinned (OpenSpec.ofChange Rows.fnExactNetTextSpec) :=
  OpenClaim.holds_of_wide 4 Tryd.f4 rfl rfl rfl rfl rfl rfl rfl ⟨rfl, rfl, rfl, rfl, rfl⟩ rfl rfl rfl rfl rfl (by kernel_rfl) Tryd.func4 (by kernel_rfl)
    (of_decide_eq_true (by kernel_rfl)) (by unfold Func.isWrapper; first | (rw [if_pos (by decide +kernel)]; kernel_rfl) | (rw [if_neg (by decide +kernel)]; exact ⟨rfl, rfl⟩))
    (fun os started H enc _ => lifted os started H enc)

theorem row_proved : Rows.FnExactNetTextSaid :=
  over

/-- The statement. -/
theorem proved : Rows.FnExactNetTextCardSaid :=
  Claim7.holds_tied_plain_at .later [] [.data, .data, .data] true (true, "17caf94c29cddbf3a41d8c24893b7102ee6178bb16e9805fb88bf07c0d27d553") true
    row_proved (fun _ h => by cases h) (by kernel_rfl) (fun _ h => by cases h) fnExactNetText_row_tie rfl ⟨rfl, rfl⟩ (by kernel_rfl) rfl
    (fun f fn hf hfn => by
      obtain rfl : f = 4 := Option.some.inj ((show Tryd.prog.funcNamed "loop.example/g00640/laws.FnExactNetText" = some 4 by kernel_rfl).symm.trans hf) |>.symm
      obtain rfl : fn = Tryd.f4 := (Option.some.inj (Tryd.func4.symm.trans hfn)).symm
      exact ⟨by kernel_rfl, fun j t ht => by
        rw [Tryd.params4] at ht
        have hm : t ∈ [38] := by simpa using Array.mem_of_getElem? ht
        have hall : ([38].all fun u => !Tryd.prog.wantsStandIn u) = true := by kernel_rfl
        exact (show Tryd.prog.wantsStandIn t = false by simpa using List.all_eq_true.1 hall t hm)⟩)
    (by kernel_rfl)
#print axioms proved
end Go.Proofs.YtahpjpchphbgiaaDoor.fnExactNetText
