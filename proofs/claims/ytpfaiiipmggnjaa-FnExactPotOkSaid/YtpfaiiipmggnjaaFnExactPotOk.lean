/-
  For every network and every slice of numbers the law FnExactPotOk returns true: the program's PotOk answers as the specification's and writes into neither of its arguments (no condition).
-/
import Derived.Test.YtpfaiiipmggnjaaRows
import Derived.WalkKit
import Derived.ProofKit
import Derived.OpenShut
import Derived.ShutString
import Derived.ChangeOld
import Derived.Below
import Derived.Test.YtpfaiiipmggnjaaNetFrame
import Derived.Test.YtpfaiiipmggnjaaIntsOpen
import Derived.Test.YtpfaiiipmggnjaaSlices
import Derived.Test.YtpfaiiipmggnjaaPots
namespace Go.Proofs.Ytpfaiiipmggnjaa.fnExactPotOk
open Go.ChangeShapes Go.WideShapes Go.ChangeAt Go.RowKit
open Go.ChangeMaps (open_string shut_string)
set_option linter.unusedVariables false

theorem own : ownKnob Try.prog.godebug = none := by kernel_rfl
theorem laidOut : laidOutB Try.prog = true := by kernel_rfl

theorem eqIntS_bel (A B : Option Addr) (ca cb : Nat) (zs : List Int) (w : World) (hn : zs.length ≤ 1048576) (ha : IsInts w A zs) (hb : IsInts w B zs) :
    Calls Try.prog 45 #[.slice A zs.length ca, .slice B zs.length cb] w fun e w' => e = .returned (.bool true) ∧ Below w.heap.size w w' :=
  (eqIntS_same A B ca cb zs w hn ha hb).mono fun e w' ⟨h, n, hw⟩ => ⟨h, by rw [hw]; exact below_drewN (Below.refl _ _) n⟩
/-- The law's frame, and the route that was handed over beside. -/
abbrev LawR (base : World) (xb : Nat) (u v : Value) (tb : Nat) (s t : Value) (b1 b2 : Nat) (ps : List (Int × Int)) (rs : List (Int × Int × Int)) (A : Option Addr) (zs : List Int) (w : World) : Prop :=
  LawS base xb u v tb s t b1 b2 ps rs w ∧ IsInts w A zs
section
variable {base w w' : World} {xb : Nat} {u v : Value} {tb : Nat} {s t : Value} {b1 b2 : Nat} {ps : List (Int × Int)} {rs : List (Int × Int × Int)} {A : Option Addr} {zs : List Int}
theorem LawR.under (hb : Below w.heap.size w w') (h : LawR base xb u v tb s t b1 b2 ps rs A zs w) : LawR base xb u v tb s t b1 b2 ps rs A zs w' := ⟨LawS.under hb h.1, h.2.below hb⟩
theorem LawR.drew (h : LawR base xb u v tb s t b1 b2 ps rs A zs w) : LawR base xb u v tb s t b1 b2 ps rs A zs w.drew := ⟨LawS.drew h.1, h.2.below (Below.refl _ _).drew⟩
theorem LawR.bel (h : LawR base xb u v tb s t b1 b2 ps rs A zs w) : Below base.heap.size base w := LawS.bel h.1
theorem LawR.pts (h : LawR base xb u v tb s t b1 b2 ps rs A zs w) : IsPts w (some ⟨b1, 0, none⟩) ps := LawS.pts h.1
theorem LawR.arcs (h : LawR base xb u v tb s t b1 b2 ps rs A zs w) : IsArcs w (some ⟨b2, 0, none⟩) rs := LawS.arcs h.1
end

/-! ### The walk. -/
set_option maxHeartbeats 4000000 in
set_option maxRecDepth 100000 in
theorem walk (A0 B0 : Option Addr) (ca0 cb0 : Nat) (ps0 : List (Int × Int)) (rs0 : List (Int × Int × Int)) (A1 : Option Addr) (ca1 : Nat) (zs1 : List Int) (w : World) (w0 : NetIn w A0 B0 ca0 cb0 ps0 rs0) (w1 : IntsIn w A1 ca1 zs1) :
    Calls Try.prog 9 #[.agg #[.slice A0 ps0.length ca0, .slice B0 rs0.length cb0], .slice A1 zs1.length ca1] w fun e w' => e = .returned (.bool true) ∧ Below w.heap.size w w' := by
  obtain ⟨⟨hc0, hc1, hc3, hc2⟩, hP, hR, -, -⟩ := w0
  obtain ⟨hcz, hI⟩ := w1
  have X := Pair.new w 53 (.slice A0 ps0.length ca0) (.slice B0 rs0.length cb0)
  have K := below1 w (.cells #[.slice A0 ps0.length ca0, .slice B0 rs0.length cb0] 53)
  by_cases hzl : 1048576 < zs1.length
  · have hd : decide ((1048576 : Int) < zs1.length) = true := decide_eq_true (by omega)
    have hd' : (1048576 : Int) < zs1.length := by omega
    go_enter Try.func9, Try.ntmps9
    go_wp2
    go_ret
    exact ⟨rfl, K⟩
  have hzl' : zs1.length ≤ 1048576 := by omega
  have hzd : ¬ (1048576 : Int) < zs1.length := by omega
  by_cases hs : ps0.length + rs0.length ≤ 1048576
  rotate_left
  · go_enter Try.func9, Try.ntmps9
    go_wp2_with fail
    refine (szNet_no A0 B0 ps0.length rs0.length ca0 cb0 (by omega) (by omega) (by omega) _).mono ?_; rintro e w1 ⟨rfl, b1⟩
    have k1 := K.trans (b1.mono K.size)
    go_wp2
    go_ret
    exact ⟨rfl, k1⟩
  · have hz : ¬ ((1048576 : Int) - ps0.length - rs0.length < 0) := by omega
    have hn : ps0.length ≤ 1048576 := by omega
    have hm : rs0.length ≤ 1048576 := by omega
    obtain ⟨q, HQ⟩ : ∃ q, Hid (potB ps0 rs0 zs1 = q) := ⟨_, Lib.hid rfl⟩
    go_enter Try.func9, Try.ntmps9
    go_wp2_with fail
    refine (szNet_yes A0 B0 ps0.length rs0.length ca0 cb0 hs _).mono ?_; rintro e w1 ⟨rfl, b1⟩
    replace X := X.below b1
    replace K := K.trans (b1.mono K.size)
    clear b1
    obtain ⟨x0, x1, -, -⟩ := X.cells
    go_wp2_with fail
    clear x0 x1
    refine (toNet_any A0 B0 ca0 cb0 ps0 rs0 _ hn hm (hP.below K) (hR.below K)).mono ?_; rintro e w2 ⟨c1, c2, rfl, hl1, hl2, P1, R1, b2⟩
    replace X := X.below b2
    replace K := K.trans (b2.mono K.size)
    clear b2 hl1 hl2
    go_wp2_with fail
    refine (toIntS_any A1 ca1 zs1 _ hzl' (hI.below K)).mono ?_; rintro e w3 ⟨rfl, r3, b3⟩
    have I3 := IsInts.row r3
    have P3 := P1.is.below b3
    have R3 := R1.is.below b3
    replace X := X.below b3
    replace K := K.trans (b3.mono K.size)
    clear b3 P1 R1 r3
    go_wp2_with fail
    refine (specPotOk_any _ _ _ _ _ _ ps0 rs0 zs1 _ hn hm hzl' P3 R3 I3).mono ?_; rw [HQ.out]; rintro e w4 ⟨rfl, b4⟩
    replace X := X.below b4
    replace K := K.trans (b4.mono K.size)
    clear b4 P3 R3 I3
    obtain ⟨x0, x1, -, -⟩ := X.cells
    go_wp2_with fail
    clear x0 x1
    refine (toNet_any A0 B0 ca0 cb0 ps0 rs0 _ hn hm (hP.below K) (hR.below K)).mono ?_; rintro e w5 ⟨d1, d2, rfl, hl1, hl2, P2, R2, b5⟩
    replace X := X.below b5
    replace K := K.trans (b5.mono K.size)
    clear b5 hl1 hl2
    have Y := Pair.new w5 27 (.slice (some ⟨d1, 0, none⟩) ps0.length ps0.length) (.slice (some ⟨d2, 0, none⟩) rs0.length rs0.length)
    have k5 := below1 w5 (.cells #[.slice (some ⟨d1, 0, none⟩) ps0.length ps0.length, .slice (some ⟨d2, 0, none⟩) rs0.length rs0.length] 27)
    replace P2 := rowIs_below P2 k5
    replace R2 := rowIs_below R2 k5
    replace X := X.below k5
    replace K := K.trans (k5.mono K.size)
    clear k5
    obtain ⟨W5, hW5⟩ : ∃ W5, W5 = w5.alloc (.cells #[.slice (some ⟨d1, 0, none⟩) ps0.length ps0.length, .slice (some ⟨d2, 0, none⟩) rs0.length rs0.length] 27) := ⟨_, rfl⟩
    rw [← hW5] at P2 R2 X Y K
    have HW5 := Lib.hid hW5
    clear hW5
    go_wp2_with fail
    rw [← HW5.out]
    clear HW5
    refine (toIntS_any A1 ca1 zs1 _ hzl' (hI.below K)).mono ?_; rintro e w6 ⟨rfl, r6, b6⟩
    have I6 := IsInts.row r6
    replace X := X.below b6
    replace Y := Y.below b6
    replace P2 := rowIs_below P2 b6
    replace R2 := rowIs_below R2 b6
    replace K := K.trans (b6.mono K.size)
    clear b6 r6
    obtain ⟨y0, y1, -, -⟩ := Y.cells
    go_wp2_with fail
    clear y0 y1
    refine (implPotOk_any _ _ _ _ _ _ ps0 rs0 zs1 _ hn hm hzl' (PtsRow.is P2) (ArcsRow.is R2) I6).mono ?_; rw [HQ.out]; rintro e w7 ⟨rfl, b7⟩
    have T : LawR w w.heap.size (.slice A0 ps0.length ca0) (.slice B0 rs0.length cb0) w5.heap.size (.slice (some ⟨d1, 0, none⟩) ps0.length ps0.length) (.slice (some ⟨d2, 0, none⟩) rs0.length rs0.length) d1 d2 ps0 rs0 (some ⟨W5.heap.size, 0, none⟩) zs1 w7 :=
      ⟨⟨(X.below b7).cells.1, (X.below b7).cells.2.1, (Y.below b7).cells.1, (Y.below b7).cells.2.1, rowIs_below P2 b7, rowIs_below R2 b7, K.trans (b7.mono K.size)⟩, I6.below b7⟩
    clear b7 X Y K P2 R2 I6
    have hqq : (q != q) = false := by simp
    go_wp2_with fail
    go_region_held3 (fun w' => LawR w w.heap.size (.slice A0 ps0.length ca0) (.slice B0 rs0.length cb0) w5.heap.size (.slice (some ⟨d1, 0, none⟩) ps0.length ps0.length) (.slice (some ⟨d2, 0, none⟩) rs0.length rs0.length) d1 d2 ps0 rs0 (some ⟨W5.heap.size, 0, none⟩) zs1 w')
      (first | exact LawR.drew T | (refine LawR.under (by assumption) ?_; assumption))
      (first
        | (go_at_call 36; refine (toNet_any A0 B0 ca0 cb0 ps0 rs0 _ hn hm (hP.below (LawR.bel (by assumption))) (hR.below (LawR.bel (by assumption)))).mono ?_; rintro e w8 ⟨f1, f2, rfl, hl1, hl2, P3, R3, b8⟩)
        | (go_at_call 38; refine (eqNet_same _ _ _ _ _ _ _ _ ps0 rs0 _ hn hm (LawR.pts (by assumption)) (LawR.arcs (by assumption)) P3.is R3.is).mono ?_; rintro e w9 ⟨rfl, b9⟩))
    rename_i hU
    have k := LawR.bel hU
    have I := hU.2
    clear hU T P3 R3 b8 b9 hl1 hl2
    go_wp2_with fail
    refine (toIntS_any A1 ca1 zs1 _ hzl' (hI.below k)).mono ?_; rintro e w10 ⟨rfl, r10, b10⟩
    have I10 := IsInts.row r10
    replace I := I.below b10
    replace k := k.trans (b10.mono k.size)
    clear b10 r10
    go_wp2_with fail
    refine (eqIntS_bel _ _ _ _ zs1 _ hzl' I I10).mono ?_; rintro e w11 ⟨rfl, b11⟩
    replace k := k.trans (b11.mono k.size)
    go_wp2
    go_ret
    exact ⟨rfl, k⟩

/-! ### The row's step. -/
set_option maxRecDepth 100000 in
theorem lifted (os : Os) (started : os.Started) (H : Type) (enc : TypeId × Value → H) :
    ReturnsInHanded {} Try.checked os 9 .any (Rows.fnExactPotOkSpec.pre6 enc Try.prog Try.f9 Rows.fnExactPotOkRow.domain false) (Rows.fnExactPotOkSpec.post enc Try.prog Try.f9 false true false false) := by
  refine returnsInHanded_of_change (C := Try.checked) own started (by kernel_rfl) Try.func9
    (ChangeSpec.witness6 (enc := enc) (C := Try.checked) false ⟨#[], #[.agg #[.slice none 0 0, .slice none 0 0], .slice none 0 0], []⟩ 8 (by kernel_rfl) (by kernel_rfl) (by kernel_rfl) (by kernel_rfl)) ?_
  intro W base args ds gs before hval0 hW hcnd _
  have hval : ∀ (j : Nat) t v, Try.f9.params[j]? = some t → args[j]? = some v → Value.okWide Try.prog W .any base t v := hval0
  have hW' := hW
  obtain ⟨p, q, hA0, hV, rfl, hfz, hnd⟩ := hW
  have hA : DataW.TrodAll enc Try.prog W 0 (fun _ => true) true Try.f9.params.toList args.toList ds p := hA0
  rw [Try.params9] at hA hval
  obtain ⟨v0, vs0, d0, ds0, p0, q0, hargs, rfl, rfl, h0, r0⟩ := trodAll_cons hA
  obtain ⟨v1, vs1, d1, ds1, p1, q1, rfl, rfl, rfl, h1, r1⟩ := trodAll_cons r0
  obtain ⟨rfl, rfl, rfl⟩ := trodAll_nil r1
  obtain rfl : args = #[v0, v1] := by cases args; simp_all
  obtain ⟨rfl, rfl⟩ := trodVars_none hV
  have k0 := h0
  have lt0 : ∀ x ∈ p0, x.block < W.heap.size := by obtain ⟨m, hm⟩ := k0; exact DataW.trod_lt m _ _ _ hm
  obtain ⟨A0, B0, ca0, cb0, ps0, rs0, rfl, w0⟩ := opens_net (hval 0 53 v0 rfl rfl) h0
  have k1 := h1
  have lt1 : ∀ x ∈ p1, x.block < W.heap.size := by obtain ⟨m, hm⟩ := k1; exact DataW.trod_lt m _ _ _ hm
  obtain ⟨A1, ca1, zs1, rfl, w1⟩ := opens_ints (hval 1 28 v1 rfl rfl) h1
  clear hA0 hval0
  refine (walk A0 B0 ca0 cb0 ps0 rs0 A1 ca1 zs1 W w0 w1).mono fun e W' ⟨he, bel⟩ => ?_
  subst he
  exact ⟨_, rfl, _, _, _, [], _, [], hW', trodAll_mk1 (shut_bool Try.underlying4 _), (trodAll_cons_mk (Below.trod laidOut (by kernel_rfl) (of_decide_eq_true (by kernel_rfl)) k0 bel lt0) (trodAll_cons_mk (Below.trod laidOut (by kernel_rfl) (of_decide_eq_true (by kernel_rfl)) k1 bel lt1) trodAll_mk0)), rfl, bel.frame _, fun h => by cases h⟩

theorem over : Rows.fnExactPotOkRow.holds Try.pinned (OpenSpec.ofChange Rows.fnExactPotOkSpec) :=
  OpenClaim.holds_of_wide 9 Try.f9 rfl rfl rfl rfl rfl rfl rfl ⟨rfl, rfl, rfl, rfl, rfl⟩ rfl rfl rfl rfl rfl (by kernel_rfl) Try.func9 (by kernel_rfl)
    (of_decide_eq_true (by kernel_rfl)) (by unfold Func.isWrapper; first | (rw [if_pos (by decide +kernel)]; kernel_rfl) | (rw [if_neg (by decide +kernel)]; exact ⟨rfl, rfl⟩))
    (fun os started H enc _ => lifted os started H enc)

/-- ████ THE STATEMENT ████ -/
theorem proved : Rows.FnExactPotOkSaid := over
#print axioms proved
end Go.Proofs.Ytpfaiiipmggnjaa.fnExactPotOk
