/-
  For every two networks the law FnExactSameDists returns true: the program's SameDists answers as the specification's and writes nothing into the networks (no condition).
-/
import Derived.Test.YtjaifbbkfgfdeaaRows
import Derived.WalkKit
import Derived.ProofKit
import Derived.OpenShut
import Derived.ShutString
import Derived.ChangeOld
import Derived.Below
import Derived.Test.YtjaifbbkfgfdeaaNetFrame
import Derived.Test.YtjaifbbkfgfdeaaSameI
namespace Go.Proofs.Ytjaifbbkfgfdeaa.fnExactSameDists
open Go.ChangeShapes Go.WideShapes Go.ChangeAt Go.RowKit
open Go.ChangeMaps (open_string shut_string)
set_option linter.unusedVariables false

theorem own : ownKnob Try.prog.godebug = none := by kernel_rfl
theorem laidOut : laidOutB Try.prog = true := by kernel_rfl

/-- What is left of l behind n and m elements. -/
def szl (l : Int) (n m : Nat) : Int := if (n : Int) + m ≤ l then l - n - m else -1
theorem szNet_more (A B : Option Addr) (n m ca cb : Nat) (l : Int) (hn : n ≤ maxLen) (hm : m ≤ maxLen) (h0 : 0 ≤ l) (h1 : l ≤ 1048576) (w : World) :
    Calls Try.prog 22 #[.agg #[.slice A n ca, .slice B m cb], .int .i64 l] w fun e w' => e = .returned (.int .i64 (szl l n m)) ∧ Below w.heap.size w w' := by
  have X := Pair.new w 43 (.slice A n ca) (.slice B m cb)
  by_cases hx : l < n
  · have H := Lib.hid (szn_no hx)
    have HQ := Lib.hid (show szl l n m = -1 from if_neg (by omega))
    go_enter Try.func22, Try.ntmps22
    go_wp2_with fail
    refine (szPtS_any A n ca l hn h0 h1 _).mono ?_; rintro e w' ⟨rfl, rfl⟩
    rw [H.out]
    go_wp2
    go_ret
    exact ⟨retI HQ.out.symm, below1 _ _⟩
  · have H := Lib.hid (szn_yes hx)
    have hd : ¬ (l - n < 0) := by omega
    by_cases hy : l - n < m
    · have H2 := Lib.hid (szn_no hy)
      have HQ := Lib.hid (show szl l n m = -1 from if_neg (by omega))
      go_enter Try.func22, Try.ntmps22
      go_wp2_with fail
      refine (szPtS_any A n ca l hn h0 h1 _).mono ?_; rintro e w' ⟨rfl, rfl⟩
      rw [H.out]
      go_wp2_with fail
      refine (szArcS_any B m cb _ hm (by omega) (by omega) _).mono ?_; rintro e w' ⟨rfl, rfl⟩
      rw [H2.out]
      go_wp2
      go_ret
      exact ⟨retI HQ.out.symm, below1 _ _⟩
    · have H2 := Lib.hid (szn_yes hy)
      have HQ := Lib.hid (show szl l n m = l - n - m from if_pos (by omega))
      have hd2 : ¬ (l - n - m < 0) := by omega
      go_enter Try.func22, Try.ntmps22
      go_wp2_with fail
      refine (szPtS_any A n ca l hn h0 h1 _).mono ?_; rintro e w' ⟨rfl, rfl⟩
      rw [H.out]
      go_wp2_with fail
      refine (szArcS_any B m cb _ hm (by omega) (by omega) _).mono ?_; rintro e w' ⟨rfl, rfl⟩
      rw [H2.out]
      go_wp2
      go_ret
      exact ⟨retI HQ.out.symm, below1 _ _⟩

/-- What holds behind the program's call: the boxes of the four networks, and what the program was given. -/
abbrev SdL (base : World) (xb yb : Nat) (u v s t : Value) (zb tb d1 d2 d3 d4 : Nat) (ps : List (Int × Int)) (rs : List A3) (qs : List (Int × Int)) (ts : List A3) (w : World) : Prop :=
  SdS base xb yb u v s t w ∧ w.cell? ⟨zb, 0, none⟩ = some (.slice (some ⟨d1, 0, none⟩) ps.length ps.length) ∧ w.cell? ⟨zb, 1, none⟩ = some (.slice (some ⟨d2, 0, none⟩) rs.length rs.length) ∧ w.cell? ⟨tb, 0, none⟩ = some (.slice (some ⟨d3, 0, none⟩) qs.length qs.length) ∧ w.cell? ⟨tb, 1, none⟩ = some (.slice (some ⟨d4, 0, none⟩) ts.length ts.length) ∧
  IsPts w (some ⟨d1, 0, none⟩) ps ∧ IsArcs w (some ⟨d2, 0, none⟩) rs ∧ IsPts w (some ⟨d3, 0, none⟩) qs ∧ IsArcs w (some ⟨d4, 0, none⟩) ts
section
variable {base w w' : World} {xb yb : Nat} {u v s t : Value} {zb tb d1 d2 d3 d4 : Nat} {ps : List (Int × Int)} {rs : List A3} {qs : List (Int × Int)} {ts : List A3}
theorem SdL.under (hb : Below w.heap.size w w') (h : SdL base xb yb u v s t zb tb d1 d2 d3 d4 ps rs qs ts w) : SdL base xb yb u v s t zb tb d1 d2 d3 d4 ps rs qs ts w' := by
  obtain ⟨h0, h1, h2, h3, h4, h5, h6, h7, h8⟩ := h
  exact ⟨SdS.under hb h0, cell_under hb h1, cell_under hb h2, cell_under hb h3, cell_under hb h4, h5.below hb, h6.below hb, h7.below hb, h8.below hb⟩
theorem belDrew (w : World) : Below w.heap.size w w.drew := (Below.refl _ w).drew
theorem SdL.drew (h : SdL base xb yb u v s t zb tb d1 d2 d3 d4 ps rs qs ts w) : SdL base xb yb u v s t zb tb d1 d2 d3 d4 ps rs qs ts w.drew := SdL.under (belDrew w) h
theorem SdL.bel (h : SdL base xb yb u v s t zb tb d1 d2 d3 d4 ps rs qs ts w) : Below base.heap.size base w := SdS.bel h.1
theorem SdL.n0 (h : SdL base xb yb u v s t zb tb d1 d2 d3 d4 ps rs qs ts w) : IsPts w (some ⟨d1, 0, none⟩) ps ∧ IsArcs w (some ⟨d2, 0, none⟩) rs := ⟨h.2.2.2.2.2.1, h.2.2.2.2.2.2.1⟩
theorem SdL.n1 (h : SdL base xb yb u v s t zb tb d1 d2 d3 d4 ps rs qs ts w) : IsPts w (some ⟨d3, 0, none⟩) qs ∧ IsArcs w (some ⟨d4, 0, none⟩) ts := ⟨h.2.2.2.2.2.2.2.1, h.2.2.2.2.2.2.2.2⟩
end

/-! ### The walk. -/
set_option maxHeartbeats 4000000 in
set_option maxRecDepth 100000 in
theorem walk (A0 B0 : Option Addr) (ca0 cb0 : Nat) (ps0 : List (Int × Int)) (rs0 : List (Int × Int × Int)) (A1 B1 : Option Addr) (ca1 cb1 : Nat) (ps1 : List (Int × Int)) (rs1 : List (Int × Int × Int)) (w : World) (w0 : NetIn w A0 B0 ca0 cb0 ps0 rs0) (w1 : NetIn w A1 B1 ca1 cb1 ps1 rs1) :
    Calls Try.prog 9 #[.agg #[.slice A0 ps0.length ca0, .slice B0 rs0.length cb0], .agg #[.slice A1 ps1.length ca1, .slice B1 rs1.length cb1]] w fun e w' => e = .returned (.bool true) ∧ Below w.heap.size w w' := by
  obtain ⟨⟨hc0, hc1, hc3, hc2⟩, hP, hR, -, -⟩ := w0
  obtain ⟨⟨hc4, hc5, hc6, hc7⟩, hP2, hR2, -, -⟩ := w1
  have T := SdS.start w (.slice A0 ps0.length ca0) (.slice B0 rs0.length cb0) (.slice A1 ps1.length ca1) (.slice B1 rs1.length cb1) 43
  by_cases hs : ps0.length + rs0.length ≤ 1048576
  rotate_left
  · have K := SdS.bel T
    clear T
    go_enter Try.func9, Try.ntmps9
    go_wp2_with fail
    refine (szNet_no A0 B0 ps0.length rs0.length ca0 cb0 (by omega) (by omega) (by omega) _).mono ?_; rintro e w2 ⟨rfl, b1⟩
    have k1 := K.trans (b1.mono K.size)
    go_wp2
    go_ret
    exact ⟨rfl, k1⟩
  · have hz : ¬ ((1048576 : Int) - ps0.length - rs0.length < 0) := by omega
    obtain ⟨x0, x1, y0, y1, K⟩ := T
    have T : SdS w w.heap.size (w.heap.size + 1) _ _ _ _ _ := ⟨x0, x1, y0, y1, K⟩
    go_enter Try.func9, Try.ntmps9
    go_wp2_with fail
    refine (szNet_yes A0 B0 ps0.length rs0.length ca0 cb0 hs _).mono ?_; rintro e w2 ⟨rfl, b1⟩
    replace T := SdS.under b1 T
    clear b1 x0 x1 y0 y1 K
    obtain ⟨x0, x1, y0, y1, K⟩ := T
    have T : SdS w w.heap.size (w.heap.size + 1) _ _ _ _ _ := ⟨x0, x1, y0, y1, K⟩
    go_wp2_with fail
    refine (szNet_more A1 B1 ps1.length rs1.length ca1 cb1 _ (by omega) (by omega) (by omega) (by omega) _).mono ?_; rintro e w3 ⟨rfl, b2⟩
    replace T := SdS.under b2 T
    clear b2 x0 x1 y0 y1 K
    by_cases hs2 : ((ps1.length : Nat) : Int) + ((rs1.length : Nat) : Int) ≤ (1048576 : Int) - ps0.length - rs0.length
    rotate_left
    · rw [show szl _ _ _ = -1 from if_neg hs2]
      have K := SdS.bel T
      clear T
      go_wp2
      go_ret
      exact ⟨rfl, K⟩
    · rw [show szl _ _ _ = (1048576 : Int) - ps0.length - rs0.length - ps1.length - rs1.length from if_pos hs2]
      have hz2 : ¬ ((1048576 : Int) - ps0.length - rs0.length - ps1.length - rs1.length < 0) := by omega
      go_wp2_with fail
      go_region_held3 (fun w' => SdS w w.heap.size (w.heap.size + 1) (.slice A0 ps0.length ca0) (.slice B0 rs0.length cb0) (.slice A1 ps1.length ca1) (.slice B1 rs1.length cb1) w')
        (first | exact SdS.drew T | assumption | (refine SdS.under (by assumption) ?_; assumption))
        (first
          | (go_at_call 23; have J4 := P4; refine (toNet_any A1 B1 ca1 cb1 ps1 rs1 _ (by omega) (by omega) (hP2.below (SdS.bel (by assumption))) (hR2.below (SdS.bel (by assumption)))).mono ?_; rintro e w5 ⟨c3, c4, rfl, -, -, P5, R5, b5⟩; have P4' := (PtsRow.is P4).below b5; have R4' := (ArcsRow.is R4).below b5)
          | (go_at_call 23; refine (toNet_any A0 B0 ca0 cb0 ps0 rs0 _ (by omega) (by omega) (hP.below (SdS.bel (by assumption))) (hR.below (SdS.bel (by assumption)))).mono ?_; rintro e w4 ⟨c1, c2, rfl, -, -, P4, R4, b4⟩)
          | (go_at_call 31; refine (specSameDists_any _ _ _ _ _ _ _ _ ps0 rs0 ps1 rs1 _ (by omega) (by omega) (by omega) (by omega) P4' R4' (PtsRow.is P5) (ArcsRow.is R5)).mono ?_; rintro e w6 ⟨rfl, b6⟩))
      rename_i hU
      clear T P4 R4 P4' R4' P5 R5 b4 b5 b6 J4
      obtain ⟨x0, x1, y0, y1, K⟩ := hU
      have T : SdS w w.heap.size (w.heap.size + 1) _ _ _ _ _ := ⟨x0, x1, y0, y1, K⟩
      go_wp2_with fail
      clear x0 x1 y0 y1
      refine (toNet_any A0 B0 ca0 cb0 ps0 rs0 _ (by omega) (by omega) (hP.below K) (hR.below K)).mono ?_; rintro e w7 ⟨d1, d2, rfl, -, -, P7, R7, b7⟩
      replace T := SdS.under b7 T
      clear b7 K
      have Y := Pair.new w7 27 (.slice (some ⟨d1, 0, none⟩) ps0.length ps0.length) (.slice (some ⟨d2, 0, none⟩) rs0.length rs0.length)
      have k8 := below1 w7 (.cells #[.slice (some ⟨d1, 0, none⟩) ps0.length ps0.length, .slice (some ⟨d2, 0, none⟩) rs0.length rs0.length] 27)
      replace T := SdS.under k8 T
      have IP := (PtsRow.is P7).below k8
      have IA := (ArcsRow.is R7).below k8
      obtain ⟨zb, hzb⟩ : ∃ zb, zb = w7.heap.size := ⟨_, rfl⟩
      obtain ⟨W8, hW8⟩ : ∃ W8, W8 = w7.alloc (.cells #[.slice (some ⟨d1, 0, none⟩) ps0.length ps0.length, .slice (some ⟨d2, 0, none⟩) rs0.length rs0.length] 27) := ⟨_, rfl⟩
      rw [← hzb] at Y
      rw [← hW8] at T IP IA Y
      have HZB := Lib.hid hzb
      have HW8 := Lib.hid hW8
      obtain ⟨x0, x1, y0, y1, K⟩ := T
      have T : SdS w w.heap.size (w.heap.size + 1) _ _ _ _ _ := ⟨x0, x1, y0, y1, K⟩
      have y0' : (w7.alloc (.cells #[.slice (some ⟨d1, 0, none⟩) ps0.length ps0.length, .slice (some ⟨d2, 0, none⟩) rs0.length rs0.length] 27)).cell? ⟨w.heap.size + 1, 0, none⟩ = some (.slice A1 ps1.length ca1) := by rw [← hW8]; exact y0
      have y1' : (w7.alloc (.cells #[.slice (some ⟨d1, 0, none⟩) ps0.length ps0.length, .slice (some ⟨d2, 0, none⟩) rs0.length rs0.length] 27)).cell? ⟨w.heap.size + 1, 1, none⟩ = some (.slice B1 rs1.length cb1) := by rw [← hW8]; exact y1
      clear P7 R7 k8 hzb hW8 x0 x1 y0 y1
      go_wp2_with fail
      rw [← HW8.out, ← HZB.out]
      clear y0' y1' HW8 HZB
      refine (toNet_any A1 B1 ca1 cb1 ps1 rs1 _ (by omega) (by omega) (hP2.below K) (hR2.below K)).mono ?_; rintro e w9 ⟨d3, d4, rfl, -, -, P9, R9, b9⟩
      replace T := SdS.under b9 T
      replace Y := Y.below b9
      replace IP := IP.below b9
      replace IA := IA.below b9
      clear b9 K
      have Z := Pair.new w9 27 (.slice (some ⟨d3, 0, none⟩) ps1.length ps1.length) (.slice (some ⟨d4, 0, none⟩) rs1.length rs1.length)
      have k10 := below1 w9 (.cells #[.slice (some ⟨d3, 0, none⟩) ps1.length ps1.length, .slice (some ⟨d4, 0, none⟩) rs1.length rs1.length] 27)
      have L : SdL w w.heap.size (w.heap.size + 1) (.slice A0 ps0.length ca0) (.slice B0 rs0.length cb0) (.slice A1 ps1.length ca1) (.slice B1 rs1.length cb1) zb w9.heap.size d1 d2 d3 d4 ps0 rs0 ps1 rs1 (w9.alloc (.cells #[.slice (some ⟨d3, 0, none⟩) ps1.length ps1.length, .slice (some ⟨d4, 0, none⟩) rs1.length rs1.length] 27)) :=
        ⟨SdS.under k10 T, (Y.below k10).cells.1, (Y.below k10).cells.2.1, Z.cells.1, Z.cells.2.1, IP.below k10, IA.below k10, (PtsRow.is P9).below k10, (ArcsRow.is R9).below k10⟩
      clear T Y Z IP IA P9 R9 k10
      obtain ⟨T, z0, z1, t0, t1, IP, IA, IP2, IA2⟩ := L
      have L : SdL w w.heap.size (w.heap.size + 1) (.slice A0 ps0.length ca0) (.slice B0 rs0.length cb0) (.slice A1 ps1.length ca1) (.slice B1 rs1.length cb1) zb w9.heap.size d1 d2 d3 d4 ps0 rs0 ps1 rs1 _ := ⟨T, z0, z1, t0, t1, IP, IA, IP2, IA2⟩
      clear T
      go_wp2_with fail
      clear z0 z1 t0 t1
      refine (implSameDists_any _ _ _ _ _ _ _ _ ps0 rs0 ps1 rs1 _ (by omega) (by omega) (by omega) (by omega) IP IA IP2 IA2).mono ?_; rintro e w11 ⟨rfl, b11⟩
      replace L := SdL.under b11 L
      clear b11 IP IA IP2 IA2
      obtain ⟨tb, htb⟩ : ∃ tb, tb = w9.heap.size := ⟨_, rfl⟩
      rw [← htb] at L ⊢
      clear htb
      generalize sdB ps0 rs0 ps1 rs1 = bb
      have hbb : (bb != bb) = false := by simp
      go_wp2_with fail
      go_region_held3 (fun w' => SdL w w.heap.size (w.heap.size + 1) (.slice A0 ps0.length ca0) (.slice B0 rs0.length cb0) (.slice A1 ps1.length ca1) (.slice B1 rs1.length cb1) zb tb d1 d2 d3 d4 ps0 rs0 ps1 rs1 w')
        (first | exact SdL.drew L | assumption | (refine SdL.under (by assumption) ?_; assumption))
        (first
          | (go_at_call 23; refine (toNet_any A0 B0 ca0 cb0 ps0 rs0 _ (by omega) (by omega) (hP.below (SdL.bel (by assumption))) (hR.below (SdL.bel (by assumption)))).mono ?_; rintro e w12 ⟨f1, f2, rfl, -, -, P12, R12, b12⟩)
          | (go_at_call 25; refine (eqNet_same _ _ _ _ _ _ _ _ ps0 rs0 _ (by omega) (by omega) (SdL.n0 (by assumption)).1 (SdL.n0 (by assumption)).2 (PtsRow.is P12) (ArcsRow.is R12)).mono ?_; rintro e w13 ⟨rfl, b13⟩))
      rename_i hL
      clear L P12 R12 b12 b13
      go_wp2_with fail
      go_region_held3 (fun w' => SdL w w.heap.size (w.heap.size + 1) (.slice A0 ps0.length ca0) (.slice B0 rs0.length cb0) (.slice A1 ps1.length ca1) (.slice B1 rs1.length cb1) zb tb d1 d2 d3 d4 ps0 rs0 ps1 rs1 w')
        (first | exact SdL.drew hL | assumption | (refine SdL.under (by assumption) ?_; assumption))
        (first
          | (go_at_call 23; refine (toNet_any A1 B1 ca1 cb1 ps1 rs1 _ (by omega) (by omega) (hP2.below (SdL.bel (by assumption))) (hR2.below (SdL.bel (by assumption)))).mono ?_; rintro e w14 ⟨f3, f4, rfl, -, -, P14, R14, b14⟩)
          | (go_at_call 25; refine (eqNet_same _ _ _ _ _ _ _ _ ps1 rs1 _ (by omega) (by omega) (SdL.n1 (by assumption)).1 (SdL.n1 (by assumption)).2 (PtsRow.is P14) (ArcsRow.is R14)).mono ?_; rintro e w15 ⟨rfl, b15⟩))
      rename_i hM
      have kk := SdL.bel hM
      clear hL hM P14 R14 b14 b15
      go_wp2
      go_ret
      exact ⟨rfl, kk⟩

/-! ### The row's step. -/
set_option maxRecDepth 100000 in
theorem lifted (os : Os) (started : os.Started) (H : Type) (enc : TypeId × Value → H) :
    ReturnsInHanded {} Try.checked os 9 .any (Rows.fnExactSameDistsSpec.pre6 enc Try.prog Try.f9 Rows.fnExactSameDistsRow.domain false) (Rows.fnExactSameDistsSpec.post enc Try.prog Try.f9 false true false false) := by
  refine returnsInHanded_of_change (C := Try.checked) own started (by kernel_rfl) Try.func9
    (ChangeSpec.witness6 (enc := enc) (C := Try.checked) false ⟨#[], #[.agg #[.slice none 0 0, .slice none 0 0], .agg #[.slice none 0 0, .slice none 0 0]], []⟩ 8 (by kernel_rfl) (by kernel_rfl) (by kernel_rfl) (by kernel_rfl)) ?_
  intro W base args ds gs before hval0 hW hcnd _
  have hval : ∀ (j : Nat) t v, Try.f9.params[j]? = some t → args[j]? = some v → Value.okWide Try.prog W .any base t v := hval0
  have hW' := hW
  obtain ⟨p, q, hA0, hV, rfl, hfz, hnd⟩ := hW
  have hA : DataW.TrodAll enc Try.prog W 0 (fun _ => true) true Try.f9.params.toList args.toList ds p := hA0
  rw [Try.params9] at hA hval
  obtain ⟨v0, vs0, d0, ds0, p0, q0, hargs, rfl, rfl, h0, r0⟩ := trodAll_cons hA
  obtain ⟨v1, vs1, d1, ds1, p1, q1, rfl, rfl, rfl, h1, r1⟩ := trodAll_cons r0
  obtain ⟨rfl, rfl, rfl⟩ := trodAll_nil r1
  obtain rfl : args = #[v0, v1] := by cases args; simp_all
  obtain ⟨rfl, rfl⟩ := trodVars_none hV
  have k0 := h0
  have lt0 : ∀ x ∈ p0, x.block < W.heap.size := by obtain ⟨m, hm⟩ := k0; exact DataW.trod_lt m _ _ _ hm
  obtain ⟨A0, B0, ca0, cb0, ps0, rs0, rfl, w0⟩ := opens_net (hval 0 43 v0 rfl rfl) h0
  have k1 := h1
  have lt1 : ∀ x ∈ p1, x.block < W.heap.size := by obtain ⟨m, hm⟩ := k1; exact DataW.trod_lt m _ _ _ hm
  obtain ⟨A1, B1, ca1, cb1, ps1, rs1, rfl, w1⟩ := opens_net (hval 1 43 v1 rfl rfl) h1
  clear hA0 hval0
  refine (walk A0 B0 ca0 cb0 ps0 rs0 A1 B1 ca1 cb1 ps1 rs1 W w0 w1).mono fun e W' ⟨he, bel⟩ => ?_
  subst he
  exact ⟨_, rfl, _, _, _, [], _, [], hW', trodAll_mk1 (shut_bool Try.underlying4 _), (trodAll_cons_mk (Below.trod laidOut (by kernel_rfl) (of_decide_eq_true (by kernel_rfl)) k0 bel lt0) (trodAll_cons_mk (Below.trod laidOut (by kernel_rfl) (of_decide_eq_true (by kernel_rfl)) k1 bel lt1) trodAll_mk0)), rfl, bel.frame _, fun h => by cases h⟩

theorem over : Rows.fnExactSameDistsRow.holds Try.pinned (OpenSpec.ofChange Rows.fnExactSameDistsSpec) :=
  OpenClaim.holds_of_wide 9 Try.f9 rfl rfl rfl rfl rfl rfl rfl ⟨rfl, rfl, rfl, rfl, rfl⟩ rfl rfl rfl rfl rfl (by kernel_rfl) Try.func9 (by kernel_rfl)
    (of_decide_eq_true (by kernel_rfl)) (by unfold Func.isWrapper; first | (rw [if_pos (by decide +kernel)]; kernel_rfl) | (rw [if_neg (by decide +kernel)]; exact ⟨rfl, rfl⟩))
    (fun os started H enc _ => lifted os started H enc)

/-- ████ THE STATEMENT ████ -/
theorem proved : Rows.FnExactSameDistsSaid := over
#print axioms proved
end Go.Proofs.Ytjaifbbkfgfdeaa.fnExactSameDists
