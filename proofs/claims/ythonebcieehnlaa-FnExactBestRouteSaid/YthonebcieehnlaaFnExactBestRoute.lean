/-
  For every network and all two numbers the law FnExactBestRoute returns true: the program's BestRoute answers as the specification's, in memory of its own, and writes nothing into the network (no condition).
-/
import Derived.Test.YthonebcieehnlaaRows
import Derived.WalkKit
import Derived.ProofKit
import Derived.OpenShut
import Derived.ShutString
import Derived.ChangeOld
import Derived.Below
import Derived.Test.YthonebcieehnlaaNetFrame
import Derived.Test.YthonebcieehnlaaBestSp
namespace Go.Proofs.Ythonebcieehnlaa.fnExactBestRoute
open Go.ChangeShapes Go.WideShapes Go.ChangeAt Go.RowKit
open Go.ChangeMaps (open_string shut_string)
set_option linter.unusedVariables false

theorem own : ownKnob Try.prog.godebug = none := by kernel_rfl
theorem laidOut : laidOutB Try.prog = true := by kernel_rfl

theorem eqIntS_bel (A B : Option Addr) (ca cb : Nat) (zs : List Int) (w : World) (hn : zs.length ≤ 1048576) (ha : IsInts w A zs) (hb : IsInts w B zs) :
    Calls Try.prog 26 #[.slice A zs.length ca, .slice B zs.length cb] w fun e w' => e = .returned (.bool true) ∧ Below w.heap.size w w' :=
  (eqIntS_same A B ca cb zs w hn ha hb).mono fun e w' ⟨h, n, hw⟩ => ⟨h, by rw [hw]; exact below_drewN (Below.refl _ _) n⟩

theorem brF_le (rs : List (Int × Int × Int)) (d : List Int) : ∀ m u, (brF rs d m u).length ≤ m
  | 0, _ => by simp [brF]
  | m + 1, u => by
    unfold brF
    split
    · simp
    · have := brF_le rs d m (nxt rs d u)
      simp; omega
theorem lenQ (ps : List (Int × Int)) (rs : List (Int × Int × Int)) (s t : Int) : (brt ps rs s t).length ≤ 1048576 := by
  unfold brt
  split
  · simp
  · exact Nat.le_trans (brF_le _ _ _ _) (by omega)

/-- What holds behind the program's call: the frame, the two answers, the marks' places. -/
abbrev OutS (base : World) (xb : Nat) (u v : Value) (tb : Nat) (s t : Value) (b1 b2 : Nat) (ps : List (Int × Int)) (rs : List (Int × Int × Int)) (B1 B2 : Nat) (A1 A2 : Option Addr) (zs : List Int) (w : World) : Prop :=
  LawS base xb u v tb s t b1 b2 ps rs w ∧ OwnSl w B1 3 A1 zs.length (zg zs) ∧ OwnSl w B2 3 A2 zs.length (zg zs)
section
variable {base w w' : World} {xb : Nat} {u v : Value} {tb : Nat} {s t : Value} {b1 b2 : Nat} {ps : List (Int × Int)} {rs : List (Int × Int × Int)} {B1 B2 : Nat} {A1 A2 : Option Addr} {zs : List Int}
theorem OutS.under (hb : Below w.heap.size w w') (h : OutS base xb u v tb s t b1 b2 ps rs B1 B2 A1 A2 zs w) : OutS base xb u v tb s t b1 b2 ps rs B1 B2 A1 A2 zs w' := ⟨LawS.under hb h.1, h.2.1.below hb, h.2.2.below hb⟩
theorem OutS.drew (h : OutS base xb u v tb s t b1 b2 ps rs B1 B2 A1 A2 zs w) : OutS base xb u v tb s t b1 b2 ps rs B1 B2 A1 A2 zs w.drew := ⟨LawS.drew h.1, h.2.1.of_block (fun _ _ _ => rfl), h.2.2.of_block (fun _ _ _ => rfl)⟩
theorem OutS.bel (h : OutS base xb u v tb s t b1 b2 ps rs B1 B2 A1 A2 zs w) : Below base.heap.size base w := LawS.bel h.1
theorem OutS.pts (h : OutS base xb u v tb s t b1 b2 ps rs B1 B2 A1 A2 zs w) : IsPts w (some ⟨b1, 0, none⟩) ps := LawS.pts h.1
theorem OutS.arcs (h : OutS base xb u v tb s t b1 b2 ps rs B1 B2 A1 A2 zs w) : IsArcs w (some ⟨b2, 0, none⟩) rs := LawS.arcs h.1
end
theorem blk_is {b off N g : Nat} (h : blk (some ⟨b, off, none⟩) N = some g) : g = b := by
  unfold blk at h; split at h
  · simpa using h.symm
  · cases h
theorem parted_of {a b N M : Nat} (h : a ≠ b) : Parted (some ⟨a, 0, none⟩) (some ⟨b, 0, none⟩) N M := fun g e e' => h ((blk_is e).symm.trans (blk_is e'))
/-- Two cells of one block. -/
def CellPair (w : World) (b : Nat) (u v : Value) : Prop := w.cell? ⟨b, 0, none⟩ = some u ∧ w.cell? ⟨b, 1, none⟩ = some v
theorem cellPair {w : World} {b : Nat} {u v : Value} (h1 : w.cell? ⟨b, 0, none⟩ = some u) (h2 : w.cell? ⟨b, 1, none⟩ = some v) : CellPair w b u v := ⟨h1, h2⟩
theorem CellPair.cells {w : World} {b : Nat} {u v : Value} (h : CellPair w b u v) : w.cell? ⟨b, 0, none⟩ = some u ∧ w.cell? ⟨b, 1, none⟩ = some v := h
theorem CellPair.of_block {w w' : World} {b : Nat} {u v : Value} (h : CellPair w b u v) (e : ∀ g, g < w.heap.size → g = b → w'.heap[g]? = w.heap[g]?) : CellPair w' b u v := by
  have hb : b < w.heap.size := by simpa using World.block_lt_of_cell? w _ h.1
  exact ⟨(World.cell?_of_block (w := w) (a := ⟨b, 0, none⟩) (e b hb rfl)).trans h.1, (World.cell?_of_block (w := w) (a := ⟨b, 1, none⟩) (e b hb rfl)).trans h.2⟩
theorem CellPair.below {w w' : World} {b : Nat} {u v : Value} (h : CellPair w b u v) (hb : Below w.heap.size w w') : CellPair w' b u v := h.of_block fun g hg _ => hb.block g hg

/-! ### The walk. -/
set_option maxHeartbeats 4000000 in
set_option maxRecDepth 100000 in
theorem walk (A0 B0 : Option Addr) (ca0 cb0 : Nat) (ps0 : List (Int × Int)) (rs0 : List (Int × Int × Int)) (a1 : Int) (a2 : Int) (w : World) (w0 : NetIn w A0 B0 ca0 cb0 ps0 rs0) (w1 : (Lit.int .i64 a1).wf = true) (w2 : (Lit.int .i64 a2).wf = true) :
    Calls Try.prog 7 #[.agg #[.slice A0 ps0.length ca0, .slice B0 rs0.length cb0], .int .i64 a1, .int .i64 a2] w fun e w' => e = .returned (.bool true) ∧ Below w.heap.size w w' := by
  obtain ⟨⟨hc0, hc1, hc3, hc2⟩, hP, hR, -, -⟩ := w0
  have X := Pair.new w 44 (.slice A0 ps0.length ca0) (.slice B0 rs0.length cb0)
  have K := below1 w (.cells #[.slice A0 ps0.length ca0, .slice B0 rs0.length cb0] 44)
  by_cases hs : ps0.length + rs0.length ≤ 1048576
  rotate_left
  · go_enter Try.func7, Try.ntmps7
    go_wp2_with fail
    refine (szNet_no A0 B0 ps0.length rs0.length ca0 cb0 (by omega) (by omega) (by omega) _).mono ?_; rintro e w1 ⟨rfl, b1⟩
    have k1 := K.trans (b1.mono K.size)
    go_wp2
    go_ret
    exact ⟨rfl, k1⟩
  · have hz : ¬ ((1048576 : Int) - ps0.length - rs0.length < 0) := by omega
    have hlen := lenQ ps0 rs0 a1 a2
    go_enter Try.func7, Try.ntmps7
    go_wp2_with fail
    refine (szNet_yes A0 B0 ps0.length rs0.length ca0 cb0 hs _).mono ?_; rintro e w1 ⟨rfl, b1⟩
    replace X := X.below b1
    replace K := K.trans (b1.mono K.size)
    clear b1
    obtain ⟨x0, x1, -, -⟩ := X.cells
    go_wp2_with fail
    clear x0 x1
    refine (toNet_any A0 B0 ca0 cb0 ps0 rs0 _ (by omega) (by omega) (hP.below K) (hR.below K)).mono ?_; rintro e w2 ⟨c1, c2, rfl, hl1, hl2, P1, R1, b2⟩
    replace X := X.below b2
    replace K := K.trans (b2.mono K.size)
    clear b2 hl1 hl2
    go_wp2_with fail
    refine (specBestRoute_any _ _ _ _ ps0 rs0 a1 a2 _ (by omega) (by omega) P1.is R1.is).mono ?_; rintro e w3 ⟨A1, cap1, rfl, hcap1, O1, b3⟩
    replace X := X.below b3
    replace K := K.trans (b3.mono K.size)
    clear b3 P1 R1
    have hO1 : ∀ g, blk A1 (brt ps0 rs0 a1 a2).length = some g → g < w3.heap.size := fun g e => (blk_own O1 e).2
    have HO1 := Lib.hid hO1
    clear hO1
    have hKs := X.lt
    obtain ⟨x0, x1, -, -⟩ := X.cells
    go_wp2_with fail
    clear x0 x1
    refine (toNet_any A0 B0 ca0 cb0 ps0 rs0 _ (by omega) (by omega) (hP.below K) (hR.below K)).mono ?_; rintro e w4 ⟨d1, d2, rfl, hl1, hl2, P2, R2, b4⟩
    replace X := X.below b4
    replace O1 := O1.below b4
    replace K := K.trans (b4.mono K.size)
    clear b4
    have Y := Pair.new w4 27 (.slice (some ⟨d1, 0, none⟩) ps0.length ps0.length) (.slice (some ⟨d2, 0, none⟩) rs0.length rs0.length)
    have k5 := below1 w4 (.cells #[.slice (some ⟨d1, 0, none⟩) ps0.length ps0.length, .slice (some ⟨d2, 0, none⟩) rs0.length rs0.length] 27)
    replace P2 := rowIs_below P2 k5
    replace R2 := rowIs_below R2 k5
    have hd2 := World.rowIs.lt R2
    replace X := X.below k5
    replace O1 := O1.below k5
    replace K := K.trans (k5.mono K.size)
    clear k5
    obtain ⟨W5, hW5⟩ : ∃ W5, W5 = w4.alloc (.cells #[.slice (some ⟨d1, 0, none⟩) ps0.length ps0.length, .slice (some ⟨d2, 0, none⟩) rs0.length rs0.length] 27) := ⟨_, rfl⟩
    rw [← hW5] at P2 R2 hd2 X Y O1 K
    have HW5 := Lib.hid hW5
    clear hW5
    go_wp2_with fail
    rw [← HW5.out]
    clear HW5
    refine (implBestRoute_any _ _ _ _ ps0 rs0 a1 a2 _ (by omega) (by omega) (PtsRow.is P2) (ArcsRow.is R2)).mono ?_; rintro e w5 ⟨A2, cap2, rfl, hcap2, O2, b5⟩
    replace O1 := O1.below b5
    have T : LawS w w.heap.size (.slice A0 ps0.length ca0) (.slice B0 rs0.length cb0) w4.heap.size (.slice (some ⟨d1, 0, none⟩) ps0.length ps0.length) (.slice (some ⟨d2, 0, none⟩) rs0.length rs0.length) d1 d2 ps0 rs0 w5 :=
      ⟨(X.below b5).cells.1, (X.below b5).cells.2.1, (Y.below b5).cells.1, (Y.below b5).cells.2.1, rowIs_below P2 b5, rowIs_below R2 b5, K.trans (b5.mono K.size)⟩
    clear b5 X Y K P2 R2
    go_wp2_with fail
    refine (eqIntS_bel A2 A1 cap2 cap1 _ _ hlen O2.ints O1.ints).mono ?_; rintro e w6 ⟨rfl, b6⟩
    replace T := LawS.under b6 T
    replace O1 := O1.below b6
    replace O2 := O2.below b6
    clear b6
    go_wp2_with fail
    have U : OutS w w.heap.size (.slice A0 ps0.length ca0) (.slice B0 rs0.length cb0) w4.heap.size (.slice (some ⟨d1, 0, none⟩) ps0.length ps0.length) (.slice (some ⟨d2, 0, none⟩) rs0.length rs0.length) d1 d2 ps0 rs0 w2.heap.size W5.heap.size A1 A2 (brt ps0 rs0 a1 a2) w6 := ⟨T, O1, O2⟩
    clear T O1 O2
    go_region_held3 (fun w' => OutS w w.heap.size (.slice A0 ps0.length ca0) (.slice B0 rs0.length cb0) w4.heap.size (.slice (some ⟨d1, 0, none⟩) ps0.length ps0.length) (.slice (some ⟨d2, 0, none⟩) rs0.length rs0.length) d1 d2 ps0 rs0 w2.heap.size W5.heap.size A1 A2 (brt ps0 rs0 a1 a2) w')
      (first | exact OutS.drew U | (refine OutS.under (by assumption) ?_; assumption))
      (first
        | (go_at_call 23; refine (toNet_any A0 B0 ca0 cb0 ps0 rs0 _ (by omega) (by omega) (hP.below (OutS.bel (by assumption))) (hR.below (OutS.bel (by assumption)))).mono ?_; rintro e w7 ⟨f1, f2, rfl, hl3, hl4, P3, R3, b7⟩)
        | (go_at_call 25; refine (eqNet_same _ _ _ _ _ _ _ _ ps0 rs0 _ (by omega) (by omega) (OutS.pts (by assumption)) (OutS.arcs (by assumption)) P3.is R3.is).mono ?_; rintro e w8 ⟨rfl, b8⟩))
    rename_i hU
    clear U P3 R3 b7 b8 hl3 hl4
    obtain ⟨⟨x0, x1, y0, y1, P2, R2, K⟩, O1, O2⟩ := hU
    have hd1 := World.rowIs.lt P2
    have hd2' := World.rowIs.lt R2
    have M1 : OwnSl w8 w.heap.size 84 (some ⟨d1, 0, none⟩) (ps0.length * 2) (flatP ps0) := fun _ => ⟨d1, 0, rfl, by omega, PtsRow.own P2⟩
    have M2 : OwnSl w8 w.heap.size 65 (some ⟨d2, 0, none⟩) (rs0.length * 3) (flatA rs0) := fun _ => ⟨d2, 0, rfl, by omega, ArcsRow.own R2⟩
    have MP : Parted (some ⟨d1, 0, none⟩) (some ⟨d2, 0, none⟩) (ps0.length * 2) (rs0.length * 3) := parted_of (by omega)
    have C0 := cellPair x0 x1
    go_wp2_with fail
    clear x0 x1 y0 y1
    refine (markNet_any _ w.heap.size _ _ ps0.length rs0.length _ _ _ _ 1 (by omega) (by omega) (by omega) M1 M2 MP).mono ?_; rintro e w9 ⟨rfl, -, -, G9⟩
    have hb9 := G9.below (base := w.heap.size) K.size (fun g e => by have := blk_is e; omega) (fun g e => by have := blk_is e; omega)
    replace K := K.trans hb9
    replace O1 := O1.of_block (fun g e hg => G9.2.2.2.2 g hg (fun e' => by have := blk_is e'.symm; have := HO1.out g e; omega) (fun e' => by have := blk_is e'.symm; have := HO1.out g e; omega))
    have hO2 : ∀ g, blk A2 (brt ps0 rs0 a1 a2).length = some g → W5.heap.size ≤ g := fun g e => (blk_own O2 e).1
    replace O2 := O2.of_block (fun g e hg => G9.2.2.2.2 g hg (fun e' => by have := blk_is e'.symm; have := hO2 g e; omega) (fun e' => by have := blk_is e'.symm; have := hO2 g e; omega))
    replace C0 := C0.of_block (fun g hg hx => G9.2.2.2.2 g hg (fun e' => by have := blk_is e'.symm; omega) (fun e' => by have := blk_is e'.symm; omega))
    have HO2 := Lib.hid hO2
    clear hO2 M1 M2 MP P2 R2 G9 hb9
    have hq1 : ¬ ((1 : Int) + (ps0.length * 2 : Nat) + (rs0.length * 3 : Nat) < 0) := by omega
    have hq1' : decide ((1 : Int) + (ps0.length * 2 : Nat) + (rs0.length * 3 : Nat) < 0) = false := decide_eq_false hq1
    go_wp2_with fail
    refine (eqIntS_bel A2 A1 cap2 cap1 _ _ hlen O2.ints O1.ints).mono ?_; rintro e w10 ⟨rfl, b10⟩
    replace O1 := O1.below b10
    replace O2 := O2.below b10
    replace C0 := C0.below b10
    replace K := K.trans (b10.mono K.size)
    clear b10
    go_wp2_with fail
    refine (markIntS_any _ W5.heap.size A2 _ _ _ 1 hlen (by omega) O2).mono ?_; rintro e w11 ⟨rfl, O3, g11, z11⟩
    replace O1 := O1.of_block (fun g e hg => g11.block g hg (fun e' => by have := HO2.out g e'.symm; have := HO1.out g e; omega))
    replace C0 := C0.of_block (fun g hg hx => g11.block g hg (fun e' => by have := HO2.out g e'.symm; omega))
    have Z11 := Lib.hid z11
    have k11 : Below w.heap.size w w11 := K.trans ⟨g11.os, g11.tape, g11.output, g11.size, fun q hq => g11.block q (by have := K.size; omega) (fun e' => by have := HO2.out q e'.symm; omega)⟩
    clear g11 O2 K z11
    have hq2 : ¬ ((1 : Int) + ((brt ps0 rs0 a1 a2).length : Nat) < 0) := by omega
    go_wp2_with fail
    refine (heldIntS_any _ W5.heap.size A2 _ _ 1 hlen (by omega) O3).mono ?_; rintro e w' ⟨rfl, rfl⟩
    obtain ⟨x0, x1⟩ := C0.cells
    go_wp2_with fail
    clear x0 x1
    refine (toNet_any A0 B0 ca0 cb0 ps0 rs0 _ (by omega) (by omega) (hP.below k11) (hR.below k11)).mono ?_; rintro e w12 ⟨f1, f2, rfl, hl3, hl4, P4, R4, b12⟩
    replace O1 := O1.below b12
    replace O3 := O3.below b12
    replace k11 := k11.trans (b12.mono k11.size)
    clear b12 hl3 hl4
    go_wp2_with fail
    refine (implBestRoute_any _ _ _ _ ps0 rs0 a1 a2 _ (by omega) (by omega) P4.is R4.is).mono ?_; rintro e w13 ⟨A3, cap3, rfl, hcap3, O4, b13⟩
    replace O1 := O1.below b13
    replace O3 := O3.below b13
    replace k11 := k11.trans (b13.mono k11.size)
    clear b13 P4 R4
    go_wp2_with fail
    refine (eqIntS_bel A3 A1 cap3 cap1 _ _ hlen O4.ints O1.ints).mono ?_; rintro e w14 ⟨rfl, b14⟩
    replace O3 := O3.below b14
    replace k11 := k11.trans (b14.mono k11.size)
    go_wp2_with fail
    refine (heldIntS_any _ W5.heap.size A2 _ _ 1 hlen (by omega) O3).mono ?_; rintro e w' ⟨rfl, rfl⟩
    go_wp2
    go_ret
    exact ⟨rfl, k11⟩

/-! ### The row's step. -/
set_option maxRecDepth 100000 in
theorem lifted (os : Os) (started : os.Started) (H : Type) (enc : TypeId × Value → H) :
    ReturnsInHanded {} Try.checked os 7 .any (Rows.fnExactBestRouteSpec.pre6 enc Try.prog Try.f7 Rows.fnExactBestRouteRow.domain false) (Rows.fnExactBestRouteSpec.post enc Try.prog Try.f7 false true false false) := by
  refine returnsInHanded_of_change (C := Try.checked) own started (by kernel_rfl) Try.func7
    (ChangeSpec.witness6 (enc := enc) (C := Try.checked) false ⟨#[], #[.agg #[.slice none 0 0, .slice none 0 0], .int .i64 0, .int .i64 0], []⟩ 8 (by kernel_rfl) (by kernel_rfl) (by kernel_rfl) (by kernel_rfl)) ?_
  intro W base args ds gs before hval0 hW hcnd _
  have hval : ∀ (j : Nat) t v, Try.f7.params[j]? = some t → args[j]? = some v → Value.okWide Try.prog W .any base t v := hval0
  have hW' := hW
  obtain ⟨p, q, hA0, hV, rfl, hfz, hnd⟩ := hW
  have hA : DataW.TrodAll enc Try.prog W 0 (fun _ => true) true Try.f7.params.toList args.toList ds p := hA0
  rw [Try.params7] at hA hval
  obtain ⟨v0, vs0, d0, ds0, p0, q0, hargs, rfl, rfl, h0, r0⟩ := trodAll_cons hA
  obtain ⟨v1, vs1, d1, ds1, p1, q1, rfl, rfl, rfl, h1, r1⟩ := trodAll_cons r0
  obtain ⟨v2, vs2, d2, ds2, p2, q2, rfl, rfl, rfl, h2, r2⟩ := trodAll_cons r1
  obtain ⟨rfl, rfl, rfl⟩ := trodAll_nil r2
  obtain rfl : args = #[v0, v1, v2] := by cases args; simp_all
  obtain ⟨rfl, rfl⟩ := trodVars_none hV
  have k0 := h0
  have lt0 : ∀ x ∈ p0, x.block < W.heap.size := by obtain ⟨m, hm⟩ := k0; exact DataW.trod_lt m _ _ _ hm
  obtain ⟨A0, B0, ca0, cb0, ps0, rs0, rfl, w0⟩ := opens_net (hval 0 44 v0 rfl rfl) h0
  have k1 := h1
  have lt1 : ∀ x ∈ p1, x.block < W.heap.size := by obtain ⟨m, hm⟩ := k1; exact DataW.trod_lt m _ _ _ hm
  obtain ⟨a1, rfl, -, -, w1⟩ := open_int Try.underlying3 (hval 1 3 v1 rfl rfl) h1
  have k2 := h2
  have lt2 : ∀ x ∈ p2, x.block < W.heap.size := by obtain ⟨m, hm⟩ := k2; exact DataW.trod_lt m _ _ _ hm
  obtain ⟨a2, rfl, -, -, w2⟩ := open_int Try.underlying3 (hval 2 3 v2 rfl rfl) h2
  clear hA0 hval0
  refine (walk A0 B0 ca0 cb0 ps0 rs0 a1 a2 W w0 w1 w2).mono fun e W' ⟨he, bel⟩ => ?_
  subst he
  exact ⟨_, rfl, _, _, _, [], _, [], hW', trodAll_mk1 (shut_bool Try.underlying4 _), (trodAll_cons_mk (Below.trod laidOut (by kernel_rfl) (of_decide_eq_true (by kernel_rfl)) k0 bel lt0) (trodAll_cons_mk (Below.trod laidOut (by kernel_rfl) (of_decide_eq_true (by kernel_rfl)) k1 bel lt1) (trodAll_cons_mk (Below.trod laidOut (by kernel_rfl) (of_decide_eq_true (by kernel_rfl)) k2 bel lt2) trodAll_mk0))), rfl, bel.frame _, fun h => by cases h⟩

theorem over : Rows.fnExactBestRouteRow.holds Try.pinned (OpenSpec.ofChange Rows.fnExactBestRouteSpec) :=
  OpenClaim.holds_of_wide 7 Try.f7 rfl rfl rfl rfl rfl rfl rfl ⟨rfl, rfl, rfl, rfl, rfl⟩ rfl rfl rfl rfl rfl (by kernel_rfl) Try.func7 (by kernel_rfl)
    (of_decide_eq_true (by kernel_rfl)) (by unfold Func.isWrapper; first | (rw [if_pos (by decide +kernel)]; kernel_rfl) | (rw [if_neg (by decide +kernel)]; exact ⟨rfl, rfl⟩))
    (fun os started H enc _ => lifted os started H enc)

/-- ████ THE STATEMENT ████ -/
theorem proved : Rows.FnExactBestRouteSaid := over
#print axioms proved
end Go.Proofs.Ythonebcieehnlaa.fnExactBestRoute
