/-
  For every network and every slice of numbers the law FnExactRouteArcs returns true: the program's RouteArcs answers as the specification's, in memory of its own, and writes into neither of its arguments (no condition).
-/
import Derived.Test.YthonebcieehnlaaRows
import Derived.WalkKit
import Derived.ProofKit
import Derived.OpenShut
import Derived.ShutString
import Derived.ChangeOld
import Derived.Below
import Derived.Test.YthonebcieehnlaaNetFrame
import Derived.Test.YthonebcieehnlaaIntsOpen
import Derived.Test.YthonebcieehnlaaSlices
import Derived.Test.YthonebcieehnlaaRouteLen
import Derived.Test.YthonebcieehnlaaCollect
namespace Go.Proofs.Ythonebcieehnlaa.fnExactRouteArcs
open Go.ChangeShapes Go.WideShapes Go.ChangeAt Go.RowKit
open Go.ChangeMaps (open_string shut_string)
set_option linter.unusedVariables false

theorem own : ownKnob Try.prog.godebug = none := by kernel_rfl
theorem laidOut : laidOutB Try.prog = true := by kernel_rfl

theorem eqIntS_bel (A B : Option Addr) (ca cb : Nat) (zs : List Int) (w : World) (hn : zs.length ≤ 1048576) (ha : IsInts w A zs) (hb : IsInts w B zs) :
    Calls Try.prog 26 #[.slice A zs.length ca, .slice B zs.length cb] w fun e w' => e = .returned (.bool true) ∧ Below w.heap.size w w' :=
  (eqIntS_same A B ca cb zs w hn ha hb).mono fun e w' ⟨h, n, hw⟩ => ⟨h, by rw [hw]; exact below_drewN (Below.refl _ _) n⟩
theorem lenQ (ps : List (Int × Int)) (rs : List (Int × Int × Int)) (zs : List Int) (h : zs.length ≤ 1048576) : (rtA ps rs zs).length ≤ 1048576 := Nat.le_trans (rtA_len ps rs zs) h
theorem row_own {w : World} {b : Nat} {zs : List Int} (h : w.rowIs b 3 zs.length (fun j => .int .i64 (zg zs j))) : OwnAt w b 3 0 zs.length (zg zs) := by
  obtain ⟨c, h1, h2, h3⟩ := h
  exact ⟨c, h1, by omega, fun i hi => by rw [Nat.zero_add]; exact h3 i hi⟩
/-- What holds behind the program's call: the frame, the route that was handed over, the two answers. -/
abbrev OutS (base : World) (xb : Nat) (u v : Value) (tb : Nat) (s t : Value) (b1 b2 : Nat) (ps : List (Int × Int)) (rs : List (Int × Int × Int)) (b3 : Nat) (rt : List Int) (B1 B2 : Nat) (A1 A2 : Option Addr) (zs : List Int) (w : World) : Prop :=
  LawS base xb u v tb s t b1 b2 ps rs w ∧ OwnAt w b3 3 0 rt.length (zg rt) ∧ OwnSl w B1 3 A1 zs.length (zg zs) ∧ OwnSl w B2 3 A2 zs.length (zg zs)
section
variable {base w w' : World} {xb : Nat} {u v : Value} {tb : Nat} {s t : Value} {b1 b2 : Nat} {ps : List (Int × Int)} {rs : List (Int × Int × Int)} {b3 : Nat} {rt : List Int} {B1 B2 : Nat} {A1 A2 : Option Addr} {zs : List Int}
theorem OutS.under (hb : Below w.heap.size w w') (h : OutS base xb u v tb s t b1 b2 ps rs b3 rt B1 B2 A1 A2 zs w) : OutS base xb u v tb s t b1 b2 ps rs b3 rt B1 B2 A1 A2 zs w' := ⟨LawS.under hb h.1, h.2.1.below hb, h.2.2.1.below hb, h.2.2.2.below hb⟩
theorem OutS.drew (h : OutS base xb u v tb s t b1 b2 ps rs b3 rt B1 B2 A1 A2 zs w) : OutS base xb u v tb s t b1 b2 ps rs b3 rt B1 B2 A1 A2 zs w.drew := ⟨LawS.drew h.1, h.2.1.of_block rfl, h.2.2.1.of_block (fun _ _ _ => rfl), h.2.2.2.of_block (fun _ _ _ => rfl)⟩
theorem OutS.bel (h : OutS base xb u v tb s t b1 b2 ps rs b3 rt B1 B2 A1 A2 zs w) : Below base.heap.size base w := LawS.bel h.1
theorem OutS.pts (h : OutS base xb u v tb s t b1 b2 ps rs b3 rt B1 B2 A1 A2 zs w) : IsPts w (some ⟨b1, 0, none⟩) ps := LawS.pts h.1
theorem OutS.arcs (h : OutS base xb u v tb s t b1 b2 ps rs b3 rt B1 B2 A1 A2 zs w) : IsArcs w (some ⟨b2, 0, none⟩) rs := LawS.arcs h.1
end
theorem own_ints {w : World} {b : Nat} {zs : List Int} (h : OwnAt w b 3 0 zs.length (zg zs)) : IsInts w (some ⟨b, 0, none⟩) zs := fun _ => ⟨b, 0, rfl, h.lt, fun i hi => h.cell hi⟩
theorem blk_is {b off N g : Nat} (h : blk (some ⟨b, off, none⟩) N = some g) : g = b := by
  unfold blk at h; split at h
  · simpa using h.symm
  · cases h
theorem parted_of {a b N M : Nat} (h : a ≠ b) : Parted (some ⟨a, 0, none⟩) (some ⟨b, 0, none⟩) N M := fun g e e' => h ((blk_is e).symm.trans (blk_is e'))
/-- Two cells of one block. -/
def CellPair (w : World) (b : Nat) (u v : Value) : Prop := w.cell? ⟨b, 0, none⟩ = some u ∧ w.cell? ⟨b, 1, none⟩ = some v
theorem cellPair {w : World} {b : Nat} {u v : Value} (h1 : w.cell? ⟨b, 0, none⟩ = some u) (h2 : w.cell? ⟨b, 1, none⟩ = some v) : CellPair w b u v := ⟨h1, h2⟩
theorem CellPair.cells {w : World} {b : Nat} {u v : Value} (h : CellPair w b u v) : w.cell? ⟨b, 0, none⟩ = some u ∧ w.cell? ⟨b, 1, none⟩ = some v := h
theorem CellPair.of_block {w w' : World} {b : Nat} {u v : Value} (h : CellPair w b u v) (e : ∀ g, g < w.heap.size → g = b → w'.heap[g]? = w.heap[g]?) : CellPair w' b u v := by
  have hb : b < w.heap.size := by simpa using World.block_lt_of_cell? w _ h.1
  exact ⟨(World.cell?_of_block (w := w) (a := ⟨b, 0, none⟩) (e b hb rfl)).trans h.1, (World.cell?_of_block (w := w) (a := ⟨b, 1, none⟩) (e b hb rfl)).trans h.2⟩
theorem CellPair.below {w w' : World} {b : Nat} {u v : Value} (h : CellPair w b u v) (hb : Below w.heap.size w w') : CellPair w' b u v := h.of_block fun g hg _ => hb.block g hg

/-! ### The walk. -/
set_option maxHeartbeats 4000000 in
set_option maxRecDepth 100000 in
theorem walk (A0 B0 : Option Addr) (ca0 cb0 : Nat) (ps0 : List (Int × Int)) (rs0 : List (Int × Int × Int)) (A1 : Option Addr) (ca1 : Nat) (zs1 : List Int) (w : World) (w0 : NetIn w A0 B0 ca0 cb0 ps0 rs0) (w1 : IntsIn w A1 ca1 zs1) :
    Calls Try.prog 8 #[.agg #[.slice A0 ps0.length ca0, .slice B0 rs0.length cb0], .slice A1 zs1.length ca1] w fun e w' => e = .returned (.bool true) ∧ Below w.heap.size w w' := by
  obtain ⟨⟨hc0, hc1, hc3, hc2⟩, hP, hR, -, -⟩ := w0
  obtain ⟨hcz, hI⟩ := w1
  have X := Pair.new w 44 (.slice A0 ps0.length ca0) (.slice B0 rs0.length cb0)
  have K := below1 w (.cells #[.slice A0 ps0.length ca0, .slice B0 rs0.length cb0] 44)
  by_cases hzl : 1048576 < zs1.length
  · have hd : decide ((1048576 : Int) < zs1.length) = true := decide_eq_true (by omega)
    have hd' : (1048576 : Int) < zs1.length := by omega
    go_enter Try.func8, Try.ntmps8
    go_wp2
    go_ret
    exact ⟨rfl, K⟩
  have hzl' : zs1.length ≤ 1048576 := by omega
  have hzd : ¬ (1048576 : Int) < zs1.length := by omega
  by_cases hs : ps0.length + rs0.length ≤ 1048576
  rotate_left
  · go_enter Try.func8, Try.ntmps8
    go_wp2_with fail
    refine (szNet_no A0 B0 ps0.length rs0.length ca0 cb0 (by omega) (by omega) (by omega) _).mono ?_; rintro e w1 ⟨rfl, b1⟩
    have k1 := K.trans (b1.mono K.size)
    go_wp2
    go_ret
    exact ⟨rfl, k1⟩
  · have hz : ¬ ((1048576 : Int) - ps0.length - rs0.length < 0) := by omega
    have hn : ps0.length ≤ 1048576 := by omega
    have hm : rs0.length ≤ 1048576 := by omega
    have hlen := lenQ ps0 rs0 zs1 hzl'
    go_enter Try.func8, Try.ntmps8
    go_wp2_with fail
    refine (szNet_yes A0 B0 ps0.length rs0.length ca0 cb0 hs _).mono ?_; rintro e w1 ⟨rfl, b1⟩
    replace X := X.below b1
    replace K := K.trans (b1.mono K.size)
    clear b1
    obtain ⟨x0, x1, -, -⟩ := X.cells
    go_wp2_with fail
    clear x0 x1
    refine (toNet_any A0 B0 ca0 cb0 ps0 rs0 _ hn hm (hP.below K) (hR.below K)).mono ?_; rintro e w2 ⟨c1, c2, rfl, hl1, hl2, P1, R1, b2⟩
    replace X := X.below b2
    replace K := K.trans (b2.mono K.size)
    clear b2 hl1 hl2
    go_wp2_with fail
    refine (toIntS_any A1 ca1 zs1 _ hzl' (hI.below K)).mono ?_; rintro e w3 ⟨rfl, r3, b3⟩
    have I3 := IsInts.row r3
    have P3 := P1.is.below b3
    have R3 := R1.is.below b3
    replace X := X.below b3
    replace K := K.trans (b3.mono K.size)
    clear b3 P1 R1 r3
    go_wp2_with fail
    refine (specRouteArcs_any _ _ _ _ ps0 rs0 _ _ zs1 _ hn hm hzl' P3 R3 I3).mono ?_; rintro e w4 ⟨A1', cap1, rfl, hcap1, O1, b4⟩
    replace X := X.below b4
    replace K := K.trans (b4.mono K.size)
    clear b4 P3 R3 I3
    have hO1 : ∀ g, blk A1' (rtA ps0 rs0 zs1).length = some g → g < w4.heap.size := fun g e => (blk_own O1 e).2
    have HO1 := Lib.hid hO1
    clear hO1
    have hKs := X.lt
    obtain ⟨x0, x1, -, -⟩ := X.cells
    go_wp2_with fail
    clear x0 x1
    refine (toNet_any A0 B0 ca0 cb0 ps0 rs0 _ hn hm (hP.below K) (hR.below K)).mono ?_; rintro e w5 ⟨d1, d2, rfl, hl1, hl2, P2, R2, b5⟩
    replace X := X.below b5
    replace O1 := O1.below b5
    replace K := K.trans (b5.mono K.size)
    clear b5
    have Y := Pair.new w5 27 (.slice (some ⟨d1, 0, none⟩) ps0.length ps0.length) (.slice (some ⟨d2, 0, none⟩) rs0.length rs0.length)
    have k5 := below1 w5 (.cells #[.slice (some ⟨d1, 0, none⟩) ps0.length ps0.length, .slice (some ⟨d2, 0, none⟩) rs0.length rs0.length] 27)
    have hd1' := World.rowIs.lt P2
    have hd2' := World.rowIs.lt R2
    replace P2 := rowIs_below P2 k5
    replace R2 := rowIs_below R2 k5
    replace X := X.below k5
    replace O1 := O1.below k5
    replace K := K.trans (k5.mono K.size)
    have hs5 : w5.heap.size < (w5.alloc (.cells #[.slice (some ⟨d1, 0, none⟩) ps0.length ps0.length, .slice (some ⟨d2, 0, none⟩) rs0.length rs0.length] 27)).heap.size := by simp
    clear k5
    obtain ⟨W5, hW5⟩ : ∃ W5, W5 = w5.alloc (.cells #[.slice (some ⟨d1, 0, none⟩) ps0.length ps0.length, .slice (some ⟨d2, 0, none⟩) rs0.length rs0.length] 27) := ⟨_, rfl⟩
    rw [← hW5] at P2 R2 X Y K O1 hs5
    have HW5 := Lib.hid hW5
    clear hW5
    go_wp2_with fail
    rw [← HW5.out]
    clear HW5
    refine (toIntS_any A1 ca1 zs1 _ hzl' (hI.below K)).mono ?_; rintro e w6 ⟨rfl, r6, b6⟩
    have I6 := IsInts.row r6
    have hs6 := World.rowIs.lt r6
    replace X := X.below b6
    replace Y := Y.below b6
    replace O1 := O1.below b6
    replace P2 := rowIs_below P2 b6
    replace R2 := rowIs_below R2 b6
    replace K := K.trans (b6.mono K.size)
    clear b6
    obtain ⟨y0, y1, -, -⟩ := Y.cells
    go_wp2_with fail
    clear y0 y1
    refine (implRouteArcs_any _ _ _ _ ps0 rs0 _ _ zs1 _ hn hm hzl' (PtsRow.is P2) (ArcsRow.is R2) I6).mono ?_; rintro e w7 ⟨A2, cap2, rfl, hcap2, O2, b7⟩
    replace O1 := O1.below b7
    have T : LawS w w.heap.size (.slice A0 ps0.length ca0) (.slice B0 rs0.length cb0) w5.heap.size (.slice (some ⟨d1, 0, none⟩) ps0.length ps0.length) (.slice (some ⟨d2, 0, none⟩) rs0.length rs0.length) d1 d2 ps0 rs0 w7 :=
      ⟨(X.below b7).cells.1, (X.below b7).cells.2.1, (Y.below b7).cells.1, (Y.below b7).cells.2.1, rowIs_below P2 b7, rowIs_below R2 b7, K.trans (b7.mono K.size)⟩
    have Z := (row_own r6).below b7
    clear b7 X Y K P2 R2 I6 r6
    go_wp2_with fail
    refine (eqIntS_bel A2 A1' cap2 cap1 _ _ hlen O2.ints O1.ints).mono ?_; rintro e w8 ⟨rfl, b8⟩
    have U : OutS w w.heap.size (.slice A0 ps0.length ca0) (.slice B0 rs0.length cb0) w5.heap.size (.slice (some ⟨d1, 0, none⟩) ps0.length ps0.length) (.slice (some ⟨d2, 0, none⟩) rs0.length rs0.length) d1 d2 ps0 rs0 W5.heap.size zs1 w3.heap.size w6.heap.size A1' A2 (rtA ps0 rs0 zs1) w8 := ⟨LawS.under b8 T, Z.below b8, O1.below b8, O2.below b8⟩
    clear T O1 O2 Z b8
    go_wp2_with fail
    go_region_held3 (fun w' => OutS w w.heap.size (.slice A0 ps0.length ca0) (.slice B0 rs0.length cb0) w5.heap.size (.slice (some ⟨d1, 0, none⟩) ps0.length ps0.length) (.slice (some ⟨d2, 0, none⟩) rs0.length rs0.length) d1 d2 ps0 rs0 W5.heap.size zs1 w3.heap.size w6.heap.size A1' A2 (rtA ps0 rs0 zs1) w')
      (first | exact OutS.drew U | (refine OutS.under (by assumption) ?_; assumption))
      (first
        | (go_at_call 23; refine (toNet_any A0 B0 ca0 cb0 ps0 rs0 _ hn hm (hP.below (OutS.bel (by assumption))) (hR.below (OutS.bel (by assumption)))).mono ?_; rintro e w9 ⟨f1, f2, rfl, hl3, hl4, P3, R3, b9⟩)
        | (go_at_call 25; refine (eqNet_same _ _ _ _ _ _ _ _ ps0 rs0 _ hn hm (OutS.pts (by assumption)) (OutS.arcs (by assumption)) P3.is R3.is).mono ?_; rintro e w10 ⟨rfl, b10⟩))
    rename_i hU
    clear U P3 R3 b9 b10 hl3 hl4
    go_wp2_with fail
    refine (toIntS_any A1 ca1 zs1 _ hzl' (hI.below (OutS.bel hU))).mono ?_; rintro e w11 ⟨rfl, r11, b11⟩
    replace hU := OutS.under b11 hU
    have I11 := IsInts.row r11
    clear b11 r11
    go_wp2_with fail
    refine (eqIntS_bel _ _ _ _ zs1 _ hzl' (own_ints hU.2.1) I11).mono ?_; rintro e w12 ⟨rfl, b12⟩
    replace hU := OutS.under b12 hU
    clear b12 I11
    obtain ⟨⟨x0, x1, y0, y1, P2, R2, K⟩, Z, O1, O2⟩ := hU
    have M1 : OwnSl w12 w.heap.size 84 (some ⟨d1, 0, none⟩) (ps0.length * 2) (flatP ps0) := fun _ => ⟨d1, 0, rfl, by omega, PtsRow.own P2⟩
    have M2 : OwnSl w12 w.heap.size 65 (some ⟨d2, 0, none⟩) (rs0.length * 3) (flatA rs0) := fun _ => ⟨d2, 0, rfl, by omega, ArcsRow.own R2⟩
    have MP : Parted (some ⟨d1, 0, none⟩) (some ⟨d2, 0, none⟩) (ps0.length * 2) (rs0.length * 3) := parted_of (by omega)
    have C0 := cellPair x0 x1
    go_wp2_with fail
    clear x0 x1 y0 y1
    refine (markNet_any _ w.heap.size _ _ ps0.length rs0.length _ _ _ _ 1 (by omega) (by omega) (by omega) M1 M2 MP).mono ?_; rintro e w13 ⟨rfl, -, -, G9⟩
    have hb9 := G9.below (base := w.heap.size) K.size (fun g e => by have := blk_is e; omega) (fun g e => by have := blk_is e; omega)
    replace K := K.trans hb9
    have hZ := Z.lt
    replace O1 := O1.of_block (fun g e hg => G9.2.2.2.2 g hg (fun e' => by have := blk_is e'.symm; have := HO1.out g e; omega) (fun e' => by have := blk_is e'.symm; have := HO1.out g e; omega))
    have hO2 : ∀ g, blk A2 (rtA ps0 rs0 zs1).length = some g → w6.heap.size ≤ g := fun g e => (blk_own O2 e).1
    replace O2 := O2.of_block (fun g e hg => G9.2.2.2.2 g hg (fun e' => by have := blk_is e'.symm; have := hO2 g e; omega) (fun e' => by have := blk_is e'.symm; have := hO2 g e; omega))
    replace Z := Z.of_block (G9.2.2.2.2 _ hZ (fun e' => by have := blk_is e'.symm; omega) (fun e' => by have := blk_is e'.symm; omega))
    replace C0 := C0.of_block (fun g hg hx => G9.2.2.2.2 g hg (fun e' => by have := blk_is e'.symm; omega) (fun e' => by have := blk_is e'.symm; omega))
    have HO2 := Lib.hid hO2
    clear hO2 M1 M2 MP P2 R2 G9 hb9 hZ
    obtain ⟨k1, hk1⟩ : ∃ k1 : Int, k1 = 1 + (ps0.length * 2 : Nat) + (rs0.length * 3 : Nat) := ⟨_, rfl⟩
    rw [← hk1]
    have hk1a : 0 ≤ k1 ∧ k1 ≤ 100000000 := by omega
    have hk1b : ¬ k1 + zs1.length < 0 := by omega
    have hk1c : decide (k1 + zs1.length < 0) = false := decide_eq_false hk1b
    clear hk1
    have M3 : OwnSl w13 W5.heap.size 3 (some ⟨W5.heap.size, 0, none⟩) zs1.length (zg zs1) := fun _ => ⟨W5.heap.size, 0, rfl, Nat.le_refl _, Z⟩
    go_wp2_with fail
    refine (markIntS_any _ W5.heap.size _ _ _ _ k1 hzl' hk1a M3).mono ?_; rintro e w14 ⟨rfl, -, g14, z14⟩
    replace O1 := O1.of_block (fun g e hg => g14.block g hg (fun e' => by have := blk_is e'.symm; have := HO1.out g e; omega))
    replace O2 := O2.of_block (fun g e hg => g14.block g hg (fun e' => by have := blk_is e'.symm; have := HO2.out g e; omega))
    replace C0 := C0.of_block (fun g hg hx => g14.block g hg (fun e' => by have := blk_is e'.symm; omega))
    have k14 : Below w.heap.size w w14 := K.trans ⟨g14.os, g14.tape, g14.output, g14.size, fun q hq => g14.block q (by have := K.size; omega) (fun e' => by have := blk_is e'.symm; omega)⟩
    clear g14 z14 K M3 Z
    go_wp2_with fail
    refine (eqIntS_bel A2 A1' cap2 cap1 _ _ hlen O2.ints O1.ints).mono ?_; rintro e w15 ⟨rfl, b15⟩
    replace O1 := O1.below b15
    replace O2 := O2.below b15
    replace C0 := C0.below b15
    replace k14 := k14.trans (b15.mono k14.size)
    clear b15
    go_wp2_with fail
    refine (markIntS_any _ w6.heap.size A2 _ _ _ 1 hlen (by omega) O2).mono ?_; rintro e w16 ⟨rfl, O3, g16, z16⟩
    replace O1 := O1.of_block (fun g e hg => g16.block g hg (fun e' => by have := HO2.out g e'.symm; have := HO1.out g e; omega))
    replace C0 := C0.of_block (fun g hg hx => g16.block g hg (fun e' => by have := HO2.out g e'.symm; omega))
    have k16 : Below w.heap.size w w16 := k14.trans ⟨g16.os, g16.tape, g16.output, g16.size, fun q hq => g16.block q (by have := k14.size; omega) (fun e' => by have := HO2.out q e'.symm; omega)⟩
    clear g16 O2 k14 z16
    have hq2 : ¬ ((1 : Int) + ((rtA ps0 rs0 zs1).length : Nat) < 0) := by omega
    go_wp2_with fail
    refine (heldIntS_any _ w6.heap.size A2 _ _ 1 hlen (by omega) O3).mono ?_; rintro e w' ⟨rfl, rfl⟩
    obtain ⟨x0, x1⟩ := C0.cells
    go_wp2_with fail
    clear x0 x1
    refine (toNet_any A0 B0 ca0 cb0 ps0 rs0 _ hn hm (hP.below k16) (hR.below k16)).mono ?_; rintro e w17 ⟨f1, f2, rfl, hl3, hl4, P4, R4, b17⟩
    replace O1 := O1.below b17
    replace O3 := O3.below b17
    replace k16 := k16.trans (b17.mono k16.size)
    clear b17 hl3 hl4
    go_wp2_with fail
    refine (toIntS_any A1 ca1 zs1 _ hzl' (hI.below k16)).mono ?_; rintro e w18 ⟨rfl, r18, b18⟩
    have I18 := IsInts.row r18
    have P5 := P4.is.below b18
    have R5 := R4.is.below b18
    replace O1 := O1.below b18
    replace O3 := O3.below b18
    replace k16 := k16.trans (b18.mono k16.size)
    clear b18 r18 P4 R4
    go_wp2_with fail
    refine (implRouteArcs_any _ _ _ _ ps0 rs0 _ _ zs1 _ hn hm hzl' P5 R5 I18).mono ?_; rintro e w19 ⟨A3, cap3, rfl, hcap3, O4, b19⟩
    replace O1 := O1.below b19
    replace O3 := O3.below b19
    replace k16 := k16.trans (b19.mono k16.size)
    clear b19 P5 R5 I18
    go_wp2_with fail
    refine (eqIntS_bel A3 A1' cap3 cap1 _ _ hlen O4.ints O1.ints).mono ?_; rintro e w20 ⟨rfl, b20⟩
    replace O3 := O3.below b20
    replace k16 := k16.trans (b20.mono k16.size)
    go_wp2_with fail
    refine (heldIntS_any _ w6.heap.size A2 _ _ 1 hlen (by omega) O3).mono ?_; rintro e w' ⟨rfl, rfl⟩
    go_wp2
    go_ret
    exact ⟨rfl, k16⟩

/-! ### The row's step. -/
set_option maxRecDepth 100000 in
theorem lifted (os : Os) (started : os.Started) (H : Type) (enc : TypeId × Value → H) :
    ReturnsInHanded {} Try.checked os 8 .any (Rows.fnExactRouteArcsSpec.pre6 enc Try.prog Try.f8 Rows.fnExactRouteArcsRow.domain false) (Rows.fnExactRouteArcsSpec.post enc Try.prog Try.f8 false true false false) := by
  refine returnsInHanded_of_change (C := Try.checked) own started (by kernel_rfl) Try.func8
    (ChangeSpec.witness6 (enc := enc) (C := Try.checked) false ⟨#[], #[.agg #[.slice none 0 0, .slice none 0 0], .slice none 0 0], []⟩ 8 (by kernel_rfl) (by kernel_rfl) (by kernel_rfl) (by kernel_rfl)) ?_
  intro W base args ds gs before hval0 hW hcnd _
  have hval : ∀ (j : Nat) t v, Try.f8.params[j]? = some t → args[j]? = some v → Value.okWide Try.prog W .any base t v := hval0
  have hW' := hW
  obtain ⟨p, q, hA0, hV, rfl, hfz, hnd⟩ := hW
  have hA : DataW.TrodAll enc Try.prog W 0 (fun _ => true) true Try.f8.params.toList args.toList ds p := hA0
  rw [Try.params8] at hA hval
  obtain ⟨v0, vs0, d0, ds0, p0, q0, hargs, rfl, rfl, h0, r0⟩ := trodAll_cons hA
  obtain ⟨v1, vs1, d1, ds1, p1, q1, rfl, rfl, rfl, h1, r1⟩ := trodAll_cons r0
  obtain ⟨rfl, rfl, rfl⟩ := trodAll_nil r1
  obtain rfl : args = #[v0, v1] := by cases args; simp_all
  obtain ⟨rfl, rfl⟩ := trodVars_none hV
  have k0 := h0
  have lt0 : ∀ x ∈ p0, x.block < W.heap.size := by obtain ⟨m, hm⟩ := k0; exact DataW.trod_lt m _ _ _ hm
  obtain ⟨A0, B0, ca0, cb0, ps0, rs0, rfl, w0⟩ := opens_net (hval 0 44 v0 rfl rfl) h0
  have k1 := h1
  have lt1 : ∀ x ∈ p1, x.block < W.heap.size := by obtain ⟨m, hm⟩ := k1; exact DataW.trod_lt m _ _ _ hm
  obtain ⟨A1, ca1, zs1, rfl, w1⟩ := opens_ints (hval 1 30 v1 rfl rfl) h1
  clear hA0 hval0
  refine (walk A0 B0 ca0 cb0 ps0 rs0 A1 ca1 zs1 W w0 w1).mono fun e W' ⟨he, bel⟩ => ?_
  subst he
  exact ⟨_, rfl, _, _, _, [], _, [], hW', trodAll_mk1 (shut_bool Try.underlying4 _), (trodAll_cons_mk (Below.trod laidOut (by kernel_rfl) (of_decide_eq_true (by kernel_rfl)) k0 bel lt0) (trodAll_cons_mk (Below.trod laidOut (by kernel_rfl) (of_decide_eq_true (by kernel_rfl)) k1 bel lt1) trodAll_mk0)), rfl, bel.frame _, fun h => by cases h⟩

theorem over : Rows.fnExactRouteArcsRow.holds Try.pinned (OpenSpec.ofChange Rows.fnExactRouteArcsSpec) :=
  OpenClaim.holds_of_wide 8 Try.f8 rfl rfl rfl rfl rfl rfl rfl ⟨rfl, rfl, rfl, rfl, rfl⟩ rfl rfl rfl rfl rfl (by kernel_rfl) Try.func8 (by kernel_rfl)
    (of_decide_eq_true (by kernel_rfl)) (by unfold Func.isWrapper; first | (rw [if_pos (by decide +kernel)]; kernel_rfl) | (rw [if_neg (by decide +kernel)]; exact ⟨rfl, rfl⟩))
    (fun os started H enc _ => lifted os started H enc)

/-- ████ THE STATEMENT ████ -/
theorem proved : Rows.FnExactRouteArcsSaid := over
#print axioms proved
end Go.Proofs.Ythonebcieehnlaa.fnExactRouteArcs
