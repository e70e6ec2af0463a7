/-
  For every hierarchy and every two slices of numbers the law FnExactTable returns true: the program's Table answers as the specification's, row by row, in memory of its own, and writes into none of its arguments (no condition).
-/
import Derived.Test.YtagaildnfbegkabRows
import Derived.WalkKit
import Derived.ProofKit
import Derived.OpenShut
import Derived.ShutString
import Derived.ChangeOld
import Derived.Below
import Derived.Test.YtagaildnfbegkabHierFrame
import Derived.Test.YtagaildnfbegkabIntsOpen
import Derived.Test.YtagaildnfbegkabSlices
import Derived.Test.YtagaildnfbegkabMarks
import Derived.Test.YtagaildnfbegkabTabTop
namespace Go.Proofs.Ytagaildnfbegkab.fnExactTable
open Go.ChangeShapes Go.WideShapes Go.ChangeAt Go.RowKit
open Go.ChangeMaps (open_string shut_string)
set_option linter.unusedVariables false

theorem own : ownKnob Try.prog.godebug = none := by kernel_rfl
theorem laidOut : laidOutB Try.prog = true := by kernel_rfl

theorem eqIntS_bel (A B : Option Addr) (ca cb : Nat) (zs : List Int) (w : World) (hn : zs.length ≤ 1048576) (ha : IsInts w A zs) (hb : IsInts w B zs) :
    Calls Try.prog 15 #[.slice A zs.length ca, .slice B zs.length cb] w fun e w' => e = .returned (.bool true) ∧ Below w.heap.size w w' :=
  (eqIntS_same A B ca cb zs w hn ha hb).mono fun e w' ⟨h, n, hw⟩ => ⟨h, by rw [hw]; exact below_drewN (Below.refl _ _) n⟩
theorem blk_is {b off N g : Nat} (h : blk (some ⟨b, off, none⟩) N = some g) : g = b := by
  unfold blk at h; split at h
  · simpa using h.symm
  · cases h
theorem parted_of {a b N M : Nat} (h : a ≠ b) : Parted (some ⟨a, 0, none⟩) (some ⟨b, 0, none⟩) N M := fun g e e' => h ((blk_is e).symm.trans (blk_is e'))
theorem ints_own {w : World} {b : Nat} {zs : List Int} (h : w.rowIs b 3 zs.length (fun j => .int .i64 (zg zs j))) : OwnSl w b 3 (some ⟨b, 0, none⟩) zs.length (zg zs) := fun _ => by
  obtain ⟨c, h1, h2, h3⟩ := h
  exact ⟨b, 0, rfl, Nat.le_refl _, c, h1, by omega, fun i hi => by rw [Nat.zero_add]; exact h3 i hi⟩
/-- Two cells of one block. -/
def CellPair (w : World) (b : Nat) (u v : Value) : Prop := w.cell? ⟨b, 0, none⟩ = some u ∧ w.cell? ⟨b, 1, none⟩ = some v
theorem CellPair.of_block {w w' : World} {b : Nat} {u v : Value} (h : CellPair w b u v) (e : ∀ g, g < w.heap.size → g = b → w'.heap[g]? = w.heap[g]?) : CellPair w' b u v := by
  have hb : b < w.heap.size := by simpa using World.block_lt_of_cell? w _ h.1
  exact ⟨(World.cell?_of_block (w := w) (a := ⟨b, 0, none⟩) (e b hb rfl)).trans h.1, (World.cell?_of_block (w := w) (a := ⟨b, 1, none⟩) (e b hb rfl)).trans h.2⟩
theorem CellPair.below {w w' : World} {b : Nat} {u v : Value} (h : CellPair w b u v) (hb : Below w.heap.size w w') : CellPair w' b u v := h.of_block fun g hg _ => hb.block g hg
/-- All but what lies from lo to hi is as it was. -/
structure Sep (lo hi : Nat) (w w' : World) : Prop where
  os : w'.os = w.os
  tape : w'.tape = w.tape
  output : w'.output = w.output
  size : w.heap.size ≤ w'.heap.size
  block : ∀ g, g < w.heap.size → (g < lo ∨ hi ≤ g) → w'.heap[g]? = w.heap[g]?
theorem Sep.bel {lo hi : Nat} {w w' : World} (h : Sep lo hi w w') {base : Nat} (hb : base ≤ lo) (hw : base ≤ w.heap.size) : Below base w w' := ⟨h.os, h.tape, h.output, h.size, fun g hg => h.block g (by omega) (.inl (by omega))⟩
theorem Sep.grown {lo hi : Nat} {w w' : World} {r : Option Nat} (h : w.grownBy w' r) (hr : ∀ g, r = some g → lo ≤ g ∧ g < hi) : Sep lo hi w w' := ⟨h.os, h.tape, h.output, h.size, fun g hg ho => h.block g hg (fun e => by have := hr g e.symm; omega)⟩
theorem Sep.two {lo hi : Nat} {w w' : World} {r1 r2 : Option Nat} (h : OnlyTwo w w' r1 r2) (h1 : ∀ g, r1 = some g → lo ≤ g ∧ g < hi) (h2 : ∀ g, r2 = some g → lo ≤ g ∧ g < hi) : Sep lo hi w w' := ⟨h.1, h.2.1, h.2.2.1, h.2.2.2.1, fun g hg ho => h.2.2.2.2 g hg (fun e => by have := h1 g e.symm; omega) (fun e => by have := h2 g e.symm; omega)⟩
theorem CellPair.sep {lo hi : Nat} {w w' : World} {b : Nat} {u v : Value} (h : CellPair w b u v) (s : Sep lo hi w w') (hb : b < lo ∨ hi ≤ b) : CellPair w' b u v := h.of_block fun g hg e => s.block g hg (by omega)
/-- Numbers of the call's own between lo and hi. -/
def SlIn (w : World) (lo hi : Nat) (t : TypeId) (A : Option Addr) (N : Nat) (f : Nat → Int) : Prop := OwnSl w lo t A N f ∧ ∀ g, blk A N = some g → lo ≤ g ∧ g < hi
section
variable {w w' : World} {lo hi : Nat} {t : TypeId} {A : Option Addr} {N : Nat} {f : Nat → Int}
theorem SlIn.of (h : OwnSl w lo t A N f) (hh : w.heap.size ≤ hi) : SlIn w lo hi t A N f := ⟨h, fun g e => by have := blk_own h e; omega⟩
theorem SlIn.below (h : SlIn w lo hi t A N f) (hb : Below w.heap.size w w') : SlIn w' lo hi t A N f := ⟨h.1.below hb, h.2⟩
theorem SlIn.drew (h : SlIn w lo hi t A N f) : SlIn w.drew lo hi t A N f := ⟨h.1.of_block (fun _ _ _ => rfl), h.2⟩
theorem SlIn.sep {l2 h2 : Nat} (h : SlIn w lo hi t A N f) (s : Sep l2 h2 w w') (hb : hi ≤ l2 ∨ h2 ≤ lo) : SlIn w' lo hi t A N f := ⟨h.1.of_block (fun g e hg => s.block g hg (by have := h.2 g e; omega)), h.2⟩
end
/-- The law's frame and what else is carried through a region. -/
abbrev LawP (base : World) (xb : Nat) (u v : Value) (tb : Nat) (s t : Value) (b1 b2 : Nat) (ps : List Int) (rs : List A4) (P : World → Prop) (w : World) : Prop := LawH base xb u v tb s t b1 b2 ps rs w ∧ P w
def Stab (P : World → Prop) : Prop := ∀ w w', Below w.heap.size w w' → P w → P w'
section
variable {base w w' : World} {xb : Nat} {u v : Value} {tb : Nat} {s t : Value} {b1 b2 : Nat} {ps : List Int} {rs : List A4} {P : World → Prop}
theorem LawP.under (hP : Stab P) (hb : Below w.heap.size w w') (h : LawP base xb u v tb s t b1 b2 ps rs P w) : LawP base xb u v tb s t b1 b2 ps rs P w' := ⟨LawH.under hb h.1, hP _ _ hb h.2⟩
theorem LawP.drew (hP : Stab P) (h : LawP base xb u v tb s t b1 b2 ps rs P w) : LawP base xb u v tb s t b1 b2 ps rs P w.drew := ⟨LawH.drew h.1, hP _ _ (Below.refl _ _).drew h.2⟩
theorem LawP.bel (h : LawP base xb u v tb s t b1 b2 ps rs P w) : Below base.heap.size base w := LawH.bel h.1
theorem LawP.pts (h : LawP base xb u v tb s t b1 b2 ps rs P w) : IsInts w (some ⟨b1, 0, none⟩) ps := LawH.pts h.1
theorem LawP.arcs (h : LawP base xb u v tb s t b1 b2 ps rs P w) : IsHs w (some ⟨b2, 0, none⟩) rs := LawH.arcs h.1
end
theorem Sep.ofFar {lo hi : Nat} {w w' : World} (h : FarR lo hi w w') : Sep lo hi w w' := ⟨h.os, h.tape, h.output, h.size, h.block⟩
theorem _root_.Go.Proofs.Ytagaildnfbegkab.Rows.sep {w w' : World} {lo hi l2 h2 n m : Nat} {R : Option Addr} {f : Nat → Nat → Int} (h : Rows w lo hi R n m f) (s : Sep l2 h2 w w') (hb : hi ≤ l2 ∨ h2 ≤ lo) : Rows w' lo hi R n m f := h.of_block (fun b h1 h2 hl => s.block b hl (by omega)) s.size

/-! ### The walk. -/
set_option maxHeartbeats 4000000 in
set_option maxRecDepth 100000 in
theorem walk (A0 B0 : Option Addr) (ca0 cb0 : Nat) (zs0 : List Int) (rs0 : List A4) (A1 : Option Addr) (ca1 : Nat) (zs1 : List Int) (A2 : Option Addr) (ca2 : Nat) (zs2 : List Int) (w : World) (w0 : HierIn w A0 B0 ca0 cb0 zs0 rs0) (w1 : IntsIn w A1 ca1 zs1) (w2 : IntsIn w A2 ca2 zs2) :
    Calls Try.prog 7 #[.agg #[.slice A0 zs0.length ca0, .slice B0 rs0.length cb0], .slice A1 zs1.length ca1, .slice A2 zs2.length ca2] w fun e w' => e = .returned (.bool true) ∧ Below w.heap.size w w' := by
  obtain ⟨⟨hc0, hc1, hc3, hc2⟩, hP, hR, -⟩ := w0
  obtain ⟨hcz1, hI1⟩ := w1
  obtain ⟨hcz2, hI2⟩ := w2
  have X := Pair.new w 25 (.slice A0 zs0.length ca0) (.slice B0 rs0.length cb0)
  have K := below1 w (.cells #[.slice A0 zs0.length ca0, .slice B0 rs0.length cb0] 25)
  by_cases hzl1 : 1048576 < zs1.length
  · have hd : decide ((1048576 : Int) < zs1.length) = true := decide_eq_true (by omega)
    have hd' : (1048576 : Int) < zs1.length := by omega
    go_enter Try.func7, Try.ntmps7
    go_wp2
    go_ret
    exact ⟨rfl, K⟩
  have hz1 : zs1.length ≤ 1048576 := by omega
  have hzd1 : ¬ (1048576 : Int) < zs1.length := by omega
  by_cases hzl2 : 1048576 < zs2.length
  · have hd : decide ((1048576 : Int) < zs2.length) = true := decide_eq_true (by omega)
    have hd' : (1048576 : Int) < zs2.length := by omega
    go_enter Try.func7, Try.ntmps7
    go_wp2
    go_ret
    exact ⟨rfl, K⟩
  have hz2 : zs2.length ≤ 1048576 := by omega
  have hzd2 : ¬ (1048576 : Int) < zs2.length := by omega
  by_cases hs : zs0.length + rs0.length ≤ 1048576
  rotate_left
  · go_enter Try.func7, Try.ntmps7
    go_wp2_with fail
    refine (szHier_no A0 B0 zs0.length rs0.length ca0 cb0 (by omega) (by omega) (by omega) _).mono ?_; rintro e w1 ⟨rfl, b1⟩
    have k1 := K.trans (b1.mono K.size)
    go_wp2
    go_ret
    exact ⟨rfl, k1⟩
  have hz : ¬ ((1048576 : Int) - zs0.length - rs0.length < 0) := by omega
  have hn : zs0.length ≤ 1048576 := by omega
  have hm : rs0.length ≤ 1048576 := by omega
  obtain ⟨N, hqN⟩ : ∃ N, N = tabN zs0 rs0 zs1 zs2 := ⟨_, rfl⟩
  obtain ⟨M, hqM⟩ : ∃ M, M = tabW zs0 rs0 zs1 zs2 := ⟨_, rfl⟩
  obtain ⟨F, hqF⟩ : ∃ F, F = tabF zs0 rs0 zs1 zs2 := ⟨_, rfl⟩
  have hN20 : N ≤ 20 := by rw [hqN]; exact tabN_20 zs0 rs0 zs1 zs2
  have hM20 : M ≤ 20 := by rw [hqM]; exact tabW_20 zs0 rs0 zs1 zs2
  have HSP : Hid (∀ (ad : Addr) (B : Option Addr) (ca cb : Nat) (C1 : Option Addr) (cc1 : Nat) (C2 : Option Addr) (cc2 : Nat) (w : World), IsInts w (some ad) zs0 → IsHs w B rs0 → IsInts w C1 zs1 → IsInts w C2 zs2 → Calls Try.prog 27 #[.agg #[.slice (some ad) zs0.length ca, .slice B rs0.length cb], .slice C1 zs1.length cc1, .slice C2 zs2.length cc2] w (fun e w' => ∃ A cap, e = .returned (.slice A N cap) ∧ Rows w' w.heap.size w'.heap.size A N M F ∧ Below w.heap.size w w')) := fun ad B ca cb C1 cc1 C2 cc2 w h1 h2 h1' h2' => by rw [hqN, hqM, hqF]; exact (specTable_any (some ad) B C1 C2 ca cb cc1 cc2 zs0 rs0 zs1 zs2 w hn hm hz1 hz2 h1 h2 h1' h2').mono fun e w' h => tabMade_w h
  have HIM : Hid (∀ (ad : Addr) (B : Option Addr) (ca cb : Nat) (C1 : Option Addr) (cc1 : Nat) (C2 : Option Addr) (cc2 : Nat) (w : World), IsInts w (some ad) zs0 → IsHs w B rs0 → IsInts w C1 zs1 → IsInts w C2 zs2 → Calls Try.prog 28 #[.agg #[.slice (some ad) zs0.length ca, .slice B rs0.length cb], .slice C1 zs1.length cc1, .slice C2 zs2.length cc2] w (fun e w' => ∃ A cap, e = .returned (.slice A N cap) ∧ Rows w' w.heap.size w'.heap.size A N M F ∧ Below w.heap.size w w')) := fun ad B ca cb C1 cc1 C2 cc2 w h1 h2 h1' h2' => by rw [hqN, hqM, hqF]; exact (implTable_any (some ad) B C1 C2 ca cb cc1 cc2 zs0 rs0 zs1 zs2 w hn hm hz1 hz2 h1 h2 h1' h2').mono fun e w' h => tabMade_w h
  clear hqN hqM hqF
  go_enter Try.func7, Try.ntmps7
  go_wp2_with fail
  refine (szHier_yes A0 B0 zs0.length rs0.length ca0 cb0 hs _).mono ?_; rintro e w1 ⟨rfl, b1⟩
  have s1 : w.heap.size + 1 ≤ w1.heap.size := by have := b1.size; simpa using this
  replace X := X.below b1
  replace K := K.trans (b1.mono K.size)
  clear b1
  obtain ⟨x0, x1, -, -⟩ := X.cells
  go_wp2_with fail
  clear x0 x1
  refine (toHierZ_any A0 B0 ca0 cb0 zs0 rs0 _ hn hm (hP.below K) (hR.below K)).mono ?_; rintro e w2 ⟨c1, c2, rfl, hl1, hl2, P1, R1, b2⟩
  have s2 : w1.heap.size ≤ w2.heap.size := b2.size
  replace X := X.below b2
  replace K := K.trans (b2.mono K.size)
  clear b2 hl1 hl2
  have P1i := P1.is
  have R1i := R1.is
  go_wp2_with fail
  refine (toIntS_any A1 ca1 zs1 _ hz1 (hI1.below K)).mono ?_; rintro e w3 ⟨rfl, r1, b3⟩
  have s3 : w2.heap.size ≤ w3.heap.size := b3.size
  replace X := X.below b3
  replace K := K.trans (b3.mono K.size)
  have J1 := IsInts.row r1
  replace P1i := P1i.below b3
  replace R1i := R1i.below b3
  clear b3 r1
  go_wp2_with fail
  refine (toIntS_any A2 ca2 zs2 _ hz2 (hI2.below K)).mono ?_; rintro e w4 ⟨rfl, r2, b4⟩
  have s4 : w3.heap.size ≤ w4.heap.size := b4.size
  replace X := X.below b4
  replace K := K.trans (b4.mono K.size)
  have J2 := IsInts.row r2
  replace P1i := P1i.below b4
  replace R1i := R1i.below b4
  replace J1 := J1.below b4
  clear b4 r2
  go_wp2_with fail
  refine (HSP.out _ _ _ _ _ _ _ _ _ P1i R1i J1 J2).mono ?_; rintro e w5 ⟨E5, ea5, rfl, OP, b5⟩
  have s5 : w4.heap.size ≤ w5.heap.size := b5.size
  replace X := X.below b5
  replace K := K.trans (b5.mono K.size)
  clear b5 P1 R1 P1i R1i J1 J2
  have N1 : Rows w5 w4.heap.size w5.heap.size E5 N M F := OP
  clear OP
  obtain ⟨x0, x1, -, -⟩ := X.cells
  go_wp2_with fail
  clear x0 x1
  refine (toHierZ_any A0 B0 ca0 cb0 zs0 rs0 _ hn hm (hP.below K) (hR.below K)).mono ?_; rintro e w6 ⟨d1, d2, rfl, hd1, hd2, P2, R2, b6⟩
  have s6 : w5.heap.size ≤ w6.heap.size := b6.size
  replace X := X.below b6
  replace N1 := N1.below b6
  replace K := K.trans (b6.mono K.size)
  clear b6
  have Y := Pair.new w6 30 (.slice (some ⟨d1, 0, none⟩) zs0.length zs0.length) (.slice (some ⟨d2, 0, none⟩) rs0.length rs0.length)
  have kb := below1 w6 (.cells #[.slice (some ⟨d1, 0, none⟩) zs0.length zs0.length, .slice (some ⟨d2, 0, none⟩) rs0.length rs0.length] 30)
  have hd1w := World.rowIs.lt P2
  have hd2w := World.rowIs.lt R2
  replace P2 := rowIs_below P2 kb
  replace R2 := rowIs_below R2 kb
  replace X := X.below kb
  replace N1 := N1.below kb
  replace K := K.trans (kb.mono K.size)
  have hyb : w.heap.size < w6.heap.size := by omega
  go_wp2_with fail
  obtain ⟨W, hW⟩ : ∃ W, W = w6.alloc (.cells #[.slice (some ⟨d1, 0, none⟩) zs0.length zs0.length, .slice (some ⟨d2, 0, none⟩) rs0.length rs0.length] 30) := ⟨_, rfl⟩
  have sW : w6.heap.size + 1 ≤ W.heap.size := by rw [hW]; simp
  rw [← hW] at X N1 Y K P2 R2 ⊢
  clear hW kb
  refine (toIntS_any A1 ca1 zs1 _ hz1 (hI1.below K)).mono ?_; rintro e w7 ⟨rfl, r1, b7⟩
  have s7 : W.heap.size + 1 ≤ w7.heap.size := World.rowIs.lt r1
  replace X := X.below b7
  replace N1 := N1.below b7
  replace Y := Y.below b7
  replace K := K.trans (b7.mono K.size)
  replace P2 := rowIs_below P2 b7
  replace R2 := rowIs_below R2 b7
  have I1 : SlIn w7 W.heap.size w7.heap.size 3 (some ⟨W.heap.size, 0, none⟩) zs1.length (zg zs1) := SlIn.of (ints_own r1) (Nat.le_refl _)
  clear b7 r1
  go_wp2_with fail
  refine (toIntS_any A2 ca2 zs2 _ hz2 (hI2.below K)).mono ?_; rintro e w8 ⟨rfl, r2, b8⟩
  have s8 : w7.heap.size + 1 ≤ w8.heap.size := World.rowIs.lt r2
  replace X := X.below b8
  replace N1 := N1.below b8
  replace Y := Y.below b8
  replace I1 := I1.below b8
  replace K := K.trans (b8.mono K.size)
  replace P2 := rowIs_below P2 b8
  replace R2 := rowIs_below R2 b8
  have I2 : SlIn w8 w7.heap.size w8.heap.size 3 (some ⟨w7.heap.size, 0, none⟩) zs2.length (zg zs2) := SlIn.of (ints_own r2) (Nat.le_refl _)
  clear b8 r2
  obtain ⟨y0, y1, -, -⟩ := Y.cells
  go_wp2_with fail
  clear y0 y1
  refine (HIM.out _ _ _ _ _ _ _ _ _ (ZRow.is P2) (HsRow.is R2) (OwnSl.ints I1.1) (OwnSl.ints I2.1)).mono ?_; rintro e w9 ⟨E9, ea9, rfl, OP, b9⟩
  have s9 : w8.heap.size ≤ w9.heap.size := b9.size
  replace X := X.below b9
  replace N1 := N1.below b9
  replace Y := Y.below b9
  replace I1 := I1.below b9
  replace I2 := I2.below b9
  replace K := K.trans (b9.mono K.size)
  replace P2 := rowIs_below P2 b9
  replace R2 := rowIs_below R2 b9
  clear b9
  have N2 : Rows w9 w8.heap.size w9.heap.size E9 N M F := OP
  clear OP
  go_wp2_with fail
  refine (eqRowS_same E9 E5 ea9 ea5 N M _ _ _ _ F _ (by omega) (by omega) N2 N1).mono ?_; rintro e w10 ⟨rfl, b10⟩
  have s10 : w9.heap.size ≤ w10.heap.size := b10.size
  replace X := X.below b10
  replace N1 := N1.below b10
  replace Y := Y.below b10
  replace I1 := I1.below b10
  replace I2 := I2.below b10
  replace N2 := N2.below b10
  replace K := K.trans (b10.mono K.size)
  replace P2 := rowIs_below P2 b10
  replace R2 := rowIs_below R2 b10
  clear b10
  obtain ⟨P, hPe⟩ : ∃ P : World → Prop, P = fun w' => Rows w' w4.heap.size w5.heap.size E5 N M F ∧ Rows w' w8.heap.size w9.heap.size E9 N M F ∧ SlIn w' W.heap.size w7.heap.size 3 (some ⟨W.heap.size, 0, none⟩) zs1.length (zg zs1) ∧ SlIn w' w7.heap.size w8.heap.size 3 (some ⟨w7.heap.size, 0, none⟩) zs2.length (zg zs2) := ⟨_, rfl⟩
  have hst : Stab P := by rw [hPe]; exact fun w w' hb h => ⟨h.1.below hb, h.2.1.below hb, h.2.2.1.below hb, h.2.2.2.below hb⟩
  have U : LawP w w.heap.size (.slice A0 zs0.length ca0) (.slice B0 rs0.length cb0) w6.heap.size (.slice (some ⟨d1, 0, none⟩) zs0.length zs0.length) (.slice (some ⟨d2, 0, none⟩) rs0.length rs0.length) d1 d2 zs0 rs0 P w10 := ⟨⟨X.cells.1, X.cells.2.1, Y.cells.1, Y.cells.2.1, P2, R2, K⟩, by rw [hPe]; exact ⟨N1, N2, I1, I2⟩⟩
  have HPE := Lib.hid hPe
  clear hPe X Y P2 R2 K N1 N2 I1 I2
  go_wp2_with fail
  go_region_held3 (fun w' => LawP w w.heap.size (.slice A0 zs0.length ca0) (.slice B0 rs0.length cb0) w6.heap.size (.slice (some ⟨d1, 0, none⟩) zs0.length zs0.length) (.slice (some ⟨d2, 0, none⟩) rs0.length rs0.length) d1 d2 zs0 rs0 P w')
    (first | exact LawP.drew hst U | (refine LawP.under hst (by assumption) ?_; assumption))
    (first
      | (go_at_call 10; refine (toHierZ_any A0 B0 ca0 cb0 zs0 rs0 _ hn hm (hP.below (LawP.bel (by assumption))) (hR.below (LawP.bel (by assumption)))).mono ?_; rintro e wa ⟨f1, f2, rfl, hl3, hl4, P3, R3, ba⟩)
      | (go_at_call 12; refine (eqHier_same _ _ _ _ _ _ _ _ zs0 rs0 _ hn hm (LawP.pts (by assumption)) (LawP.arcs (by assumption)) P3.is R3.is).mono ?_; rintro e wz ⟨rfl, bz⟩))
  rename_i hU
  have swz : w10.heap.size ≤ wz.heap.size := Nat.le_trans ba.size bz.size
  clear U P3 R3 ba bz hl3 hl4 hst
  rw [HPE.out] at hU
  obtain ⟨⟨x0, x1, y0, y1, P2, R2, K⟩, N1, N2, I1, I2⟩ := hU
  have hm1 := World.rowIs.lt P2
  have hm2 := World.rowIs.lt R2
  have C0 : CellPair wz w.heap.size (.slice A0 zs0.length ca0) (.slice B0 rs0.length cb0) := ⟨x0, x1⟩
  have C1 : CellPair wz w6.heap.size (.slice (some ⟨d1, 0, none⟩) zs0.length zs0.length) (.slice (some ⟨d2, 0, none⟩) rs0.length rs0.length) := ⟨y0, y1⟩
  have M1 : SlIn wz w5.heap.size w6.heap.size 3 (some ⟨d1, 0, none⟩) (zs0.length) (zg zs0) := ⟨fun _ => ⟨d1, 0, rfl, by omega, ZRow.own P2⟩, fun g e => by have := blk_is e; omega⟩
  have M2 : SlIn wz w5.heap.size w6.heap.size 57 (some ⟨d2, 0, none⟩) (rs0.length * 4) (flatH rs0) := ⟨fun _ => ⟨d2, 0, rfl, by omega, HsRow.own R2⟩, fun g e => by have := blk_is e; omega⟩
  have MP : Parted (some ⟨d1, 0, none⟩) (some ⟨d2, 0, none⟩) (zs0.length) (rs0.length * 4) := parted_of (by omega)
  clear P2 R2 x0 x1 y0 y1
  go_wp2_with fail
  refine (toIntS_any A1 ca1 zs1 _ hz1 (hI1.below K)).mono ?_; rintro e w11 ⟨rfl, r1, b11⟩
  have s11 : wz.heap.size ≤ w11.heap.size := b11.size
  replace C0 := C0.below b11
  replace C1 := C1.below b11
  replace M1 := M1.below b11
  replace M2 := M2.below b11
  replace N1 := N1.below b11
  replace N2 := N2.below b11
  replace I1 := I1.below b11
  replace I2 := I2.below b11
  replace K := K.trans (b11.mono K.size)
  have J1 := IsInts.row r1
  clear b11 r1
  go_wp2_with fail
  refine (eqIntS_bel _ _ _ _ zs1 _ hz1 (OwnSl.ints I1.1) J1).mono ?_; rintro e w12 ⟨rfl, b12⟩
  have s12 : w11.heap.size ≤ w12.heap.size := b12.size
  replace C0 := C0.below b12
  replace C1 := C1.below b12
  replace M1 := M1.below b12
  replace M2 := M2.below b12
  replace N1 := N1.below b12
  replace N2 := N2.below b12
  replace I1 := I1.below b12
  replace I2 := I2.below b12
  replace K := K.trans (b12.mono K.size)
  clear b12 J1
  go_wp2_with fail
  refine (toIntS_any A2 ca2 zs2 _ hz2 (hI2.below K)).mono ?_; rintro e w13 ⟨rfl, r2, b13⟩
  have s13 : w12.heap.size ≤ w13.heap.size := b13.size
  replace C0 := C0.below b13
  replace C1 := C1.below b13
  replace M1 := M1.below b13
  replace M2 := M2.below b13
  replace N1 := N1.below b13
  replace N2 := N2.below b13
  replace I1 := I1.below b13
  replace I2 := I2.below b13
  replace K := K.trans (b13.mono K.size)
  have J2 := IsInts.row r2
  clear b13 r2
  go_wp2_with fail
  refine (eqIntS_bel _ _ _ _ zs2 _ hz2 (OwnSl.ints I2.1) J2).mono ?_; rintro e w14 ⟨rfl, b14⟩
  have s14 : w13.heap.size ≤ w14.heap.size := b14.size
  replace C0 := C0.below b14
  replace C1 := C1.below b14
  replace M1 := M1.below b14
  replace M2 := M2.below b14
  replace N1 := N1.below b14
  replace N2 := N2.below b14
  replace I1 := I1.below b14
  replace I2 := I2.below b14
  replace K := K.trans (b14.mono K.size)
  clear b14 J2
  obtain ⟨y0, y1⟩ := C1
  go_wp2_with fail
  clear y0 y1
  refine (markHier_any _ w5.heap.size _ _ zs0.length rs0.length _ _ _ _ 1 hn hm (by omega) M1.1 M2.1 MP).mono ?_; rintro e w15 ⟨rfl, -, -, G⟩
  have Z := Sep.two (lo := w5.heap.size) (hi := w6.heap.size) G M1.2 M2.2
  have s15 := Z.size
  replace C0 := C0.sep Z (by omega)
  replace N1 := N1.sep Z (by omega)
  replace N2 := N2.sep Z (by omega)
  replace I1 := I1.sep Z (by omega)
  replace I2 := I2.sep Z (by omega)
  replace K := K.trans (Z.bel (base := w.heap.size) (by omega) K.size)
  clear Z G M1 M2 MP
  go_wp2_with fail
  refine (markIntS_any _ W.heap.size _ _ _ _ ((1 : Int) + (zs0.length : Nat) + (rs0.length * 4 : Nat)) hz1 (by omega) I1.1).mono ?_; rintro e w16 ⟨rfl, -, G, -⟩
  have Z := Sep.grown (lo := W.heap.size) (hi := w7.heap.size) G I1.2
  have s16 := Z.size
  replace C0 := C0.sep Z (by omega)
  replace N1 := N1.sep Z (by omega)
  replace N2 := N2.sep Z (by omega)
  replace I2 := I2.sep Z (by omega)
  replace K := K.trans (Z.bel (base := w.heap.size) (by omega) K.size)
  clear Z G I1
  go_wp2_with fail
  refine (markIntS_any _ w7.heap.size _ _ _ _ ((1 : Int) + (zs0.length : Nat) + (rs0.length * 4 : Nat) + (zs1.length : Nat)) hz2 (by omega) I2.1).mono ?_; rintro e w17 ⟨rfl, -, G, -⟩
  have Z := Sep.grown (lo := w7.heap.size) (hi := w8.heap.size) G I2.2
  have s17 := Z.size
  replace C0 := C0.sep Z (by omega)
  replace N1 := N1.sep Z (by omega)
  replace N2 := N2.sep Z (by omega)
  replace K := K.trans (Z.bel (base := w.heap.size) (by omega) K.size)
  clear Z G I2
  have hq1 : ¬ ((1 : Int) + (zs0.length : Nat) + (rs0.length * 4 : Nat) + (zs1.length : Nat) + (zs2.length : Nat) < 0) := by omega
  have hq1' : decide ((1 : Int) + (zs0.length : Nat) + (rs0.length * 4 : Nat) + (zs1.length : Nat) + (zs2.length : Nat) < 0) = false := decide_eq_false hq1
  go_wp2_with fail
  refine (eqRowS_same E9 E5 ea9 ea5 N M _ _ _ _ F _ (by omega) (by omega) N2 N1).mono ?_; rintro e w18 ⟨rfl, b18⟩
  have s18 : w17.heap.size ≤ w18.heap.size := b18.size
  replace C0 := C0.below b18
  replace N1 := N1.below b18
  replace N2 := N2.below b18
  replace K := K.trans (b18.mono K.size)
  clear b18 hq1 hq1'
  go_wp2_with fail
  refine (markRowS_any _ _ N M _ _ F 1 _ hN20 hM20 (by omega) N2).mono ?_; rintro e w19 ⟨rfl, O1, G⟩
  have Z := Sep.ofFar G
  have s19 := Z.size
  replace C0 := C0.sep Z (by omega)
  replace N1 := N1.sep Z (by omega)
  replace K := K.trans (Z.bel (base := w.heap.size) (by omega) K.size)
  clear Z G N2
  have hq2 : ¬ ((1 : Int) + (N * M : Nat) < 0) := by omega
  go_wp2_with fail
  refine (heldRowS_any _ _ N M _ _ 1 _ hN20 hM20 (by omega) O1).mono ?_; rintro e w' ⟨rfl, rfl⟩
  obtain ⟨x0, x1⟩ := C0
  go_wp2_with fail
  clear x0 x1
  refine (toHierZ_any A0 B0 ca0 cb0 zs0 rs0 _ hn hm (hP.below K) (hR.below K)).mono ?_; rintro e w20 ⟨f1, f2, rfl, hl3, hl4, P4, R4, b20⟩
  have s20 : w19.heap.size ≤ w20.heap.size := b20.size
  replace N1 := N1.below b20
  replace O1 := O1.below b20
  replace K := K.trans (b20.mono K.size)
  have P4i := P4.is
  have R4i := R4.is
  clear b20 hl3 hl4 P4 R4
  go_wp2_with fail
  refine (toIntS_any A1 ca1 zs1 _ hz1 (hI1.below K)).mono ?_; rintro e w21 ⟨rfl, r1, b21⟩
  have s21 : w20.heap.size ≤ w21.heap.size := b21.size
  replace N1 := N1.below b21
  replace O1 := O1.below b21
  replace K := K.trans (b21.mono K.size)
  have J1 := IsInts.row r1
  replace P4i := P4i.below b21
  replace R4i := R4i.below b21
  clear b21 r1
  go_wp2_with fail
  refine (toIntS_any A2 ca2 zs2 _ hz2 (hI2.below K)).mono ?_; rintro e w22 ⟨rfl, r2, b22⟩
  have s22 : w21.heap.size ≤ w22.heap.size := b22.size
  replace N1 := N1.below b22
  replace O1 := O1.below b22
  replace K := K.trans (b22.mono K.size)
  have J2 := IsInts.row r2
  replace P4i := P4i.below b22
  replace R4i := R4i.below b22
  replace J1 := J1.below b22
  clear b22 r2
  go_wp2_with fail
  refine (HIM.out _ _ _ _ _ _ _ _ _ P4i R4i J1 J2).mono ?_; rintro e w23 ⟨E23, ea23, rfl, OP, b23⟩
  have s23 : w22.heap.size ≤ w23.heap.size := b23.size
  replace N1 := N1.below b23
  replace O1 := O1.below b23
  replace K := K.trans (b23.mono K.size)
  clear b23 P4i R4i J1 J2
  have N3 : Rows w23 w22.heap.size w23.heap.size E23 N M F := OP
  clear OP
  go_wp2_with fail
  refine (eqRowS_same E23 E5 ea23 ea5 N M _ _ _ _ F _ (by omega) (by omega) N3 N1).mono ?_; rintro e w24 ⟨rfl, b24⟩
  have s24 : w23.heap.size ≤ w24.heap.size := b24.size
  replace N1 := N1.below b24
  replace O1 := O1.below b24
  replace N3 := N3.below b24
  replace K := K.trans (b24.mono K.size)
  clear b24 N3
  go_wp2_with fail
  refine (heldRowS_any _ _ N M _ _ 1 _ hN20 hM20 (by omega) O1).mono ?_; rintro e w' ⟨rfl, rfl⟩
  go_wp2
  go_ret
  exact ⟨rfl, K⟩

/-! ### The row's step. -/
set_option maxRecDepth 100000 in
theorem lifted (os : Os) (started : os.Started) (H : Type) (enc : TypeId × Value → H) :
    ReturnsInHanded {} Try.checked os 7 .any (Rows.fnExactTableSpec.pre6 enc Try.prog Try.f7 Rows.fnExactTableRow.domain false) (Rows.fnExactTableSpec.post enc Try.prog Try.f7 false true false false) := by
  refine returnsInHanded_of_change (C := Try.checked) own started (by kernel_rfl) Try.func7
    (ChangeSpec.witness6 (enc := enc) (C := Try.checked) false ⟨#[], #[.agg #[.slice none 0 0, .slice none 0 0], .slice none 0 0, .slice none 0 0], []⟩ 8 (by kernel_rfl) (by kernel_rfl) (by kernel_rfl) (by kernel_rfl)) ?_
  intro W base args ds gs before hval0 hW hcnd _
  have hval : ∀ (j : Nat) t v, Try.f7.params[j]? = some t → args[j]? = some v → Value.okWide Try.prog W .any base t v := hval0
  have hW' := hW
  obtain ⟨p, q, hA0, hV, rfl, hfz, hnd⟩ := hW
  have hA : DataW.TrodAll enc Try.prog W 0 (fun _ => true) true Try.f7.params.toList args.toList ds p := hA0
  rw [Try.params7] at hA hval
  obtain ⟨v0, vs0, d0, ds0, p0, q0, hargs, rfl, rfl, h0, r0⟩ := trodAll_cons hA
  obtain ⟨v1, vs1, d1, ds1, p1, q1, rfl, rfl, rfl, h1, r1⟩ := trodAll_cons r0
  obtain ⟨v2, vs2, d2, ds2, p2, q2, rfl, rfl, rfl, h2, r2⟩ := trodAll_cons r1
  obtain ⟨rfl, rfl, rfl⟩ := trodAll_nil r2
  obtain rfl : args = #[v0, v1, v2] := by cases args; simp_all
  obtain ⟨rfl, rfl⟩ := trodVars_none hV
  have k0 := h0
  have lt0 : ∀ x ∈ p0, x.block < W.heap.size := by obtain ⟨m, hm⟩ := k0; exact DataW.trod_lt m _ _ _ hm
  obtain ⟨A0, B0, ca0, cb0, zs0, rs0, rfl, w0⟩ := opens_hier (hval 0 25 v0 rfl rfl) h0
  have k1 := h1
  have lt1 : ∀ x ∈ p1, x.block < W.heap.size := by obtain ⟨m, hm⟩ := k1; exact DataW.trod_lt m _ _ _ hm
  obtain ⟨A1, ca1, zs1, rfl, w1⟩ := opens_ints (hval 1 22 v1 rfl rfl) h1
  have k2 := h2
  have lt2 : ∀ x ∈ p2, x.block < W.heap.size := by obtain ⟨m, hm⟩ := k2; exact DataW.trod_lt m _ _ _ hm
  obtain ⟨A2, ca2, zs2, rfl, w2⟩ := opens_ints (hval 2 22 v2 rfl rfl) h2
  clear hA0 hval0
  refine (walk A0 B0 ca0 cb0 zs0 rs0 A1 ca1 zs1 A2 ca2 zs2 W w0 w1 w2).mono fun e W' ⟨he, bel⟩ => ?_
  subst he
  exact ⟨_, rfl, _, _, _, [], _, [], hW', trodAll_mk1 (shut_bool Try.underlying4 _), (trodAll_cons_mk (Below.trod laidOut (by kernel_rfl) (of_decide_eq_true (by kernel_rfl)) k0 bel lt0) (trodAll_cons_mk (Below.trod laidOut (by kernel_rfl) (of_decide_eq_true (by kernel_rfl)) k1 bel lt1) (trodAll_cons_mk (Below.trod laidOut (by kernel_rfl) (of_decide_eq_true (by kernel_rfl)) k2 bel lt2) trodAll_mk0))), rfl, bel.frame _, fun h => by cases h⟩

theorem over : Rows.fnExactTableRow.holds Try.pinned (OpenSpec.ofChange Rows.fnExactTableSpec) :=
  OpenClaim.holds_of_wide 7 Try.f7 rfl rfl rfl rfl rfl rfl rfl ⟨rfl, rfl, rfl, rfl, rfl⟩ rfl rfl rfl rfl rfl (by kernel_rfl) Try.func7 (by kernel_rfl)
    (of_decide_eq_true (by kernel_rfl)) (by unfold Func.isWrapper; first | (rw [if_pos (by decide +kernel)]; kernel_rfl) | (rw [if_neg (by decide +kernel)]; exact ⟨rfl, rfl⟩))
    (fun os started H enc _ => lifted os started H enc)

/-- ████ THE STATEMENT ████ -/
theorem proved : Rows.FnExactTableSaid := over
#print axioms proved
end Go.Proofs.Ytagaildnfbegkab.fnExactTable
