/-
  For every hierarchy and every number the law FnExactDowns returns true: the program's Downs answers as the specification's, in memory of its own, and does not write into its argument (no condition).
-/
import Derived.Test.YtagaildnfbegkaaRows
import Derived.WalkKit
import Derived.ProofKit
import Derived.OpenShut
import Derived.ShutString
import Derived.ChangeOld
import Derived.Below
import Derived.Test.YtagaildnfbegkaaHierFrame
import Derived.Test.YtagaildnfbegkaaIntsOpen
import Derived.Test.YtagaildnfbegkaaSlices
import Derived.Test.YtagaildnfbegkaaMarks
import Derived.Test.YtagaildnfbegkaaClimbZ
namespace Go.Proofs.Ytagaildnfbegkaa.fnExactDowns
open Go.ChangeShapes Go.WideShapes Go.ChangeAt Go.RowKit
open Go.ChangeMaps (open_string shut_string)
set_option linter.unusedVariables false

theorem own : ownKnob Try.prog.godebug = none := by kernel_rfl
theorem laidOut : laidOutB Try.prog = true := by kernel_rfl

theorem eqIntS_bel (A B : Option Addr) (ca cb : Nat) (zs : List Int) (w : World) (hn : zs.length ≤ 1048576) (ha : IsInts w A zs) (hb : IsInts w B zs) :
    Calls Try.prog 23 #[.slice A zs.length ca, .slice B zs.length cb] w fun e w' => e = .returned (.bool true) ∧ Below w.heap.size w w' :=
  (eqIntS_same A B ca cb zs w hn ha hb).mono fun e w' ⟨h, n, hw⟩ => ⟨h, by rw [hw]; exact below_drewN (Below.refl _ _) n⟩
theorem blk_is {b off N g : Nat} (h : blk (some ⟨b, off, none⟩) N = some g) : g = b := by
  unfold blk at h; split at h
  · simpa using h.symm
  · cases h
theorem parted_of {a b N M : Nat} (h : a ≠ b) : Parted (some ⟨a, 0, none⟩) (some ⟨b, 0, none⟩) N M := fun g e e' => h ((blk_is e).symm.trans (blk_is e'))
theorem ints_own {w : World} {b : Nat} {zs : List Int} (h : w.rowIs b 3 zs.length (fun j => .int .i64 (zg zs j))) : OwnSl w b 3 (some ⟨b, 0, none⟩) zs.length (zg zs) := fun _ => by
  obtain ⟨c, h1, h2, h3⟩ := h
  exact ⟨b, 0, rfl, Nat.le_refl _, c, h1, by omega, fun i hi => by rw [Nat.zero_add]; exact h3 i hi⟩
/-- Two cells of one block. -/
def CellPair (w : World) (b : Nat) (u v : Value) : Prop := w.cell? ⟨b, 0, none⟩ = some u ∧ w.cell? ⟨b, 1, none⟩ = some v
theorem CellPair.of_block {w w' : World} {b : Nat} {u v : Value} (h : CellPair w b u v) (e : ∀ g, g < w.heap.size → g = b → w'.heap[g]? = w.heap[g]?) : CellPair w' b u v := by
  have hb : b < w.heap.size := by simpa using World.block_lt_of_cell? w _ h.1
  exact ⟨(World.cell?_of_block (w := w) (a := ⟨b, 0, none⟩) (e b hb rfl)).trans h.1, (World.cell?_of_block (w := w) (a := ⟨b, 1, none⟩) (e b hb rfl)).trans h.2⟩
theorem CellPair.below {w w' : World} {b : Nat} {u v : Value} (h : CellPair w b u v) (hb : Below w.heap.size w w') : CellPair w' b u v := h.of_block fun g hg _ => hb.block g hg
/-- All but what lies from lo to hi is as it was. -/
structure Sep (lo hi : Nat) (w w' : World) : Prop where
  os : w'.os = w.os
  tape : w'.tape = w.tape
  output : w'.output = w.output
  size : w.heap.size ≤ w'.heap.size
  block : ∀ g, g < w.heap.size → (g < lo ∨ hi ≤ g) → w'.heap[g]? = w.heap[g]?
theorem Sep.bel {lo hi : Nat} {w w' : World} (h : Sep lo hi w w') {base : Nat} (hb : base ≤ lo) (hw : base ≤ w.heap.size) : Below base w w' := ⟨h.os, h.tape, h.output, h.size, fun g hg => h.block g (by omega) (.inl (by omega))⟩
theorem Sep.grown {lo hi : Nat} {w w' : World} {r : Option Nat} (h : w.grownBy w' r) (hr : ∀ g, r = some g → lo ≤ g ∧ g < hi) : Sep lo hi w w' := ⟨h.os, h.tape, h.output, h.size, fun g hg ho => h.block g hg (fun e => by have := hr g e.symm; omega)⟩
theorem Sep.two {lo hi : Nat} {w w' : World} {r1 r2 : Option Nat} (h : OnlyTwo w w' r1 r2) (h1 : ∀ g, r1 = some g → lo ≤ g ∧ g < hi) (h2 : ∀ g, r2 = some g → lo ≤ g ∧ g < hi) : Sep lo hi w w' := ⟨h.1, h.2.1, h.2.2.1, h.2.2.2.1, fun g hg ho => h.2.2.2.2 g hg (fun e => by have := h1 g e.symm; omega) (fun e => by have := h2 g e.symm; omega)⟩
theorem CellPair.sep {lo hi : Nat} {w w' : World} {b : Nat} {u v : Value} (h : CellPair w b u v) (s : Sep lo hi w w') (hb : b < lo ∨ hi ≤ b) : CellPair w' b u v := h.of_block fun g hg e => s.block g hg (by omega)
/-- Numbers of the call's own between lo and hi. -/
def SlIn (w : World) (lo hi : Nat) (t : TypeId) (A : Option Addr) (N : Nat) (f : Nat → Int) : Prop := OwnSl w lo t A N f ∧ ∀ g, blk A N = some g → lo ≤ g ∧ g < hi
section
variable {w w' : World} {lo hi : Nat} {t : TypeId} {A : Option Addr} {N : Nat} {f : Nat → Int}
theorem SlIn.of (h : OwnSl w lo t A N f) (hh : w.heap.size ≤ hi) : SlIn w lo hi t A N f := ⟨h, fun g e => by have := blk_own h e; omega⟩
theorem SlIn.below (h : SlIn w lo hi t A N f) (hb : Below w.heap.size w w') : SlIn w' lo hi t A N f := ⟨h.1.below hb, h.2⟩
theorem SlIn.drew (h : SlIn w lo hi t A N f) : SlIn w.drew lo hi t A N f := ⟨h.1.of_block (fun _ _ _ => rfl), h.2⟩
theorem SlIn.sep {l2 h2 : Nat} (h : SlIn w lo hi t A N f) (s : Sep l2 h2 w w') (hb : hi ≤ l2 ∨ h2 ≤ lo) : SlIn w' lo hi t A N f := ⟨h.1.of_block (fun g e hg => s.block g hg (by have := h.2 g e; omega)), h.2⟩
end
/-- The law's frame and what else is carried through a region. -/
abbrev LawP (base : World) (xb : Nat) (u v : Value) (tb : Nat) (s t : Value) (b1 b2 : Nat) (ps : List Int) (rs : List A4) (P : World → Prop) (w : World) : Prop := LawH base xb u v tb s t b1 b2 ps rs w ∧ P w
def Stab (P : World → Prop) : Prop := ∀ w w', Below w.heap.size w w' → P w → P w'
section
variable {base w w' : World} {xb : Nat} {u v : Value} {tb : Nat} {s t : Value} {b1 b2 : Nat} {ps : List Int} {rs : List A4} {P : World → Prop}
theorem LawP.under (hP : Stab P) (hb : Below w.heap.size w w') (h : LawP base xb u v tb s t b1 b2 ps rs P w) : LawP base xb u v tb s t b1 b2 ps rs P w' := ⟨LawH.under hb h.1, hP _ _ hb h.2⟩
theorem LawP.drew (hP : Stab P) (h : LawP base xb u v tb s t b1 b2 ps rs P w) : LawP base xb u v tb s t b1 b2 ps rs P w.drew := ⟨LawH.drew h.1, hP _ _ (Below.refl _ _).drew h.2⟩
theorem LawP.bel (h : LawP base xb u v tb s t b1 b2 ps rs P w) : Below base.heap.size base w := LawH.bel h.1
theorem LawP.pts (h : LawP base xb u v tb s t b1 b2 ps rs P w) : IsInts w (some ⟨b1, 0, none⟩) ps := LawH.pts h.1
theorem LawP.arcs (h : LawP base xb u v tb s t b1 b2 ps rs P w) : IsHs w (some ⟨b2, 0, none⟩) rs := LawH.arcs h.1
end

/-! ### The walk. -/
set_option maxHeartbeats 4000000 in
set_option maxRecDepth 100000 in
theorem walk (A0 B0 : Option Addr) (ca0 cb0 : Nat) (zs0 : List Int) (rs0 : List A4) (a1 : Int) (w : World) (w0 : HierIn w A0 B0 ca0 cb0 zs0 rs0) (w1 : (Lit.int .i64 a1).wf = true) :
    Calls Try.prog 6 #[.agg #[.slice A0 zs0.length ca0, .slice B0 rs0.length cb0], .int .i64 a1] w fun e w' => e = .returned (.bool true) ∧ Below w.heap.size w w' := by
  obtain ⟨⟨hc0, hc1, hc3, hc2⟩, hP, hR, -⟩ := w0
  have X := Pair.new w 42 (.slice A0 zs0.length ca0) (.slice B0 rs0.length cb0)
  have K := below1 w (.cells #[.slice A0 zs0.length ca0, .slice B0 rs0.length cb0] 42)
  by_cases hs : zs0.length + rs0.length ≤ 1048576
  rotate_left
  · go_enter Try.func6, Try.ntmps6
    go_wp2_with fail
    refine (szHier_no A0 B0 zs0.length rs0.length ca0 cb0 (by omega) (by omega) (by omega) _).mono ?_; rintro e w1 ⟨rfl, b1⟩
    have k1 := K.trans (b1.mono K.size)
    go_wp2
    go_ret
    exact ⟨rfl, k1⟩
  have hz : ¬ ((1048576 : Int) - zs0.length - rs0.length < 0) := by omega
  have hn : zs0.length ≤ 1048576 := by omega
  have hm : rs0.length ≤ 1048576 := by omega
  obtain ⟨qs, hqs⟩ : ∃ qs, qs = clZ zs0 rs0 false a1 := ⟨_, rfl⟩
  have hlq : qs.length ≤ 1048576 := by rw [hqs]; exact Nat.le_trans (clZ_len zs0 rs0 false a1) hn
  have HSP : Hid (∀ (ad : Addr) (B : Option Addr) (ca cb : Nat) (w : World), IsInts w (some ad) zs0 → IsHs w B rs0 → Calls Try.prog 27 #[.agg #[.slice (some ad) zs0.length ca, .slice B rs0.length cb], .int .i64 a1] w (fun e w' => ∃ A cap, e = .returned (.slice A qs.length cap) ∧ OwnSl w' w.heap.size 3 A qs.length (zg qs) ∧ Below w.heap.size w w')) := fun ad B ca cb w h1 h2 => by rw [hqs]; exact (specDownsZ (some ad) B ca cb zs0 rs0 a1 w hn hm h1 h2).mono fun e w' ⟨A, c, e1, _, o, k⟩ => ⟨A, c, e1, o, k⟩
  have HIM : Hid (∀ (ad : Addr) (B : Option Addr) (ca cb : Nat) (w : World), IsInts w (some ad) zs0 → IsHs w B rs0 → Calls Try.prog 28 #[.agg #[.slice (some ad) zs0.length ca, .slice B rs0.length cb], .int .i64 a1] w (fun e w' => ∃ A cap, e = .returned (.slice A qs.length cap) ∧ OwnSl w' w.heap.size 3 A qs.length (zg qs) ∧ Below w.heap.size w w')) := fun ad B ca cb w h1 h2 => by rw [hqs]; exact (implDownsZ (some ad) B ca cb zs0 rs0 a1 w hn hm h1 h2).mono fun e w' ⟨_, A, c, e1, _, o, k⟩ => ⟨A, c, e1, o, k⟩
  clear hqs
  go_enter Try.func6, Try.ntmps6
  go_wp2_with fail
  refine (szHier_yes A0 B0 zs0.length rs0.length ca0 cb0 hs _).mono ?_; rintro e w1 ⟨rfl, b1⟩
  have s1 : w.heap.size + 1 ≤ w1.heap.size := by have := b1.size; simpa using this
  replace X := X.below b1
  replace K := K.trans (b1.mono K.size)
  clear b1
  obtain ⟨x0, x1, -, -⟩ := X.cells
  go_wp2_with fail
  clear x0 x1
  refine (toHierZ_any A0 B0 ca0 cb0 zs0 rs0 _ hn hm (hP.below K) (hR.below K)).mono ?_; rintro e w2 ⟨c1, c2, rfl, hl1, hl2, P1, R1, b2⟩
  have s2 : w1.heap.size ≤ w2.heap.size := b2.size
  replace X := X.below b2
  replace K := K.trans (b2.mono K.size)
  clear b2 hl1 hl2
  have P1i := P1.is
  have R1i := R1.is
  go_wp2_with fail
  refine (HSP.out _ _ _ _ _ P1i R1i ).mono ?_; rintro e w3 ⟨E3, ea3, rfl, OP, b3⟩
  have s3 : w2.heap.size ≤ w3.heap.size := b3.size
  replace X := X.below b3
  replace K := K.trans (b3.mono K.size)
  clear b3 P1 R1 P1i R1i 
  have N1 : SlIn w3 w2.heap.size w3.heap.size 3 E3 qs.length (zg qs) := SlIn.of OP (Nat.le_refl _)
  clear OP
  obtain ⟨x0, x1, -, -⟩ := X.cells
  go_wp2_with fail
  clear x0 x1
  refine (toHierZ_any A0 B0 ca0 cb0 zs0 rs0 _ hn hm (hP.below K) (hR.below K)).mono ?_; rintro e w4 ⟨d1, d2, rfl, hd1, hd2, P2, R2, b4⟩
  have s4 : w3.heap.size ≤ w4.heap.size := b4.size
  replace X := X.below b4
  replace N1 := N1.below b4
  replace K := K.trans (b4.mono K.size)
  clear b4
  have Y := Pair.new w4 27 (.slice (some ⟨d1, 0, none⟩) zs0.length zs0.length) (.slice (some ⟨d2, 0, none⟩) rs0.length rs0.length)
  have kb := below1 w4 (.cells #[.slice (some ⟨d1, 0, none⟩) zs0.length zs0.length, .slice (some ⟨d2, 0, none⟩) rs0.length rs0.length] 27)
  have hd1w := World.rowIs.lt P2
  have hd2w := World.rowIs.lt R2
  replace P2 := rowIs_below P2 kb
  replace R2 := rowIs_below R2 kb
  replace X := X.below kb
  replace N1 := N1.below kb
  replace K := K.trans (kb.mono K.size)
  have hyb : w.heap.size < w4.heap.size := by omega
  obtain ⟨y0, y1, -, -⟩ := Y.cells
  go_wp2_with fail
  clear y0 y1
  obtain ⟨W, hW⟩ : ∃ W, W = w4.alloc (.cells #[.slice (some ⟨d1, 0, none⟩) zs0.length zs0.length, .slice (some ⟨d2, 0, none⟩) rs0.length rs0.length] 27) := ⟨_, rfl⟩
  have sW : w4.heap.size + 1 ≤ W.heap.size := by rw [hW]; simp
  rw [← hW] at X N1 Y K P2 R2 ⊢
  clear hW kb
  refine (HIM.out _ _ _ _ _ (ZRow.is P2) (HsRow.is R2) ).mono ?_; rintro e w5 ⟨E5, ea5, rfl, OP, b5⟩
  have s5 : W.heap.size ≤ w5.heap.size := b5.size
  replace X := X.below b5
  replace N1 := N1.below b5
  replace Y := Y.below b5
  replace K := K.trans (b5.mono K.size)
  replace P2 := rowIs_below P2 b5
  replace R2 := rowIs_below R2 b5
  clear b5
  have N2 : SlIn w5 W.heap.size w5.heap.size 3 E5 qs.length (zg qs) := SlIn.of OP (Nat.le_refl _)
  clear OP
  go_wp2_with fail
  refine (eqIntS_bel E5 E3 ea5 ea3 qs _ hlq (OwnSl.ints N2.1) (OwnSl.ints N1.1)).mono ?_; rintro e w6 ⟨rfl, b6⟩
  have s6 : w5.heap.size ≤ w6.heap.size := b6.size
  replace X := X.below b6
  replace N1 := N1.below b6
  replace Y := Y.below b6
  replace N2 := N2.below b6
  replace K := K.trans (b6.mono K.size)
  replace P2 := rowIs_below P2 b6
  replace R2 := rowIs_below R2 b6
  clear b6
  obtain ⟨P, hPe⟩ : ∃ P : World → Prop, P = fun w' => SlIn w' w2.heap.size w3.heap.size 3 E3 qs.length (zg qs) ∧ SlIn w' W.heap.size w5.heap.size 3 E5 qs.length (zg qs) := ⟨_, rfl⟩
  have hst : Stab P := by rw [hPe]; exact fun w w' hb h => ⟨h.1.below hb, h.2.below hb⟩
  have U : LawP w w.heap.size (.slice A0 zs0.length ca0) (.slice B0 rs0.length cb0) w4.heap.size (.slice (some ⟨d1, 0, none⟩) zs0.length zs0.length) (.slice (some ⟨d2, 0, none⟩) rs0.length rs0.length) d1 d2 zs0 rs0 P w6 := ⟨⟨X.cells.1, X.cells.2.1, Y.cells.1, Y.cells.2.1, P2, R2, K⟩, by rw [hPe]; exact ⟨N1, N2⟩⟩
  have HPE := Lib.hid hPe
  clear hPe X Y P2 R2 K N1 N2
  go_wp2_with fail
  go_region_held3 (fun w' => LawP w w.heap.size (.slice A0 zs0.length ca0) (.slice B0 rs0.length cb0) w4.heap.size (.slice (some ⟨d1, 0, none⟩) zs0.length zs0.length) (.slice (some ⟨d2, 0, none⟩) rs0.length rs0.length) d1 d2 zs0 rs0 P w')
    (first | exact LawP.drew hst U | (refine LawP.under hst (by assumption) ?_; assumption))
    (first
      | (go_at_call 17; refine (toHierZ_any A0 B0 ca0 cb0 zs0 rs0 _ hn hm (hP.below (LawP.bel (by assumption))) (hR.below (LawP.bel (by assumption)))).mono ?_; rintro e wa ⟨f1, f2, rfl, hl3, hl4, P3, R3, ba⟩)
      | (go_at_call 20; refine (eqHier_same _ _ _ _ _ _ _ _ zs0 rs0 _ hn hm (LawP.pts (by assumption)) (LawP.arcs (by assumption)) P3.is R3.is).mono ?_; rintro e wz ⟨rfl, bz⟩))
  rename_i hU
  have swz : w6.heap.size ≤ wz.heap.size := Nat.le_trans ba.size bz.size
  clear U P3 R3 ba bz hl3 hl4 hst
  rw [HPE.out] at hU
  obtain ⟨⟨x0, x1, y0, y1, P2, R2, K⟩, N1, N2⟩ := hU
  have hm1 := World.rowIs.lt P2
  have hm2 := World.rowIs.lt R2
  have C0 : CellPair wz w.heap.size (.slice A0 zs0.length ca0) (.slice B0 rs0.length cb0) := ⟨x0, x1⟩
  have C1 : CellPair wz w4.heap.size (.slice (some ⟨d1, 0, none⟩) zs0.length zs0.length) (.slice (some ⟨d2, 0, none⟩) rs0.length rs0.length) := ⟨y0, y1⟩
  have M1 : SlIn wz w3.heap.size w4.heap.size 3 (some ⟨d1, 0, none⟩) (zs0.length) (zg zs0) := ⟨fun _ => ⟨d1, 0, rfl, by omega, ZRow.own P2⟩, fun g e => by have := blk_is e; omega⟩
  have M2 : SlIn wz w3.heap.size w4.heap.size 77 (some ⟨d2, 0, none⟩) (rs0.length * 4) (flatH rs0) := ⟨fun _ => ⟨d2, 0, rfl, by omega, HsRow.own R2⟩, fun g e => by have := blk_is e; omega⟩
  have MP : Parted (some ⟨d1, 0, none⟩) (some ⟨d2, 0, none⟩) (zs0.length) (rs0.length * 4) := parted_of (by omega)
  clear P2 R2 x0 x1 y0 y1
  obtain ⟨y0, y1⟩ := C1
  go_wp2_with fail
  clear y0 y1
  refine (markHier_any _ w3.heap.size _ _ zs0.length rs0.length _ _ _ _ 1 hn hm (by omega) M1.1 M2.1 MP).mono ?_; rintro e w7 ⟨rfl, -, -, G⟩
  have Z := Sep.two (lo := w3.heap.size) (hi := w4.heap.size) G M1.2 M2.2
  have s7 := Z.size
  replace C0 := C0.sep Z (by omega)
  replace N1 := N1.sep Z (by omega)
  replace N2 := N2.sep Z (by omega)
  replace K := K.trans (Z.bel (base := w.heap.size) (by omega) K.size)
  clear Z G M1 M2 MP
  have hq1 : ¬ ((1 : Int) + (zs0.length : Nat) + (rs0.length * 4 : Nat) < 0) := by omega
  have hq1' : decide ((1 : Int) + (zs0.length : Nat) + (rs0.length * 4 : Nat) < 0) = false := decide_eq_false hq1
  go_wp2_with fail
  refine (eqIntS_bel E5 E3 ea5 ea3 qs _ hlq (OwnSl.ints N2.1) (OwnSl.ints N1.1)).mono ?_; rintro e w8 ⟨rfl, b8⟩
  have s8 : w7.heap.size ≤ w8.heap.size := b8.size
  replace C0 := C0.below b8
  replace N1 := N1.below b8
  replace N2 := N2.below b8
  replace K := K.trans (b8.mono K.size)
  clear b8 hq1 hq1'
  go_wp2_with fail
  refine (markIntS_any _ W.heap.size _ _ _ _ 1 hlq (by omega) N2.1).mono ?_; rintro e w9 ⟨rfl, O1, G, -⟩
  have Z := Sep.grown (lo := W.heap.size) (hi := w5.heap.size) G N2.2
  have s9 := Z.size
  replace C0 := C0.sep Z (by omega)
  replace N1 := N1.sep Z (by omega)
  replace K := K.trans (Z.bel (base := w.heap.size) (by omega) K.size)
  clear Z G N2
  have hq2 : ¬ ((1 : Int) + (qs.length : Nat) < 0) := by omega
  go_wp2_with fail
  refine (heldIntS_any _ W.heap.size _ _ _ 1 hlq (by omega) O1).mono ?_; rintro e w' ⟨rfl, rfl⟩
  obtain ⟨x0, x1⟩ := C0
  go_wp2_with fail
  clear x0 x1
  refine (toHierZ_any A0 B0 ca0 cb0 zs0 rs0 _ hn hm (hP.below K) (hR.below K)).mono ?_; rintro e w10 ⟨f1, f2, rfl, hl3, hl4, P4, R4, b10⟩
  have s10 : w9.heap.size ≤ w10.heap.size := b10.size
  replace N1 := N1.below b10
  replace O1 := O1.below b10
  replace K := K.trans (b10.mono K.size)
  have P4i := P4.is
  have R4i := R4.is
  clear b10 hl3 hl4 P4 R4
  go_wp2_with fail
  refine (HIM.out _ _ _ _ _ P4i R4i ).mono ?_; rintro e w11 ⟨E11, ea11, rfl, OP, b11⟩
  have s11 : w10.heap.size ≤ w11.heap.size := b11.size
  replace N1 := N1.below b11
  replace O1 := O1.below b11
  replace K := K.trans (b11.mono K.size)
  clear b11 P4i R4i 
  have N3 : SlIn w11 w10.heap.size w11.heap.size 3 E11 qs.length (zg qs) := SlIn.of OP (Nat.le_refl _)
  clear OP
  go_wp2_with fail
  refine (eqIntS_bel E11 E3 ea11 ea3 qs _ hlq (OwnSl.ints N3.1) (OwnSl.ints N1.1)).mono ?_; rintro e w12 ⟨rfl, b12⟩
  have s12 : w11.heap.size ≤ w12.heap.size := b12.size
  replace N1 := N1.below b12
  replace O1 := O1.below b12
  replace N3 := N3.below b12
  replace K := K.trans (b12.mono K.size)
  clear b12 N3
  go_wp2_with fail
  refine (heldIntS_any _ W.heap.size _ _ _ 1 hlq (by omega) O1).mono ?_; rintro e w' ⟨rfl, rfl⟩
  go_wp2
  go_ret
  exact ⟨rfl, K⟩

/-! ### The row's step. -/
set_option maxRecDepth 100000 in
theorem lifted (os : Os) (started : os.Started) (H : Type) (enc : TypeId × Value → H) :
    ReturnsInHanded {} Try.checked os 6 .any (Rows.fnExactDownsSpec.pre6 enc Try.prog Try.f6 Rows.fnExactDownsRow.domain false) (Rows.fnExactDownsSpec.post enc Try.prog Try.f6 false true false false) := by
  refine returnsInHanded_of_change (C := Try.checked) own started (by kernel_rfl) Try.func6
    (ChangeSpec.witness6 (enc := enc) (C := Try.checked) false ⟨#[], #[.agg #[.slice none 0 0, .slice none 0 0], .int .i64 0], []⟩ 8 (by kernel_rfl) (by kernel_rfl) (by kernel_rfl) (by kernel_rfl)) ?_
  intro W base args ds gs before hval0 hW hcnd _
  have hval : ∀ (j : Nat) t v, Try.f6.params[j]? = some t → args[j]? = some v → Value.okWide Try.prog W .any base t v := hval0
  have hW' := hW
  obtain ⟨p, q, hA0, hV, rfl, hfz, hnd⟩ := hW
  have hA : DataW.TrodAll enc Try.prog W 0 (fun _ => true) true Try.f6.params.toList args.toList ds p := hA0
  rw [Try.params6] at hA hval
  obtain ⟨v0, vs0, d0, ds0, p0, q0, hargs, rfl, rfl, h0, r0⟩ := trodAll_cons hA
  obtain ⟨v1, vs1, d1, ds1, p1, q1, rfl, rfl, rfl, h1, r1⟩ := trodAll_cons r0
  obtain ⟨rfl, rfl, rfl⟩ := trodAll_nil r1
  obtain rfl : args = #[v0, v1] := by cases args; simp_all
  obtain ⟨rfl, rfl⟩ := trodVars_none hV
  have k0 := h0
  have lt0 : ∀ x ∈ p0, x.block < W.heap.size := by obtain ⟨m, hm⟩ := k0; exact DataW.trod_lt m _ _ _ hm
  obtain ⟨A0, B0, ca0, cb0, zs0, rs0, rfl, w0⟩ := opens_hier (hval 0 42 v0 rfl rfl) h0
  have k1 := h1
  have lt1 : ∀ x ∈ p1, x.block < W.heap.size := by obtain ⟨m, hm⟩ := k1; exact DataW.trod_lt m _ _ _ hm
  obtain ⟨a1, rfl, -, -, w1⟩ := open_int Try.underlying3 (hval 1 3 v1 rfl rfl) h1
  clear hA0 hval0
  refine (walk A0 B0 ca0 cb0 zs0 rs0 a1 W w0 w1).mono fun e W' ⟨he, bel⟩ => ?_
  subst he
  exact ⟨_, rfl, _, _, _, [], _, [], hW', trodAll_mk1 (shut_bool Try.underlying4 _), (trodAll_cons_mk (Below.trod laidOut (by kernel_rfl) (of_decide_eq_true (by kernel_rfl)) k0 bel lt0) (trodAll_cons_mk (Below.trod laidOut (by kernel_rfl) (of_decide_eq_true (by kernel_rfl)) k1 bel lt1) trodAll_mk0)), rfl, bel.frame _, fun h => by cases h⟩

theorem over : Rows.fnExactDownsRow.holds Try.pinned (OpenSpec.ofChange Rows.fnExactDownsSpec) :=
  OpenClaim.holds_of_wide 6 Try.f6 rfl rfl rfl rfl rfl rfl rfl ⟨rfl, rfl, rfl, rfl, rfl⟩ rfl rfl rfl rfl rfl (by kernel_rfl) Try.func6 (by kernel_rfl)
    (of_decide_eq_true (by kernel_rfl)) (by unfold Func.isWrapper; first | (rw [if_pos (by decide +kernel)]; kernel_rfl) | (rw [if_neg (by decide +kernel)]; exact ⟨rfl, rfl⟩))
    (fun os started H enc _ => lifted os started H enc)

/-- ████ THE STATEMENT ████ -/
theorem proved : Rows.FnExactDownsSaid := over
#print axioms proved
end Go.Proofs.Ytagaildnfbegkaa.fnExactDowns
