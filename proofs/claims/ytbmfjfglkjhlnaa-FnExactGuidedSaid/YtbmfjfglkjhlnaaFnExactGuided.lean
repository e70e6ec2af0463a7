/-
  For every network, every two numbers and every slice of numbers the law FnExactGuided returns true: the program's Guided answers as the specification's, in memory of its own, and writes into neither of its arguments (no condition).
-/
import Derived.Test.YtbmfjfglkjhlnaaRows
import Derived.WalkKit
import Derived.ProofKit
import Derived.OpenShut
import Derived.ShutString
import Derived.ChangeOld
import Derived.Below
import Derived.Test.YtbmfjfglkjhlnaaNetFrame
import Derived.Test.YtbmfjfglkjhlnaaIntsOpen
import Derived.Test.YtbmfjfglkjhlnaaSlices
import Derived.Test.YtbmfjfglkjhlnaaSeenLaws
import Derived.Test.YtbmfjfglkjhlnaaGuidedIm
namespace Go.Proofs.Ytbmfjfglkjhlnaa.fnExactGuided
open Go.ChangeShapes Go.WideShapes Go.ChangeAt Go.RowKit
open Go.ChangeMaps (open_string shut_string)
set_option linter.unusedVariables false

theorem own : ownKnob Try.prog.godebug = none := by kernel_rfl
theorem laidOut : laidOutB Try.prog = true := by kernel_rfl

theorem eqIntS_bel (A B : Option Addr) (ca cb : Nat) (zs : List Int) (w : World) (hn : zs.length ≤ 1048576) (ha : IsInts w A zs) (hb : IsInts w B zs) :
    Calls Try.prog 33 #[.slice A zs.length ca, .slice B zs.length cb] w fun e w' => e = .returned (.bool true) ∧ Below w.heap.size w w' :=
  (eqIntS_same A B ca cb zs w hn ha hb).mono fun e w' ⟨h, n, hw⟩ => ⟨h, by rw [hw]; exact below_drewN (Below.refl _ _) n⟩
theorem blk_is {b off N g : Nat} (h : blk (some ⟨b, off, none⟩) N = some g) : g = b := by
  unfold blk at h; split at h
  · simpa using h.symm
  · cases h
theorem parted_of {a b N M : Nat} (h : a ≠ b) : Parted (some ⟨a, 0, none⟩) (some ⟨b, 0, none⟩) N M := fun g e e' => h ((blk_is e).symm.trans (blk_is e'))
theorem OwnSl.pts {w : World} {base : Nat} {A : Option Addr} {ps : List (Int × Int)} (h : OwnSl w base 104 A (ps.length * 2) (flatP ps)) : IsPts w A ps := fun hp => by
  obtain ⟨g, off, rfl, -, ho⟩ := h (by omega)
  exact ⟨g, off, rfl, ho.lt, fun i hi => ⟨by rw [ho.cell (i := i * 2) (by omega), flatP_0], by rw [show off + i * 2 + 1 = off + (i * 2 + 1) by omega, ho.cell (i := i * 2 + 1) (by omega), flatP_1]⟩⟩
theorem OwnSl.arcs {w : World} {base : Nat} {B : Option Addr} {rs : List A3} (h : OwnSl w base 80 B (rs.length * 3) (flatA rs)) : IsArcs w B rs := fun hp => by
  obtain ⟨g, off, rfl, -, ho⟩ := h (by omega)
  exact ⟨g, off, rfl, ho.lt, fun i hi => ⟨by rw [ho.cell (i := i * 3) (by omega), flatA_0], by rw [show off + i * 3 + 1 = off + (i * 3 + 1) by omega, ho.cell (i := i * 3 + 1) (by omega), flatA_1], by rw [show off + i * 3 + 2 = off + (i * 3 + 2) by omega, ho.cell (i := i * 3 + 2) (by omega), flatA_2]⟩⟩
theorem ints_own {w : World} {b : Nat} {zs : List Int} (h : w.rowIs b 3 zs.length (fun j => .int .i64 (zg zs j))) : OwnSl w b 3 (some ⟨b, 0, none⟩) zs.length (zg zs) := fun _ => by
  obtain ⟨c, h1, h2, h3⟩ := h
  exact ⟨b, 0, rfl, Nat.le_refl _, c, h1, by omega, fun i hi => by rw [Nat.zero_add]; exact h3 i hi⟩
/-- Two cells of one block. -/
def CellPair (w : World) (b : Nat) (u v : Value) : Prop := w.cell? ⟨b, 0, none⟩ = some u ∧ w.cell? ⟨b, 1, none⟩ = some v
theorem CellPair.of_block {w w' : World} {b : Nat} {u v : Value} (h : CellPair w b u v) (e : ∀ g, g < w.heap.size → g = b → w'.heap[g]? = w.heap[g]?) : CellPair w' b u v := by
  have hb : b < w.heap.size := by simpa using World.block_lt_of_cell? w _ h.1
  exact ⟨(World.cell?_of_block (w := w) (a := ⟨b, 0, none⟩) (e b hb rfl)).trans h.1, (World.cell?_of_block (w := w) (a := ⟨b, 1, none⟩) (e b hb rfl)).trans h.2⟩
theorem CellPair.below {w w' : World} {b : Nat} {u v : Value} (h : CellPair w b u v) (hb : Below w.heap.size w w') : CellPair w' b u v := h.of_block fun g hg _ => hb.block g hg
/-- All but what lies from lo to hi is as it was. -/
structure Sep (lo hi : Nat) (w w' : World) : Prop where
  os : w'.os = w.os
  tape : w'.tape = w.tape
  output : w'.output = w.output
  size : w.heap.size ≤ w'.heap.size
  block : ∀ g, g < w.heap.size → (g < lo ∨ hi ≤ g) → w'.heap[g]? = w.heap[g]?
theorem Sep.bel {lo hi : Nat} {w w' : World} (h : Sep lo hi w w') {base : Nat} (hb : base ≤ lo) (hw : base ≤ w.heap.size) : Below base w w' := ⟨h.os, h.tape, h.output, h.size, fun g hg => h.block g (by omega) (.inl (by omega))⟩
theorem Sep.grown {lo hi : Nat} {w w' : World} {r : Option Nat} (h : w.grownBy w' r) (hr : ∀ g, r = some g → lo ≤ g ∧ g < hi) : Sep lo hi w w' := ⟨h.os, h.tape, h.output, h.size, fun g hg ho => h.block g hg (fun e => by have := hr g e.symm; omega)⟩
theorem Sep.two {lo hi : Nat} {w w' : World} {r1 r2 : Option Nat} (h : OnlyTwo w w' r1 r2) (h1 : ∀ g, r1 = some g → lo ≤ g ∧ g < hi) (h2 : ∀ g, r2 = some g → lo ≤ g ∧ g < hi) : Sep lo hi w w' := ⟨h.1, h.2.1, h.2.2.1, h.2.2.2.1, fun g hg ho => h.2.2.2.2 g hg (fun e => by have := h1 g e.symm; omega) (fun e => by have := h2 g e.symm; omega)⟩
theorem CellPair.sep {lo hi : Nat} {w w' : World} {b : Nat} {u v : Value} (h : CellPair w b u v) (s : Sep lo hi w w') (hb : b < lo ∨ hi ≤ b) : CellPair w' b u v := h.of_block fun g hg e => s.block g hg (by omega)
/-- Numbers of the call's own between lo and hi. -/
def SlIn (w : World) (lo hi : Nat) (t : TypeId) (A : Option Addr) (N : Nat) (f : Nat → Int) : Prop := OwnSl w lo t A N f ∧ ∀ g, blk A N = some g → lo ≤ g ∧ g < hi
section
variable {w w' : World} {lo hi : Nat} {t : TypeId} {A : Option Addr} {N : Nat} {f : Nat → Int}
theorem SlIn.of (h : OwnSl w lo t A N f) (hh : w.heap.size ≤ hi) : SlIn w lo hi t A N f := ⟨h, fun g e => by have := blk_own h e; omega⟩
theorem SlIn.below (h : SlIn w lo hi t A N f) (hb : Below w.heap.size w w') : SlIn w' lo hi t A N f := ⟨h.1.below hb, h.2⟩
theorem SlIn.drew (h : SlIn w lo hi t A N f) : SlIn w.drew lo hi t A N f := ⟨h.1.of_block (fun _ _ _ => rfl), h.2⟩
theorem SlIn.sep {l2 h2 : Nat} (h : SlIn w lo hi t A N f) (s : Sep l2 h2 w w') (hb : hi ≤ l2 ∨ h2 ≤ lo) : SlIn w' lo hi t A N f := ⟨h.1.of_block (fun g e hg => s.block g hg (by have := h.2 g e; omega)), h.2⟩
end
/-- A network of the call's own in a box of the law's: all between lo and hi. -/
def NtIn (w : World) (z lo hi : Nat) (A B : Option Addr) (ca cb : Nat) (ps : List (Int × Int)) (rs : List A3) : Prop :=
  CellPair w z (.slice A ps.length ca) (.slice B rs.length cb) ∧ SlIn w lo hi 104 A (ps.length * 2) (flatP ps) ∧ SlIn w lo hi 80 B (rs.length * 3) (flatA rs)
section
variable {w w' : World} {z lo hi : Nat} {A B : Option Addr} {ca cb : Nat} {ps : List (Int × Int)} {rs : List A3}
theorem NtIn.below (h : NtIn w z lo hi A B ca cb ps rs) (hb : Below w.heap.size w w') : NtIn w' z lo hi A B ca cb ps rs := ⟨h.1.below hb, h.2.1.below hb, h.2.2.below hb⟩
theorem NtIn.sep {l2 h2 : Nat} (h : NtIn w z lo hi A B ca cb ps rs) (s : Sep l2 h2 w w') (hz : z < l2 ∨ h2 ≤ z) (hb : hi ≤ l2 ∨ h2 ≤ lo) : NtIn w' z lo hi A B ca cb ps rs := ⟨h.1.sep s hz, h.2.1.sep s hb, h.2.2.sep s hb⟩
theorem NtIn.pts (h : NtIn w z lo hi A B ca cb ps rs) : IsPts w A ps := OwnSl.pts h.2.1.1
theorem NtIn.arcs (h : NtIn w z lo hi A B ca cb ps rs) : IsArcs w B rs := OwnSl.arcs h.2.2.1
end
/-- The law's frame and what else is carried through a region. -/
abbrev LawP (base : World) (xb : Nat) (u v : Value) (tb : Nat) (s t : Value) (b1 b2 : Nat) (ps : List (Int × Int)) (rs : List A3) (P : World → Prop) (w : World) : Prop := LawS base xb u v tb s t b1 b2 ps rs w ∧ P w
def Stab (P : World → Prop) : Prop := ∀ w w', Below w.heap.size w w' → P w → P w'
section
variable {base w w' : World} {xb : Nat} {u v : Value} {tb : Nat} {s t : Value} {b1 b2 : Nat} {ps : List (Int × Int)} {rs : List A3} {P : World → Prop}
theorem LawP.under (hP : Stab P) (hb : Below w.heap.size w w') (h : LawP base xb u v tb s t b1 b2 ps rs P w) : LawP base xb u v tb s t b1 b2 ps rs P w' := ⟨LawS.under hb h.1, hP _ _ hb h.2⟩
theorem LawP.drew (hP : Stab P) (h : LawP base xb u v tb s t b1 b2 ps rs P w) : LawP base xb u v tb s t b1 b2 ps rs P w.drew := ⟨LawS.drew h.1, hP _ _ (Below.refl _ _).drew h.2⟩
theorem LawP.bel (h : LawP base xb u v tb s t b1 b2 ps rs P w) : Below base.heap.size base w := LawS.bel h.1
theorem LawP.pts (h : LawP base xb u v tb s t b1 b2 ps rs P w) : IsPts w (some ⟨b1, 0, none⟩) ps := LawS.pts h.1
theorem LawP.arcs (h : LawP base xb u v tb s t b1 b2 ps rs P w) : IsArcs w (some ⟨b2, 0, none⟩) rs := LawS.arcs h.1
end
/-- An order and distances of the call's own in a box of the law's: all between lo and hi. -/
def SnIn (w : World) (z lo hi : Nat) (A B : Option Addr) (ca cb : Nat) (os ds : List Int) : Prop :=
  CellPair w z (.slice A os.length ca) (.slice B ds.length cb) ∧ SlIn w lo hi 3 A os.length (zg os) ∧ SlIn w lo hi 3 B ds.length (zg ds)
section
variable {w w' : World} {z lo hi : Nat} {A B : Option Addr} {ca cb : Nat} {os ds : List Int}
theorem SnIn.below (h : SnIn w z lo hi A B ca cb os ds) (hb : Below w.heap.size w w') : SnIn w' z lo hi A B ca cb os ds := ⟨h.1.below hb, h.2.1.below hb, h.2.2.below hb⟩
theorem SnIn.sep {l2 h2 : Nat} (h : SnIn w z lo hi A B ca cb os ds) (s : Sep l2 h2 w w') (hz : z < l2 ∨ h2 ≤ z) (hb : hi ≤ l2 ∨ h2 ≤ lo) : SnIn w' z lo hi A B ca cb os ds := ⟨h.1.sep s hz, h.2.1.sep s hb, h.2.2.sep s hb⟩
theorem SnIn.i1 (h : SnIn w z lo hi A B ca cb os ds) : IsInts w A os := OwnSl.ints h.2.1.1
theorem SnIn.i2 (h : SnIn w z lo hi A B ca cb os ds) : IsInts w B ds := OwnSl.ints h.2.2.1
end

/-! ### The walk. -/
set_option maxHeartbeats 4000000 in
set_option maxRecDepth 100000 in
theorem walk (A0 B0 : Option Addr) (ca0 cb0 : Nat) (ps0 : List (Int × Int)) (rs0 : List (Int × Int × Int)) (a1 : Int) (a2 : Int) (A3 : Option Addr) (ca3 : Nat) (zs3 : List Int) (w : World) (w0 : NetIn w A0 B0 ca0 cb0 ps0 rs0) (w1 : (Lit.int .i64 a1).wf = true) (w2 : (Lit.int .i64 a2).wf = true) (w3 : IntsIn w A3 ca3 zs3) :
    Calls Try.prog 6 #[.agg #[.slice A0 ps0.length ca0, .slice B0 rs0.length cb0], .int .i64 a1, .int .i64 a2, .slice A3 zs3.length ca3] w fun e w' => e = .returned (.bool true) ∧ Below w.heap.size w w' := by
  obtain ⟨⟨hc0, hc1, hc3, hc2⟩, hP, hR, -, -⟩ := w0
  obtain ⟨hcz3, hI3⟩ := w3
  have X := Pair.new w 25 (.slice A0 ps0.length ca0) (.slice B0 rs0.length cb0)
  have K := below1 w (.cells #[.slice A0 ps0.length ca0, .slice B0 rs0.length cb0] 25)
  by_cases hzl3 : 1048576 < zs3.length
  · have hd : decide ((1048576 : Int) < zs3.length) = true := decide_eq_true (by omega)
    have hd' : (1048576 : Int) < zs3.length := by omega
    go_enter Try.func6, Try.ntmps6
    go_wp2
    go_ret
    exact ⟨rfl, K⟩
  have hz3 : zs3.length ≤ 1048576 := by omega
  have hzd3 : ¬ (1048576 : Int) < zs3.length := by omega
  by_cases hs : ps0.length + rs0.length ≤ 1048576
  rotate_left
  · go_enter Try.func6, Try.ntmps6
    go_wp2_with fail
    refine (szNet_no A0 B0 ps0.length rs0.length ca0 cb0 (by omega) (by omega) (by omega) _).mono ?_; rintro e w1 ⟨rfl, b1⟩
    have k1 := K.trans (b1.mono K.size)
    go_wp2
    go_ret
    exact ⟨rfl, k1⟩
  have hz : ¬ ((1048576 : Int) - ps0.length - rs0.length < 0) := by omega
  have hn : ps0.length ≤ 1048576 := by omega
  have hm : rs0.length ≤ 1048576 := by omega
  obtain ⟨qs, ts, hqs, hts⟩ : ∃ qs ts, qs = idsL (gdL ps0 rs0 zs3 a1 a2) ∧ ts = dsL zs3 (gdL ps0 rs0 zs3 a1 a2) := ⟨_, _, rfl, rfl⟩
  have hlq : qs.length ≤ 1048576 := by rw [hqs]; exact (gd_lens ps0 rs0 zs3 a1 a2).1
  have hlt : ts.length ≤ 1048576 := by rw [hts]; exact (gd_lens ps0 rs0 zs3 a1 a2).2
  have HSP : Hid (∀ (ad : Addr) (B : Option Addr) (ca cb : Nat) (C3 : Option Addr) (cc3 : Nat) (w : World), IsPts w (some ad) ps0 → IsArcs w B rs0 → IsInts w C3 zs3 → Calls Try.prog 30 #[.agg #[.slice (some ad) ps0.length ca, .slice B rs0.length cb], .int .i64 a1, .int .i64 a2, .slice C3 zs3.length cc3] w (SeenMade w qs ts)) := fun ad B ca cb C3 cc3 w h1 h2 h3' => by rw [hqs, hts]; exact specGuided_any (some ad) B C3 ca cb cc3 ps0 rs0 zs3 a1 a2 w hn hm hz3 h1 h2 h3'
  have HIM : Hid (∀ (ad : Addr) (B : Option Addr) (ca cb : Nat) (C3 : Option Addr) (cc3 : Nat) (w : World), IsPts w (some ad) ps0 → IsArcs w B rs0 → IsInts w C3 zs3 → Calls Try.prog 32 #[.agg #[.slice (some ad) ps0.length ca, .slice B rs0.length cb], .int .i64 a1, .int .i64 a2, .slice C3 zs3.length cc3] w (SeenMade w qs ts)) := fun ad B ca cb C3 cc3 w h1 h2 h3' => by rw [hqs, hts]; exact implGuided_any (some ad) B C3 ca cb cc3 ps0 rs0 zs3 a1 a2 w hn hm hz3 h1 h2 h3'
  clear hqs hts
  go_enter Try.func6, Try.ntmps6
  go_wp2_with fail
  refine (szNet_yes A0 B0 ps0.length rs0.length ca0 cb0 hs _).mono ?_; rintro e w1 ⟨rfl, b1⟩
  have s1 : w.heap.size + 1 ≤ w1.heap.size := by have := b1.size; simpa using this
  replace X := X.below b1
  replace K := K.trans (b1.mono K.size)
  clear b1
  obtain ⟨x0, x1, -, -⟩ := X.cells
  go_wp2_with fail
  clear x0 x1
  refine (toNet_any A0 B0 ca0 cb0 ps0 rs0 _ hn hm (hP.below K) (hR.below K)).mono ?_; rintro e w2 ⟨c1, c2, rfl, hl1, hl2, P1, R1, b2⟩
  have s2 : w1.heap.size ≤ w2.heap.size := b2.size
  replace X := X.below b2
  replace K := K.trans (b2.mono K.size)
  clear b2 hl1 hl2
  have P1i := P1.is
  have R1i := R1.is
  go_wp2_with fail
  refine (toIntS_any A3 ca3 zs3 _ hz3 (hI3.below K)).mono ?_; rintro e w3 ⟨rfl, r3, b3⟩
  have s3 : w2.heap.size ≤ w3.heap.size := b3.size
  replace X := X.below b3
  replace K := K.trans (b3.mono K.size)
  have J3 := IsInts.row r3
  replace P1i := P1i.below b3
  replace R1i := R1i.below b3
  clear b3 r3
  go_wp2_with fail
  refine (HSP.out _ _ _ _ _ _ _ P1i R1i J3).mono ?_; rintro e w4 ⟨E4, F4, ea4, eb4, rfl, OP, OR, PT, b4⟩
  have s4 : w3.heap.size ≤ w4.heap.size := b4.size
  replace X := X.below b4
  replace K := K.trans (b4.mono K.size)
  clear b4 P1 R1 P1i R1i PT J3
  have kb4 := below1 w4 (.cells #[.slice E4 qs.length ea4, .slice F4 ts.length eb4] 29)
  have N1 : SnIn (w4.alloc (.cells #[.slice E4 qs.length ea4, .slice F4 ts.length eb4] 29)) w4.heap.size w3.heap.size w4.heap.size E4 F4 ea4 eb4 qs ts := ⟨⟨(Pair.new w4 29 _ _).cells.1, (Pair.new w4 29 _ _).cells.2.1⟩, (SlIn.of OP (Nat.le_refl _)).below kb4, (SlIn.of OR (Nat.le_refl _)).below kb4⟩
  clear OP OR
  replace X := X.below kb4
  replace K := K.trans (kb4.mono K.size)
  obtain ⟨x0, x1, -, -⟩ := X.cells
  go_wp2_with fail
  clear x0 x1
  obtain ⟨W4, hW4⟩ : ∃ W, W = w4.alloc (.cells #[.slice E4 qs.length ea4, .slice F4 ts.length eb4] 29) := ⟨_, rfl⟩
  have sW4 : w4.heap.size + 1 ≤ W4.heap.size := by rw [hW4]; simp
  rw [← hW4] at X N1 K ⊢
  clear hW4 kb4
  refine (toNet_any A0 B0 ca0 cb0 ps0 rs0 _ hn hm (hP.below K) (hR.below K)).mono ?_; rintro e w5 ⟨d1, d2, rfl, hd1, hd2, P2, R2, b5⟩
  have s5 : W4.heap.size ≤ w5.heap.size := b5.size
  replace X := X.below b5
  replace N1 := N1.below b5
  replace K := K.trans (b5.mono K.size)
  clear b5
  have Y := Pair.new w5 34 (.slice (some ⟨d1, 0, none⟩) ps0.length ps0.length) (.slice (some ⟨d2, 0, none⟩) rs0.length rs0.length)
  have kb := below1 w5 (.cells #[.slice (some ⟨d1, 0, none⟩) ps0.length ps0.length, .slice (some ⟨d2, 0, none⟩) rs0.length rs0.length] 34)
  have hd1w := World.rowIs.lt P2
  have hd2w := World.rowIs.lt R2
  replace P2 := rowIs_below P2 kb
  replace R2 := rowIs_below R2 kb
  replace X := X.below kb
  replace N1 := N1.below kb
  replace K := K.trans (kb.mono K.size)
  have hyb : w.heap.size < w5.heap.size := by omega
  go_wp2_with fail
  obtain ⟨W, hW⟩ : ∃ W, W = w5.alloc (.cells #[.slice (some ⟨d1, 0, none⟩) ps0.length ps0.length, .slice (some ⟨d2, 0, none⟩) rs0.length rs0.length] 34) := ⟨_, rfl⟩
  have sW : w5.heap.size + 1 ≤ W.heap.size := by rw [hW]; simp
  rw [← hW] at X N1 Y K P2 R2 ⊢
  clear hW kb
  refine (toIntS_any A3 ca3 zs3 _ hz3 (hI3.below K)).mono ?_; rintro e w6 ⟨rfl, r3, b6⟩
  have s6 : W.heap.size + 1 ≤ w6.heap.size := World.rowIs.lt r3
  replace X := X.below b6
  replace N1 := N1.below b6
  replace Y := Y.below b6
  replace K := K.trans (b6.mono K.size)
  replace P2 := rowIs_below P2 b6
  replace R2 := rowIs_below R2 b6
  have I3 : SlIn w6 W.heap.size w6.heap.size 3 (some ⟨W.heap.size, 0, none⟩) zs3.length (zg zs3) := SlIn.of (ints_own r3) (Nat.le_refl _)
  clear b6 r3
  obtain ⟨y0, y1, -, -⟩ := Y.cells
  go_wp2_with fail
  clear y0 y1
  refine (HIM.out _ _ _ _ _ _ _ (PtsRow.is P2) (ArcsRow.is R2) (OwnSl.ints I3.1)).mono ?_; rintro e w7 ⟨E7, F7, ea7, eb7, rfl, OP, OR, PT, b7⟩
  have s7 : w6.heap.size ≤ w7.heap.size := b7.size
  replace X := X.below b7
  replace N1 := N1.below b7
  replace Y := Y.below b7
  replace I3 := I3.below b7
  replace K := K.trans (b7.mono K.size)
  replace P2 := rowIs_below P2 b7
  replace R2 := rowIs_below R2 b7
  clear b7
  have kq := below1 w7 (.cells #[.slice E7 qs.length ea7, .slice F7 ts.length eb7] 29)
  replace P2 := rowIs_below P2 kq
  replace R2 := rowIs_below R2 kq
  clear kq
  have kb7 := below1 w7 (.cells #[.slice E7 qs.length ea7, .slice F7 ts.length eb7] 29)
  have N2 : SnIn (w7.alloc (.cells #[.slice E7 qs.length ea7, .slice F7 ts.length eb7] 29)) w7.heap.size w6.heap.size w7.heap.size E7 F7 ea7 eb7 qs ts := ⟨⟨(Pair.new w7 29 _ _).cells.1, (Pair.new w7 29 _ _).cells.2.1⟩, (SlIn.of OP (Nat.le_refl _)).below kb7, (SlIn.of OR (Nat.le_refl _)).below kb7⟩
  have HPT7 := Lib.hid PT
  clear OP OR PT
  replace X := X.below kb7
  replace N1 := N1.below kb7
  replace Y := Y.below kb7
  replace I3 := I3.below kb7
  replace K := K.trans (kb7.mono K.size)
  obtain ⟨m0, m1⟩ := N1.1
  obtain ⟨n0, n1⟩ := N2.1
  go_wp2_with fail
  clear m0 m1 n0 n1
  obtain ⟨W7, hW7⟩ : ∃ W, W = w7.alloc (.cells #[.slice E7 qs.length ea7, .slice F7 ts.length eb7] 29) := ⟨_, rfl⟩
  have sW7 : w7.heap.size + 1 ≤ W7.heap.size := by rw [hW7]; simp
  rw [← hW7] at X N1 Y I3 N2 K P2 R2 ⊢
  clear hW7 kb7
  refine (eqSeen_same E7 F7 E4 F4 ea7 eb7 ea4 eb4 qs ts _ hlq hlt N2.i1 N2.i2 N1.i1 N1.i2).mono ?_; rintro e w8 ⟨rfl, b8⟩
  have s8 : W7.heap.size ≤ w8.heap.size := b8.size
  replace X := X.below b8
  replace N1 := N1.below b8
  replace Y := Y.below b8
  replace I3 := I3.below b8
  replace N2 := N2.below b8
  replace K := K.trans (b8.mono K.size)
  replace P2 := rowIs_below P2 b8
  replace R2 := rowIs_below R2 b8
  clear b8
  obtain ⟨P, hPe⟩ : ∃ P : World → Prop, P = fun w' => SnIn w' w4.heap.size w3.heap.size w4.heap.size E4 F4 ea4 eb4 qs ts ∧ SnIn w' w7.heap.size w6.heap.size w7.heap.size E7 F7 ea7 eb7 qs ts ∧ SlIn w' W.heap.size w6.heap.size 3 (some ⟨W.heap.size, 0, none⟩) zs3.length (zg zs3) := ⟨_, rfl⟩
  have hst : Stab P := by rw [hPe]; exact fun w w' hb h => ⟨h.1.below hb, h.2.1.below hb, h.2.2.below hb⟩
  have U : LawP w w.heap.size (.slice A0 ps0.length ca0) (.slice B0 rs0.length cb0) w5.heap.size (.slice (some ⟨d1, 0, none⟩) ps0.length ps0.length) (.slice (some ⟨d2, 0, none⟩) rs0.length rs0.length) d1 d2 ps0 rs0 P w8 := ⟨⟨X.cells.1, X.cells.2.1, Y.cells.1, Y.cells.2.1, P2, R2, K⟩, by rw [hPe]; exact ⟨N1, N2, I3⟩⟩
  have HPE := Lib.hid hPe
  clear hPe X Y P2 R2 K N1 N2 I3
  go_wp2_with fail
  go_region_held3 (fun w' => LawP w w.heap.size (.slice A0 ps0.length ca0) (.slice B0 rs0.length cb0) w5.heap.size (.slice (some ⟨d1, 0, none⟩) ps0.length ps0.length) (.slice (some ⟨d2, 0, none⟩) rs0.length rs0.length) d1 d2 ps0 rs0 P w')
    (first | exact LawP.drew hst U | (refine LawP.under hst (by assumption) ?_; assumption))
    (first
      | (go_at_call 15; refine (toNet_any A0 B0 ca0 cb0 ps0 rs0 _ hn hm (hP.below (LawP.bel (by assumption))) (hR.below (LawP.bel (by assumption)))).mono ?_; rintro e wa ⟨f1, f2, rfl, hl3, hl4, P3, R3, ba⟩)
      | (go_at_call 18; refine (eqNet_same _ _ _ _ _ _ _ _ ps0 rs0 _ hn hm (LawP.pts (by assumption)) (LawP.arcs (by assumption)) P3.is R3.is).mono ?_; rintro e wz ⟨rfl, bz⟩))
  rename_i hU
  have swz : w8.heap.size ≤ wz.heap.size := Nat.le_trans ba.size bz.size
  clear U P3 R3 ba bz hl3 hl4 hst
  rw [HPE.out] at hU
  obtain ⟨⟨x0, x1, y0, y1, P2, R2, K⟩, N1, N2, I3⟩ := hU
  have hm1 := World.rowIs.lt P2
  have hm2 := World.rowIs.lt R2
  have C0 : CellPair wz w.heap.size (.slice A0 ps0.length ca0) (.slice B0 rs0.length cb0) := ⟨x0, x1⟩
  have C1 : CellPair wz w5.heap.size (.slice (some ⟨d1, 0, none⟩) ps0.length ps0.length) (.slice (some ⟨d2, 0, none⟩) rs0.length rs0.length) := ⟨y0, y1⟩
  have M1 : SlIn wz W4.heap.size w5.heap.size 104 (some ⟨d1, 0, none⟩) (ps0.length * 2) (flatP ps0) := ⟨fun _ => ⟨d1, 0, rfl, by omega, PtsRow.own P2⟩, fun g e => by have := blk_is e; omega⟩
  have M2 : SlIn wz W4.heap.size w5.heap.size 80 (some ⟨d2, 0, none⟩) (rs0.length * 3) (flatA rs0) := ⟨fun _ => ⟨d2, 0, rfl, by omega, ArcsRow.own R2⟩, fun g e => by have := blk_is e; omega⟩
  have MP : Parted (some ⟨d1, 0, none⟩) (some ⟨d2, 0, none⟩) (ps0.length * 2) (rs0.length * 3) := parted_of (by omega)
  clear P2 R2 x0 x1 y0 y1
  go_wp2_with fail
  refine (toIntS_any A3 ca3 zs3 _ hz3 (hI3.below K)).mono ?_; rintro e w9 ⟨rfl, r3, b9⟩
  have s9 : wz.heap.size ≤ w9.heap.size := b9.size
  replace C0 := C0.below b9
  replace C1 := C1.below b9
  replace M1 := M1.below b9
  replace M2 := M2.below b9
  replace N1 := N1.below b9
  replace N2 := N2.below b9
  replace I3 := I3.below b9
  replace K := K.trans (b9.mono K.size)
  have J3 := IsInts.row r3
  clear b9 r3
  go_wp2_with fail
  refine (eqIntS_bel _ _ _ _ zs3 _ hz3 (OwnSl.ints I3.1) J3).mono ?_; rintro e w10 ⟨rfl, b10⟩
  have s10 : w9.heap.size ≤ w10.heap.size := b10.size
  replace C0 := C0.below b10
  replace C1 := C1.below b10
  replace M1 := M1.below b10
  replace M2 := M2.below b10
  replace N1 := N1.below b10
  replace N2 := N2.below b10
  replace I3 := I3.below b10
  replace K := K.trans (b10.mono K.size)
  clear b10 J3
  obtain ⟨y0, y1⟩ := C1
  go_wp2_with fail
  clear y0 y1
  refine (markNet_any _ W4.heap.size _ _ ps0.length rs0.length _ _ _ _ 1 hn hm (by omega) M1.1 M2.1 MP).mono ?_; rintro e w11 ⟨rfl, -, -, G⟩
  have Z := Sep.two (lo := W4.heap.size) (hi := w5.heap.size) G M1.2 M2.2
  have s11 := Z.size
  replace C0 := C0.sep Z (by omega)
  replace N1 := N1.sep Z (by omega) (by omega)
  replace N2 := N2.sep Z (by omega) (by omega)
  replace I3 := I3.sep Z (by omega)
  replace K := K.trans (Z.bel (base := w.heap.size) (by omega) K.size)
  clear Z G M1 M2 MP
  go_wp2_with fail
  refine (markIntS_any _ W.heap.size _ _ _ _ ((1 : Int) + (ps0.length * 2 : Nat) + (rs0.length * 3 : Nat)) hz3 (by omega) I3.1).mono ?_; rintro e w12 ⟨rfl, -, G, -⟩
  have Z := Sep.grown (lo := W.heap.size) (hi := w6.heap.size) G I3.2
  have s12 := Z.size
  replace C0 := C0.sep Z (by omega)
  replace N1 := N1.sep Z (by omega) (by omega)
  replace N2 := N2.sep Z (by omega) (by omega)
  replace K := K.trans (Z.bel (base := w.heap.size) (by omega) K.size)
  clear Z G I3
  have hq1 : ¬ ((1 : Int) + (ps0.length * 2 : Nat) + (rs0.length * 3 : Nat) + (zs3.length : Nat) < 0) := by omega
  have hq1' : decide ((1 : Int) + (ps0.length * 2 : Nat) + (rs0.length * 3 : Nat) + (zs3.length : Nat) < 0) = false := decide_eq_false hq1
  obtain ⟨m0, m1⟩ := N1.1
  obtain ⟨n0, n1⟩ := N2.1
  go_wp2_with fail
  clear m0 m1 n0 n1
  refine (eqSeen_same E7 F7 E4 F4 ea7 eb7 ea4 eb4 qs ts _ hlq hlt N2.i1 N2.i2 N1.i1 N1.i2).mono ?_; rintro e w13 ⟨rfl, b13⟩
  have s13 : w12.heap.size ≤ w13.heap.size := b13.size
  replace C0 := C0.below b13
  replace N1 := N1.below b13
  replace N2 := N2.below b13
  replace K := K.trans (b13.mono K.size)
  clear b13 hq1 hq1'
  obtain ⟨n0, n1⟩ := N2.1
  go_wp2_with fail
  clear n0 n1
  refine (markSeen_any _ w6.heap.size _ _ qs.length ts.length _ _ _ _ 1 hlq hlt (by omega) N2.2.1.1 N2.2.2.1 HPT7.out).mono ?_; rintro e w14 ⟨rfl, O1, O2, G⟩
  have Z := Sep.two (lo := w6.heap.size) (hi := w7.heap.size) G N2.2.1.2 N2.2.2.2
  have C2 := N2.1.sep Z (by omega)
  have s14 := Z.size
  replace C0 := C0.sep Z (by omega)
  replace N1 := N1.sep Z (by omega) (by omega)
  replace K := K.trans (Z.bel (base := w.heap.size) (by omega) K.size)
  clear Z G N2
  have hq2 : ¬ ((1 : Int) + (qs.length : Nat) + (ts.length : Nat) < 0) := by omega
  obtain ⟨n0, n1⟩ := C2
  have C2 : CellPair _ _ _ _ := ⟨n0, n1⟩
  go_wp2_with fail
  clear n0 n1
  refine (heldSeen_any _ w6.heap.size _ _ qs.length ts.length _ _ 1 hlq hlt (by omega) O1 O2).mono ?_; rintro e w15 ⟨rfl, b15⟩
  have s15 : w14.heap.size ≤ w15.heap.size := b15.size
  replace C0 := C0.below b15
  replace N1 := N1.below b15
  replace C2 := C2.below b15
  replace O1 := O1.below b15
  replace O2 := O2.below b15
  replace K := K.trans (b15.mono K.size)
  clear b15
  obtain ⟨x0, x1⟩ := C0
  go_wp2_with fail
  clear x0 x1
  refine (toNet_any A0 B0 ca0 cb0 ps0 rs0 _ hn hm (hP.below K) (hR.below K)).mono ?_; rintro e w16 ⟨f1, f2, rfl, hl3, hl4, P4, R4, b16⟩
  have s16 : w15.heap.size ≤ w16.heap.size := b16.size
  replace N1 := N1.below b16
  replace C2 := C2.below b16
  replace O1 := O1.below b16
  replace O2 := O2.below b16
  replace K := K.trans (b16.mono K.size)
  have P4i := P4.is
  have R4i := R4.is
  clear b16 hl3 hl4 P4 R4
  go_wp2_with fail
  refine (toIntS_any A3 ca3 zs3 _ hz3 (hI3.below K)).mono ?_; rintro e w17 ⟨rfl, r3, b17⟩
  have s17 : w16.heap.size ≤ w17.heap.size := b17.size
  replace N1 := N1.below b17
  replace C2 := C2.below b17
  replace O1 := O1.below b17
  replace O2 := O2.below b17
  replace K := K.trans (b17.mono K.size)
  have J3 := IsInts.row r3
  replace P4i := P4i.below b17
  replace R4i := R4i.below b17
  clear b17 r3
  go_wp2_with fail
  refine (HIM.out _ _ _ _ _ _ _ P4i R4i J3).mono ?_; rintro e w18 ⟨E18, F18, ea18, eb18, rfl, OP, OR, PT, b18⟩
  have s18 : w17.heap.size ≤ w18.heap.size := b18.size
  replace N1 := N1.below b18
  replace C2 := C2.below b18
  replace O1 := O1.below b18
  replace O2 := O2.below b18
  replace K := K.trans (b18.mono K.size)
  clear b18 P4i R4i PT J3
  have kb18 := below1 w18 (.cells #[.slice E18 qs.length ea18, .slice F18 ts.length eb18] 29)
  have N3 : SnIn (w18.alloc (.cells #[.slice E18 qs.length ea18, .slice F18 ts.length eb18] 29)) w18.heap.size w17.heap.size w18.heap.size E18 F18 ea18 eb18 qs ts := ⟨⟨(Pair.new w18 29 _ _).cells.1, (Pair.new w18 29 _ _).cells.2.1⟩, (SlIn.of OP (Nat.le_refl _)).below kb18, (SlIn.of OR (Nat.le_refl _)).below kb18⟩
  clear OP OR
  replace N1 := N1.below kb18
  replace C2 := C2.below kb18
  replace O1 := O1.below kb18
  replace O2 := O2.below kb18
  replace K := K.trans (kb18.mono K.size)
  obtain ⟨m0, m1⟩ := N1.1
  go_wp2_with fail
  clear m0 m1
  obtain ⟨W18, hW18⟩ : ∃ W, W = w18.alloc (.cells #[.slice E18 qs.length ea18, .slice F18 ts.length eb18] 29) := ⟨_, rfl⟩
  have sW18 : w18.heap.size + 1 ≤ W18.heap.size := by rw [hW18]; simp
  rw [← hW18] at N1 C2 O1 O2 N3 K ⊢
  clear hW18 kb18
  refine (eqSeen_same E18 F18 E4 F4 ea18 eb18 ea4 eb4 qs ts _ hlq hlt N3.i1 N3.i2 N1.i1 N1.i2).mono ?_; rintro e w19 ⟨rfl, b19⟩
  have s19 : W18.heap.size ≤ w19.heap.size := b19.size
  replace N1 := N1.below b19
  replace C2 := C2.below b19
  replace O1 := O1.below b19
  replace O2 := O2.below b19
  replace N3 := N3.below b19
  replace K := K.trans (b19.mono K.size)
  clear b19 N3
  obtain ⟨n0, n1⟩ := C2
  have C2 : CellPair _ _ _ _ := ⟨n0, n1⟩
  go_wp2_with fail
  clear n0 n1
  refine (heldSeen_any _ w6.heap.size _ _ qs.length ts.length _ _ 1 hlq hlt (by omega) O1 O2).mono ?_; rintro e w20 ⟨rfl, b20⟩
  have s20 : w19.heap.size ≤ w20.heap.size := b20.size
  replace N1 := N1.below b20
  replace C2 := C2.below b20
  replace O1 := O1.below b20
  replace O2 := O2.below b20
  replace K := K.trans (b20.mono K.size)
  clear b20
  go_wp2
  go_ret
  exact ⟨rfl, K⟩

/-! ### The row's step. -/
set_option maxRecDepth 100000 in
theorem lifted (os : Os) (started : os.Started) (H : Type) (enc : TypeId × Value → H) :
    ReturnsInHanded {} Try.checked os 6 .any (Rows.fnExactGuidedSpec.pre6 enc Try.prog Try.f6 Rows.fnExactGuidedRow.domain false) (Rows.fnExactGuidedSpec.post enc Try.prog Try.f6 false true false false) := by
  refine returnsInHanded_of_change (C := Try.checked) own started (by kernel_rfl) Try.func6
    (ChangeSpec.witness6 (enc := enc) (C := Try.checked) false ⟨#[], #[.agg #[.slice none 0 0, .slice none 0 0], .int .i64 0, .int .i64 0, .slice none 0 0], []⟩ 8 (by kernel_rfl) (by kernel_rfl) (by kernel_rfl) (by kernel_rfl)) ?_
  intro W base args ds gs before hval0 hW hcnd _
  have hval : ∀ (j : Nat) t v, Try.f6.params[j]? = some t → args[j]? = some v → Value.okWide Try.prog W .any base t v := hval0
  have hW' := hW
  obtain ⟨p, q, hA0, hV, rfl, hfz, hnd⟩ := hW
  have hA : DataW.TrodAll enc Try.prog W 0 (fun _ => true) true Try.f6.params.toList args.toList ds p := hA0
  rw [Try.params6] at hA hval
  obtain ⟨v0, vs0, d0, ds0, p0, q0, hargs, rfl, rfl, h0, r0⟩ := trodAll_cons hA
  obtain ⟨v1, vs1, d1, ds1, p1, q1, rfl, rfl, rfl, h1, r1⟩ := trodAll_cons r0
  obtain ⟨v2, vs2, d2, ds2, p2, q2, rfl, rfl, rfl, h2, r2⟩ := trodAll_cons r1
  obtain ⟨v3, vs3, d3, ds3, p3, q3, rfl, rfl, rfl, h3, r3⟩ := trodAll_cons r2
  obtain ⟨rfl, rfl, rfl⟩ := trodAll_nil r3
  obtain rfl : args = #[v0, v1, v2, v3] := by cases args; simp_all
  obtain ⟨rfl, rfl⟩ := trodVars_none hV
  have k0 := h0
  have lt0 : ∀ x ∈ p0, x.block < W.heap.size := by obtain ⟨m, hm⟩ := k0; exact DataW.trod_lt m _ _ _ hm
  obtain ⟨A0, B0, ca0, cb0, ps0, rs0, rfl, w0⟩ := opens_net (hval 0 25 v0 rfl rfl) h0
  have k1 := h1
  have lt1 : ∀ x ∈ p1, x.block < W.heap.size := by obtain ⟨m, hm⟩ := k1; exact DataW.trod_lt m _ _ _ hm
  obtain ⟨a1, rfl, -, -, w1⟩ := open_int Try.underlying3 (hval 1 3 v1 rfl rfl) h1
  have k2 := h2
  have lt2 : ∀ x ∈ p2, x.block < W.heap.size := by obtain ⟨m, hm⟩ := k2; exact DataW.trod_lt m _ _ _ hm
  obtain ⟨a2, rfl, -, -, w2⟩ := open_int Try.underlying3 (hval 2 3 v2 rfl rfl) h2
  have k3 := h3
  have lt3 : ∀ x ∈ p3, x.block < W.heap.size := by obtain ⟨m, hm⟩ := k3; exact DataW.trod_lt m _ _ _ hm
  obtain ⟨A3, ca3, zs3, rfl, w3⟩ := opens_ints (hval 3 27 v3 rfl rfl) h3
  clear hA0 hval0
  refine (walk A0 B0 ca0 cb0 ps0 rs0 a1 a2 A3 ca3 zs3 W w0 w1 w2 w3).mono fun e W' ⟨he, bel⟩ => ?_
  subst he
  exact ⟨_, rfl, _, _, _, [], _, [], hW', trodAll_mk1 (shut_bool Try.underlying4 _), (trodAll_cons_mk (Below.trod laidOut (by kernel_rfl) (of_decide_eq_true (by kernel_rfl)) k0 bel lt0) (trodAll_cons_mk (Below.trod laidOut (by kernel_rfl) (of_decide_eq_true (by kernel_rfl)) k1 bel lt1) (trodAll_cons_mk (Below.trod laidOut (by kernel_rfl) (of_decide_eq_true (by kernel_rfl)) k2 bel lt2) (trodAll_cons_mk (Below.trod laidOut (by kernel_rfl) (of_decide_eq_true (by kernel_rfl)) k3 bel lt3) trodAll_mk0)))), rfl, bel.frame _, fun h => by cases h⟩

theorem over : Rows.fnExactGuidedRow.holds Try.pinned (OpenSpec.ofChange Rows.fnExactGuidedSpec) :=
  OpenClaim.holds_of_wide 6 Try.f6 rfl rfl rfl rfl rfl rfl rfl ⟨rfl, rfl, rfl, rfl, rfl⟩ rfl rfl rfl rfl rfl (by kernel_rfl) Try.func6 (by kernel_rfl)
    (of_decide_eq_true (by kernel_rfl)) (by unfold Func.isWrapper; first | (rw [if_pos (by decide +kernel)]; kernel_rfl) | (rw [if_neg (by decide +kernel)]; exact ⟨rfl, rfl⟩))
    (fun os started H enc _ => lifted os started H enc)

/-- ████ THE STATEMENT ████ -/
theorem proved : Rows.FnExactGuidedSaid := over
#print axioms proved
end Go.Proofs.Ytbmfjfglkjhlnaa.fnExactGuided
