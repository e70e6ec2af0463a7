/-
  For every network the law FnExactTurned returns true: the program's Turned answers as the specification's, in memory of its own, and writes nothing into the network (no condition).
-/
import Derived.Test.YtahpjpchphbgiaaRows
import Derived.WalkKit
import Derived.ProofKit
import Derived.OpenShut
import Derived.ShutString
import Derived.ChangeOld
import Derived.Below
import Derived.Test.YtahpjpchphbgiaaNetFrame
import Derived.Test.YtahpjpchphbgiaaTurn
namespace Go.Proofs.Ytahpjpchphbgiaa.fnExactTurned
open Go.ChangeShapes Go.WideShapes Go.ChangeAt Go.RowKit
open Go.ChangeMaps (open_string shut_string)
set_option linter.unusedVariables false

theorem own : ownKnob Try.prog.godebug = none := by kernel_rfl
theorem laidOut : laidOutB Try.prog = true := by kernel_rfl

theorem blk_is {b off N g : Nat} (h : blk (some ⟨b, off, none⟩) N = some g) : g = b := by
  unfold blk at h; split at h
  · simpa using h.symm
  · cases h
theorem parted_of {a b N M : Nat} (h : a ≠ b) : Parted (some ⟨a, 0, none⟩) (some ⟨b, 0, none⟩) N M := fun g e e' => h ((blk_is e).symm.trans (blk_is e'))
theorem OwnSl.pts {w : World} {base : Nat} {A : Option Addr} {ps : List (Int × Int)} (h : OwnSl w base 59 A (ps.length * 2) (flatP ps)) : IsPts w A ps := fun hp => by
  obtain ⟨g, off, rfl, -, ho⟩ := h (by omega)
  exact ⟨g, off, rfl, ho.lt, fun i hi => ⟨by rw [ho.cell (i := i * 2) (by omega), flatP_0], by rw [show off + i * 2 + 1 = off + (i * 2 + 1) by omega, ho.cell (i := i * 2 + 1) (by omega), flatP_1]⟩⟩
theorem OwnSl.arcs {w : World} {base : Nat} {B : Option Addr} {rs : List A3} (h : OwnSl w base 36 B (rs.length * 3) (flatA rs)) : IsArcs w B rs := fun hp => by
  obtain ⟨g, off, rfl, -, ho⟩ := h (by omega)
  exact ⟨g, off, rfl, ho.lt, fun i hi => ⟨by rw [ho.cell (i := i * 3) (by omega), flatA_0], by rw [show off + i * 3 + 1 = off + (i * 3 + 1) by omega, ho.cell (i := i * 3 + 1) (by omega), flatA_1], by rw [show off + i * 3 + 2 = off + (i * 3 + 2) by omega, ho.cell (i := i * 3 + 2) (by omega), flatA_2]⟩⟩
/-- Two cells of one block. -/
def CellPair (w : World) (b : Nat) (u v : Value) : Prop := w.cell? ⟨b, 0, none⟩ = some u ∧ w.cell? ⟨b, 1, none⟩ = some v
theorem CellPair.of_block {w w' : World} {b : Nat} {u v : Value} (h : CellPair w b u v) (e : ∀ g, g < w.heap.size → g = b → w'.heap[g]? = w.heap[g]?) : CellPair w' b u v := by
  have hb : b < w.heap.size := by simpa using World.block_lt_of_cell? w _ h.1
  exact ⟨(World.cell?_of_block (w := w) (a := ⟨b, 0, none⟩) (e b hb rfl)).trans h.1, (World.cell?_of_block (w := w) (a := ⟨b, 1, none⟩) (e b hb rfl)).trans h.2⟩
theorem CellPair.below {w w' : World} {b : Nat} {u v : Value} (h : CellPair w b u v) (hb : Below w.heap.size w w') : CellPair w' b u v := h.of_block fun g hg _ => hb.block g hg
/-- An answer in a box of the law's. -/
def NetAt (w : World) (z base : Nat) (A B : Option Addr) (ca cb : Nat) (ps : List (Int × Int)) (rs : List A3) : Prop :=
  CellPair w z (.slice A ps.length ca) (.slice B rs.length cb) ∧ OwnSl w base 59 A (ps.length * 2) (flatP ps) ∧ OwnSl w base 36 B (rs.length * 3) (flatA rs)
section
variable {w w' : World} {z base : Nat} {A B : Option Addr} {ca cb : Nat} {ps : List (Int × Int)} {rs : List A3}
theorem NetAt.below (h : NetAt w z base A B ca cb ps rs) (hb : Below w.heap.size w w') : NetAt w' z base A B ca cb ps rs := ⟨h.1.below hb, h.2.1.below hb, h.2.2.below hb⟩
theorem NetAt.drew (h : NetAt w z base A B ca cb ps rs) : NetAt w.drew z base A B ca cb ps rs := ⟨h.1.of_block (fun _ _ _ => rfl), h.2.1.of_block (fun _ _ _ => rfl), h.2.2.of_block (fun _ _ _ => rfl)⟩
theorem NetAt.of_block (h : NetAt w z base A B ca cb ps rs) (e : ∀ g, (g = z ∨ blk A (ps.length * 2) = some g ∨ blk B (rs.length * 3) = some g) → g < w.heap.size → w'.heap[g]? = w.heap[g]?) : NetAt w' z base A B ca cb ps rs :=
  ⟨h.1.of_block (fun g hg hz => e g (.inl hz) hg), h.2.1.of_block (fun g hg hl => e g (.inr (.inl hg)) hl), h.2.2.of_block (fun g hg hl => e g (.inr (.inr hg)) hl)⟩
theorem NetAt.cells (h : NetAt w z base A B ca cb ps rs) : w.cell? ⟨z, 0, none⟩ = some (.slice A ps.length ca) ∧ w.cell? ⟨z, 1, none⟩ = some (.slice B rs.length cb) := h.1
theorem NetAt.lt (h : NetAt w z base A B ca cb ps rs) : z < w.heap.size := by simpa using World.block_lt_of_cell? w _ h.1.1
end
/-- What holds behind the program's call: the frame, the two answers. -/
abbrev TurnS (base : World) (xb : Nat) (u v : Value) (tb : Nat) (s t : Value) (b1 b2 : Nat) (ps : List (Int × Int)) (rs : List A3) (z1 B1 : Nat) (A1 C1 : Option Addr) (ca1 cb1 : Nat) (z2 B2 : Nat) (A2 C2 : Option Addr) (ca2 cb2 : Nat) (qs : List (Int × Int)) (ts : List A3) (w : World) : Prop :=
  LawS base xb u v tb s t b1 b2 ps rs w ∧ NetAt w z1 B1 A1 C1 ca1 cb1 qs ts ∧ NetAt w z2 B2 A2 C2 ca2 cb2 qs ts
section
variable {base w w' : World} {xb : Nat} {u v : Value} {tb : Nat} {s t : Value} {b1 b2 : Nat} {ps : List (Int × Int)} {rs : List A3} {z1 B1 : Nat} {A1 C1 : Option Addr} {ca1 cb1 : Nat} {z2 B2 : Nat} {A2 C2 : Option Addr} {ca2 cb2 : Nat} {qs : List (Int × Int)} {ts : List A3}
theorem TurnS.under (hb : Below w.heap.size w w') (h : TurnS base xb u v tb s t b1 b2 ps rs z1 B1 A1 C1 ca1 cb1 z2 B2 A2 C2 ca2 cb2 qs ts w) : TurnS base xb u v tb s t b1 b2 ps rs z1 B1 A1 C1 ca1 cb1 z2 B2 A2 C2 ca2 cb2 qs ts w' := ⟨LawS.under hb h.1, h.2.1.below hb, h.2.2.below hb⟩
theorem TurnS.drew (h : TurnS base xb u v tb s t b1 b2 ps rs z1 B1 A1 C1 ca1 cb1 z2 B2 A2 C2 ca2 cb2 qs ts w) : TurnS base xb u v tb s t b1 b2 ps rs z1 B1 A1 C1 ca1 cb1 z2 B2 A2 C2 ca2 cb2 qs ts w.drew := ⟨LawS.drew h.1, h.2.1.drew, h.2.2.drew⟩
theorem TurnS.bel (h : TurnS base xb u v tb s t b1 b2 ps rs z1 B1 A1 C1 ca1 cb1 z2 B2 A2 C2 ca2 cb2 qs ts w) : Below base.heap.size base w := LawS.bel h.1
theorem TurnS.pts (h : TurnS base xb u v tb s t b1 b2 ps rs z1 B1 A1 C1 ca1 cb1 z2 B2 A2 C2 ca2 cb2 qs ts w) : IsPts w (some ⟨b1, 0, none⟩) ps := LawS.pts h.1
theorem TurnS.arcs (h : TurnS base xb u v tb s t b1 b2 ps rs z1 B1 A1 C1 ca1 cb1 z2 B2 A2 C2 ca2 cb2 qs ts w) : IsArcs w (some ⟨b2, 0, none⟩) rs := LawS.arcs h.1
end
theorem turn_lens (ps : List (Int × Int)) (rs : List A3) (h1 : ps.length ≤ 1048576) (h2 : rs.length ≤ 1048576) : (turnP ps rs).length ≤ 1048576 ∧ (turnR ps rs).length ≤ 1048576 := by
  unfold turnP turnR
  cases hok : netB ps rs with
  | false => exact ⟨by simp, by simp⟩
  | true => exact ⟨by rw [if_pos rfl]; exact h1, by rw [if_pos rfl, turn_len (netB_rise hok)]; exact h2⟩

/-! ### The walk. -/
set_option maxHeartbeats 4000000 in
set_option maxRecDepth 100000 in
theorem walk (A0 B0 : Option Addr) (ca0 cb0 : Nat) (ps0 : List (Int × Int)) (rs0 : List (Int × Int × Int)) (w : World) (w0 : NetIn w A0 B0 ca0 cb0 ps0 rs0) :
    Calls Try.prog 8 #[.agg #[.slice A0 ps0.length ca0, .slice B0 rs0.length cb0]] w fun e w' => e = .returned (.bool true) ∧ Below w.heap.size w w' := by
  obtain ⟨⟨hc0, hc1, hc3, hc2⟩, hP, hR, -, -⟩ := w0
  have X := Pair.new w 41 (.slice A0 ps0.length ca0) (.slice B0 rs0.length cb0)
  have K := below1 w (.cells #[.slice A0 ps0.length ca0, .slice B0 rs0.length cb0] 41)
  by_cases hs : ps0.length + rs0.length ≤ 1048576
  rotate_left
  · go_enter Try.func8, Try.ntmps8
    go_wp2_with fail
    refine (szNet_no A0 B0 ps0.length rs0.length ca0 cb0 (by omega) (by omega) (by omega) _).mono ?_; rintro e w1 ⟨rfl, b1⟩
    have k1 := K.trans (b1.mono K.size)
    go_wp2
    go_ret
    exact ⟨rfl, k1⟩
  · have hz : ¬ ((1048576 : Int) - ps0.length - rs0.length < 0) := by omega
    obtain ⟨hl1', hl2'⟩ := turn_lens ps0 rs0 (by omega) (by omega)
    generalize hqs : turnP ps0 rs0 = qs at hl1'
    generalize hts : turnR ps0 rs0 = ts at hl2'
    have HSP : Hid (∀ (ad : Addr) (B : Option Addr) (ca cb : Nat) (w : World), IsPts w (some ad) ps0 → IsArcs w B rs0 → Calls Try.prog 13 #[.agg #[.slice (some ad) ps0.length ca, .slice B rs0.length cb]] w (NetOwned w qs ts)) := fun ad B ca cb w h1 h2 => by rw [← hqs, ← hts]; exact specTurned_any ad B ca cb ps0 rs0 w (by omega) (by omega) h1 h2
    have HIM : Hid (∀ (ad : Addr) (B : Option Addr) (ca cb : Nat) (w : World), IsPts w (some ad) ps0 → IsArcs w B rs0 → Calls Try.prog 11 #[.agg #[.slice (some ad) ps0.length ca, .slice B rs0.length cb]] w (NetOwned w qs ts)) := fun ad B ca cb w h1 h2 => by rw [← hqs, ← hts]; exact implTurned_any ad B ca cb ps0 rs0 w (by omega) (by omega) h1 h2
    clear hqs hts
    go_enter Try.func8, Try.ntmps8
    go_wp2_with fail
    refine (szNet_yes A0 B0 ps0.length rs0.length ca0 cb0 hs _).mono ?_; rintro e w1 ⟨rfl, b1⟩
    replace X := X.below b1
    replace K := K.trans (b1.mono K.size)
    clear b1
    obtain ⟨x0, x1, -, -⟩ := X.cells
    go_wp2_with fail
    clear x0 x1
    refine (toNet_any A0 B0 ca0 cb0 ps0 rs0 _ (by omega) (by omega) (hP.below K) (hR.below K)).mono ?_; rintro e w2 ⟨c1, c2, rfl, hl1, hl2, P1, R1, b2⟩
    replace X := X.below b2
    replace K := K.trans (b2.mono K.size)
    clear b2 hl1 hl2
    go_wp2_with fail
    refine (HSP.out _ _ _ _ _ P1.is R1.is).mono ?_; rintro e w3 ⟨A1, C1, ca1, cb1, rfl, OP1, OR1, -, b3⟩
    replace X := X.below b3
    replace K := K.trans (b3.mono K.size)
    clear b3 P1 R1
    have N1 : NetAt (w3.alloc (.cells #[.slice A1 qs.length ca1, .slice C1 ts.length cb1] 27)) w3.heap.size w2.heap.size A1 C1 ca1 cb1 qs ts :=
      ⟨⟨(Pair.new w3 27 _ _).cells.1, (Pair.new w3 27 _ _).cells.2.1⟩, OP1.below (below1 _ _), OR1.below (below1 _ _)⟩
    have hN1 : ∀ g, (g = w3.heap.size ∨ blk A1 (qs.length * 2) = some g ∨ blk C1 (ts.length * 3) = some g) → g ≤ w3.heap.size := fun g h => by
      rcases h with h | h | h
      · omega
      · have := (blk_own OP1 h).2; omega
      · have := (blk_own OR1 h).2; omega
    have HN1 := Lib.hid hN1
    clear hN1 OP1 OR1
    have k3 := below1 w3 (.cells #[.slice A1 qs.length ca1, .slice C1 ts.length cb1] 27)
    replace X := X.below k3
    replace K := K.trans (k3.mono K.size)
    clear k3
    obtain ⟨x0, x1, -, -⟩ := X.cells
    go_wp2_with fail
    clear x0 x1
    obtain ⟨W3, hW3⟩ : ∃ W3, W3 = w3.alloc (.cells #[.slice A1 qs.length ca1, .slice C1 ts.length cb1] 27) := ⟨_, rfl⟩
    have hs3 : w3.heap.size < W3.heap.size := by rw [hW3]; simp
    rw [← hW3] at N1 X K ⊢
    clear hW3
    have xl3 := X.lt
    generalize w3.heap.size = z1 at N1 HN1 hs3 ⊢
    refine (toNet_any A0 B0 ca0 cb0 ps0 rs0 _ (by omega) (by omega) (hP.below K) (hR.below K)).mono ?_; rintro e w4 ⟨d1, d2, rfl, hd1, hd2, P2, R2, b4⟩
    replace X := X.below b4
    replace N1 := N1.below b4
    replace K := K.trans (b4.mono K.size)
    clear b4
    have Y := Pair.new w4 27 (.slice (some ⟨d1, 0, none⟩) ps0.length ps0.length) (.slice (some ⟨d2, 0, none⟩) rs0.length rs0.length)
    have k5 := below1 w4 (.cells #[.slice (some ⟨d1, 0, none⟩) ps0.length ps0.length, .slice (some ⟨d2, 0, none⟩) rs0.length rs0.length] 27)
    have hd2w := World.rowIs.lt R2
    have hd1w := World.rowIs.lt P2
    replace P2 := rowIs_below P2 k5
    replace R2 := rowIs_below R2 k5
    replace X := X.below k5
    replace N1 := N1.below k5
    replace K := K.trans (k5.mono K.size)
    clear k5
    go_wp2_with fail
    obtain ⟨W5, hW5⟩ : ∃ W5, W5 = w4.alloc (.cells #[.slice (some ⟨d1, 0, none⟩) ps0.length ps0.length, .slice (some ⟨d2, 0, none⟩) rs0.length rs0.length] 27) := ⟨_, rfl⟩
    have hs5 : w4.heap.size < W5.heap.size := by rw [hW5]; simp
    rw [← hW5] at N1 X Y K P2 R2 ⊢
    clear hW5
    generalize w4.heap.size = yb at Y hd1w hd2w hs5 ⊢
    refine (HIM.out _ _ _ _ _ (PtsRow.is P2) (ArcsRow.is R2)).mono ?_; rintro e w5 ⟨A2, C2, ca2, cb2, rfl, OP2, OR2, PT2, b5⟩
    have hw5 := b5.size
    have N2 : NetAt (w5.alloc (.cells #[.slice A2 qs.length ca2, .slice C2 ts.length cb2] 27)) w5.heap.size W5.heap.size A2 C2 ca2 cb2 qs ts :=
      ⟨⟨(Pair.new w5 27 _ _).cells.1, (Pair.new w5 27 _ _).cells.2.1⟩, OP2.below (below1 _ _), OR2.below (below1 _ _)⟩
    have hN2 : ∀ g, (blk A2 (qs.length * 2) = some g ∨ blk C2 (ts.length * 3) = some g) → W5.heap.size ≤ g ∧ g < w5.heap.size := fun g h => by
      rcases h with h | h
      · exact blk_own OP2 h
      · exact blk_own OR2 h
    have HN2 := Lib.hid hN2
    have HPT2 := Lib.hid PT2
    clear hN2 OP2 OR2 PT2
    have b6 := b5.trans ((below1 w5 (.cells #[.slice A2 qs.length ca2, .slice C2 ts.length cb2] 27)).mono b5.size)
    replace N1 := N1.below b6
    have T : LawS w w.heap.size (.slice A0 ps0.length ca0) (.slice B0 rs0.length cb0) yb (.slice (some ⟨d1, 0, none⟩) ps0.length ps0.length) (.slice (some ⟨d2, 0, none⟩) rs0.length rs0.length) d1 d2 ps0 rs0 (w5.alloc (.cells #[.slice A2 qs.length ca2, .slice C2 ts.length cb2] 27)) :=
      ⟨(X.below b6).cells.1, (X.below b6).cells.2.1, (Y.below b6).cells.1, (Y.below b6).cells.2.1, rowIs_below P2 b6, rowIs_below R2 b6, K.trans (b6.mono K.size)⟩
    have xl0 := X.lt
    clear b5 b6 X Y K P2 R2
    obtain ⟨m0, m1⟩ := N1.cells
    obtain ⟨n0, n1⟩ := N2.cells
    go_wp2_with fail
    clear m0 m1 n0 n1
    obtain ⟨W6, hW6⟩ : ∃ W6, W6 = w5.alloc (.cells #[.slice A2 qs.length ca2, .slice C2 ts.length cb2] 27) := ⟨_, rfl⟩
    have hs6 : w5.heap.size < W6.heap.size := by rw [hW6]; simp
    rw [← hW6] at N1 N2 T ⊢
    clear hW6
    generalize w5.heap.size = z2 at N2 HN2 hs6 hw5 ⊢
    refine (eqNet_same A2 C2 A1 C1 ca2 cb2 ca1 cb1 qs ts _ hl1' hl2' (OwnSl.pts N2.2.1) (OwnSl.arcs N2.2.2) (OwnSl.pts N1.2.1) (OwnSl.arcs N1.2.2)).mono ?_; rintro e w7 ⟨rfl, b7⟩
    have U : TurnS w w.heap.size (.slice A0 ps0.length ca0) (.slice B0 rs0.length cb0) yb (.slice (some ⟨d1, 0, none⟩) ps0.length ps0.length) (.slice (some ⟨d2, 0, none⟩) rs0.length rs0.length) d1 d2 ps0 rs0 z1 w2.heap.size A1 C1 ca1 cb1 z2 W5.heap.size A2 C2 ca2 cb2 qs ts w7 := ⟨LawS.under b7 T, N1.below b7, N2.below b7⟩
    clear b7 T N1 N2
    go_wp2_with fail
    go_region_held3 (fun w' => TurnS w w.heap.size (.slice A0 ps0.length ca0) (.slice B0 rs0.length cb0) yb (.slice (some ⟨d1, 0, none⟩) ps0.length ps0.length) (.slice (some ⟨d2, 0, none⟩) rs0.length rs0.length) d1 d2 ps0 rs0 z1 w2.heap.size A1 C1 ca1 cb1 z2 W5.heap.size A2 C2 ca2 cb2 qs ts w')
      (first | exact TurnS.drew U | (refine TurnS.under (by assumption) ?_; assumption))
      (first
        | (go_at_call 21; refine (toNet_any A0 B0 ca0 cb0 ps0 rs0 _ (by omega) (by omega) (hP.below (TurnS.bel (by assumption))) (hR.below (TurnS.bel (by assumption)))).mono ?_; rintro e w8 ⟨f1, f2, rfl, hl3, hl4, P3, R3, b8⟩)
        | (go_at_call 22; refine (eqNet_same _ _ _ _ _ _ _ _ ps0 rs0 _ (by omega) (by omega) (TurnS.pts (by assumption)) (TurnS.arcs (by assumption)) P3.is R3.is).mono ?_; rintro e w9 ⟨rfl, b9⟩))
    rename_i hU
    clear U P3 R3 b8 b9 hl3 hl4
    obtain ⟨⟨x0, x1, y0, y1, P2, R2, K⟩, N1, N2⟩ := hU
    have M1 : OwnSl w9 w.heap.size 59 (some ⟨d1, 0, none⟩) (ps0.length * 2) (flatP ps0) := fun _ => ⟨d1, 0, rfl, by omega, PtsRow.own P2⟩
    have M2 : OwnSl w9 w.heap.size 36 (some ⟨d2, 0, none⟩) (rs0.length * 3) (flatA rs0) := fun _ => ⟨d2, 0, rfl, by omega, ArcsRow.own R2⟩
    have MP : Parted (some ⟨d1, 0, none⟩) (some ⟨d2, 0, none⟩) (ps0.length * 2) (rs0.length * 3) := parted_of (by omega)
    have C0 : CellPair w9 w.heap.size (.slice A0 ps0.length ca0) (.slice B0 rs0.length cb0) := ⟨x0, x1⟩
    go_wp2_with fail
    clear x0 x1 y0 y1
    refine (markNet_any _ w.heap.size _ _ ps0.length rs0.length _ _ _ _ 1 (by omega) (by omega) (by omega) M1 M2 MP).mono ?_; rintro e w10 ⟨rfl, -, -, G⟩
    have hb10 := G.below (base := w.heap.size) K.size (fun g e => by have := blk_is e; omega) (fun g e => by have := blk_is e; omega)
    replace K := K.trans hb10
    replace N1 := N1.of_block (w' := w10) (fun g h hl => G.2.2.2.2 g hl (fun e' => by have := blk_is e'.symm; have := HN1.out g h; omega) (fun e' => by have := blk_is e'.symm; have := HN1.out g h; omega))
    replace N2 := N2.of_block (w' := w10) (fun g h hl => G.2.2.2.2 g hl (fun e' => by have := blk_is e'.symm; rcases h with h | h; omega; have := HN2.out g h; omega) (fun e' => by have := blk_is e'.symm; rcases h with h | h; omega; have := HN2.out g h; omega))
    replace C0 := C0.of_block (w' := w10) (fun g hl hx => G.2.2.2.2 g hl (fun e' => by have := blk_is e'.symm; omega) (fun e' => by have := blk_is e'.symm; omega))
    clear M1 M2 MP P2 R2 G hb10
    have hq1 : ¬ ((1 : Int) + (ps0.length * 2 : Nat) + (rs0.length * 3 : Nat) < 0) := by omega
    have hq1' : decide ((1 : Int) + (ps0.length * 2 : Nat) + (rs0.length * 3 : Nat) < 0) = false := decide_eq_false hq1
    obtain ⟨m0, m1⟩ := N1.cells
    obtain ⟨n0, n1⟩ := N2.cells
    go_wp2_with fail
    clear m0 m1 n0 n1
    refine (eqNet_same A2 C2 A1 C1 ca2 cb2 ca1 cb1 qs ts _ hl1' hl2' (OwnSl.pts N2.2.1) (OwnSl.arcs N2.2.2) (OwnSl.pts N1.2.1) (OwnSl.arcs N1.2.2)).mono ?_; rintro e w11 ⟨rfl, b11⟩
    replace N1 := N1.below b11
    replace N2 := N2.below b11
    replace C0 := C0.below b11
    replace K := K.trans (b11.mono K.size)
    clear b11 hq1 hq1'
    obtain ⟨n0, n1⟩ := N2.cells
    go_wp2_with fail
    clear n0 n1
    refine (markNet_any _ W5.heap.size _ _ qs.length ts.length _ _ _ _ 1 hl1' hl2' (by omega) N2.2.1 N2.2.2 HPT2.out).mono ?_; rintro e w12 ⟨rfl, M1, M2, G⟩
    have hb12 := G.below (base := w.heap.size) K.size (fun g e => by have := HN2.out g (.inl e); omega) (fun g e => by have := HN2.out g (.inr e); omega)
    replace K := K.trans hb12
    replace N1 := N1.of_block (w' := w12) (fun g h hl => G.2.2.2.2 g hl (fun e' => by have := HN2.out g (.inl e'.symm); have := HN1.out g h; omega) (fun e' => by have := HN2.out g (.inr e'.symm); have := HN1.out g h; omega))
    have C2p := N2.1.of_block (w' := w12) (fun g hl hx => G.2.2.2.2 g hl (fun e' => by have := HN2.out g (.inl e'.symm); omega) (fun e' => by have := HN2.out g (.inr e'.symm); omega))
    replace C0 := C0.of_block (w' := w12) (fun g hl hx => G.2.2.2.2 g hl (fun e' => by have := HN2.out g (.inl e'.symm); omega) (fun e' => by have := HN2.out g (.inr e'.symm); omega))
    clear N2 G hb12
    have hq2 : ¬ ((1 : Int) + (qs.length * 2 : Nat) + (ts.length * 3 : Nat) < 0) := by omega
    obtain ⟨n0, n1⟩ := C2p
    have C2p : CellPair w12 z2 (.slice A2 qs.length ca2) (.slice C2 ts.length cb2) := ⟨n0, n1⟩
    go_wp2_with fail
    clear n0 n1
    refine (heldNet_any _ W5.heap.size _ _ qs.length ts.length _ _ 1 hl1' hl2' (by omega) M1 M2).mono ?_; rintro e w13 ⟨rfl, b13⟩
    replace N1 := N1.below b13
    replace M1 := M1.below b13
    replace M2 := M2.below b13
    replace C2p := C2p.below b13
    replace C0 := C0.below b13
    replace K := K.trans (b13.mono K.size)
    clear b13
    obtain ⟨x0, x1⟩ := C0
    go_wp2_with fail
    clear x0 x1
    refine (toNet_any A0 B0 ca0 cb0 ps0 rs0 _ (by omega) (by omega) (hP.below K) (hR.below K)).mono ?_; rintro e w14 ⟨f1, f2, rfl, hl3, hl4, P4, R4, b14⟩
    replace N1 := N1.below b14
    replace M1 := M1.below b14
    replace M2 := M2.below b14
    replace C2p := C2p.below b14
    replace K := K.trans (b14.mono K.size)
    clear b14 hl3 hl4
    go_wp2_with fail
    refine (HIM.out _ _ _ _ _ P4.is R4.is).mono ?_; rintro e w15 ⟨A3, C3, ca3, cb3, rfl, OP3, OR3, -, b15⟩
    have N3 : NetAt (w15.alloc (.cells #[.slice A3 qs.length ca3, .slice C3 ts.length cb3] 27)) w15.heap.size w14.heap.size A3 C3 ca3 cb3 qs ts :=
      ⟨⟨(Pair.new w15 27 _ _).cells.1, (Pair.new w15 27 _ _).cells.2.1⟩, OP3.below (below1 _ _), OR3.below (below1 _ _)⟩
    have b16 := b15.trans ((below1 w15 (.cells #[.slice A3 qs.length ca3, .slice C3 ts.length cb3] 27)).mono b15.size)
    replace N1 := N1.below b16
    replace M1 := M1.below b16
    replace M2 := M2.below b16
    replace C2p := C2p.below b16
    replace K := K.trans (b16.mono K.size)
    clear b15 b16 OP3 OR3 P4 R4
    obtain ⟨m0, m1⟩ := N1.cells
    go_wp2_with fail
    clear m0 m1
    refine (eqNet_same A3 C3 A1 C1 ca3 cb3 ca1 cb1 qs ts _ hl1' hl2' (OwnSl.pts N3.2.1) (OwnSl.arcs N3.2.2) (OwnSl.pts N1.2.1) (OwnSl.arcs N1.2.2)).mono ?_; rintro e w17 ⟨rfl, b17⟩
    replace M1 := M1.below b17
    replace M2 := M2.below b17
    replace C2p := C2p.below b17
    replace K := K.trans (b17.mono K.size)
    clear b17 N1 N3
    obtain ⟨n0, n1⟩ := C2p
    go_wp2_with fail
    clear n0 n1
    refine (heldNet_any _ W5.heap.size _ _ qs.length ts.length _ _ 1 hl1' hl2' (by omega) M1 M2).mono ?_; rintro e w18 ⟨rfl, b18⟩
    replace K := K.trans (b18.mono K.size)
    clear b18
    go_wp2
    go_ret
    exact ⟨rfl, K⟩

/-! ### The row's step. -/
set_option maxRecDepth 100000 in
theorem lifted (os : Os) (started : os.Started) (H : Type) (enc : TypeId × Value → H) :
    ReturnsInHanded {} Try.checked os 8 .any (Rows.fnExactTurnedSpec.pre6 enc Try.prog Try.f8 Rows.fnExactTurnedRow.domain false) (Rows.fnExactTurnedSpec.post enc Try.prog Try.f8 false true false false) := by
  refine returnsInHanded_of_change (C := Try.checked) own started (by kernel_rfl) Try.func8
    (ChangeSpec.witness6 (enc := enc) (C := Try.checked) false ⟨#[], #[.agg #[.slice none 0 0, .slice none 0 0]], []⟩ 8 (by kernel_rfl) (by kernel_rfl) (by kernel_rfl) (by kernel_rfl)) ?_
  intro W base args ds gs before hval0 hW hcnd _
  have hval : ∀ (j : Nat) t v, Try.f8.params[j]? = some t → args[j]? = some v → Value.okWide Try.prog W .any base t v := hval0
  have hW' := hW
  obtain ⟨p, q, hA0, hV, rfl, hfz, hnd⟩ := hW
  have hA : DataW.TrodAll enc Try.prog W 0 (fun _ => true) true Try.f8.params.toList args.toList ds p := hA0
  rw [Try.params8] at hA hval
  obtain ⟨v0, vs0, d0, ds0, p0, q0, hargs, rfl, rfl, h0, r0⟩ := trodAll_cons hA
  obtain ⟨rfl, rfl, rfl⟩ := trodAll_nil r0
  obtain rfl : args = #[v0] := by cases args; simp_all
  obtain ⟨rfl, rfl⟩ := trodVars_none hV
  have k0 := h0
  have lt0 : ∀ x ∈ p0, x.block < W.heap.size := by obtain ⟨m, hm⟩ := k0; exact DataW.trod_lt m _ _ _ hm
  obtain ⟨A0, B0, ca0, cb0, ps0, rs0, rfl, w0⟩ := opens_net (hval 0 41 v0 rfl rfl) h0
  clear hA0 hval0
  refine (walk A0 B0 ca0 cb0 ps0 rs0 W w0).mono fun e W' ⟨he, bel⟩ => ?_
  subst he
  exact ⟨_, rfl, _, _, _, [], _, [], hW', trodAll_mk1 (shut_bool Try.underlying4 _), (trodAll_cons_mk (Below.trod laidOut (by kernel_rfl) (of_decide_eq_true (by kernel_rfl)) k0 bel lt0) trodAll_mk0), rfl, bel.frame _, fun h => by cases h⟩

theorem over : Rows.fnExactTurnedRow.holds Try.pinned (OpenSpec.ofChange Rows.fnExactTurnedSpec) :=
  OpenClaim.holds_of_wide 8 Try.f8 rfl rfl rfl rfl rfl rfl rfl ⟨rfl, rfl, rfl, rfl, rfl⟩ rfl rfl rfl rfl rfl (by kernel_rfl) Try.func8 (by kernel_rfl)
    (of_decide_eq_true (by kernel_rfl)) (by unfold Func.isWrapper; first | (rw [if_pos (by decide +kernel)]; kernel_rfl) | (rw [if_neg (by decide +kernel)]; exact ⟨rfl, rfl⟩))
    (fun os started H enc _ => lifted os started H enc)

/-- ████ THE STATEMENT ████ -/
theorem proved : Rows.FnExactTurnedSaid := over
#print axioms proved
end Go.Proofs.Ytahpjpchphbgiaa.fnExactTurned
