/-
  For every slice of items the law FnExactQueuePop returns true: the program's QueuePop answers as the specification's, in memory of its own, and does not change its argument (no condition).
-/
import Derived.Test.YtdobiapnkdgjoaaRows
import Derived.WalkKit
import Derived.ProofKit
import Derived.OpenShut
import Derived.ShutString
import Derived.ChangeOld
import Derived.Below
import Derived.Test.YtdobiapnkdgjoaaItemsOpen
import Derived.Test.YtdobiapnkdgjoaaQueuePop
namespace Go.Proofs.Ytdobiapnkdgjoaa.fnExactQueuePop
open Go.ChangeShapes Go.WideShapes Go.ChangeAt Go.RowKit
open Go.ChangeMaps (open_string shut_string)
set_option linter.unusedVariables false

theorem own : ownKnob Try.prog.godebug = none := by kernel_rfl
theorem laidOut : laidOutB Try.prog = true := by kernel_rfl

theorem own_items {w : World} {base : Nat} {A : Option Addr} {ps : List (Int × Int)} (h : OwnSl w base 45 A (ps.length * 2) (flatP ps)) : IsPts w A ps := fun hp => by
  obtain ⟨g, off, rfl, -, ho⟩ := h (by omega)
  exact ⟨g, off, rfl, ho.lt, fun i hi => ⟨by have := ho.cell (i := i * 2) (by omega); rw [flatP_0] at this; exact this, by have := ho.cell (i := i * 2 + 1) (by omega); rw [flatP_1] at this; exact this⟩⟩
theorem row_items {w : World} {b : Nat} {ps : List (Int × Int)} (h : OwnAt w b 45 0 (ps.length * 2) (flatP ps)) : IsPts w (some ⟨b, 0, none⟩) ps := own_items (base := b) fun _ => ⟨b, 0, rfl, Nat.le_refl _, h⟩
theorem blk_is {b off N g : Nat} (h : blk (some ⟨b, off, none⟩) N = some g) : g = b := by
  unfold blk at h; split at h
  · simpa using h.symm
  · cases h

/-! ### The walk. -/
set_option maxHeartbeats 4000000 in
set_option maxRecDepth 100000 in
theorem walk (A0 : Option Addr) (ca0 : Nat) (ps0 : List (Int × Int)) (w : World) (w0 : ItemsIn w A0 ca0 ps0) :
    Calls Try.prog 10 #[.slice A0 ps0.length ca0] w fun e w' => e = .returned (.bool true) ∧ Below w.heap.size w w' := by
  obtain ⟨⟨hc0, hc1⟩, hI, hw⟩ := w0
  by_cases hbig : 1048576 < ps0.length
  · have H := Lib.hid (szn_no (l := 1048576) (n := ps0.length) (by omega))
    have HZ := Lib.hid (szItemS_any A0 ps0.length ca0 1048576 (by omega) (by omega) (by omega) w)
    rw [H.out] at HZ
    go_enter Try.func10, Try.ntmps10
    go_wp2_with fail
    refine HZ.out.mono ?_; rintro e w' ⟨rfl, rfl⟩
    go_wp2
    go_ret
    exact ⟨rfl, Below.refl _ _⟩
  have hn : ps0.length ≤ 2097152 := by omega
  have hn' : ps0.length ≤ 1048576 := by omega
  have hid : ∀ i, i < ps0.length → In64 (idg ps0 i) := fun i hi => (hw _ (show ptg ps0 i ∈ ps0 by unfold ptg; rw [List.getD_eq_getElem?_getD, List.getElem?_eq_getElem hi]; exact List.getElem_mem hi)).2
  have hlen : (popR ps0).length ≤ 2097152 := Nat.le_trans (popR_len ps0) hn
  have HS := Lib.hid (fun A W h => specQueuePop_any A ps0.length ps0 W hn' (Nat.le_refl _) h hid)
  have HI := Lib.hid (fun A W h => implQueuePop_any A ps0.length ps0 W hn' (Nat.le_refl _) h hid)
  unfold PopMade at HS HI
  generalize popR ps0 = zs at hlen HS HI
  generalize popB ps0 = b at HS HI
  obtain ⟨x, hx⟩ : ∃ x, x = (popH ps0).1 := ⟨_, rfl⟩
  obtain ⟨y, hy⟩ : ∃ y, y = (popH ps0).2 := ⟨_, rfl⟩
  rw [← hx, ← hy] at HS HI
  have H := Lib.hid (szn_yes (l := 1048576) (n := ps0.length) (by omega))
  have HZ := Lib.hid (szItemS_any A0 ps0.length ca0 1048576 (by omega) (by omega) (by omega) w)
  rw [H.out] at HZ
  have hz : ¬ ((1048576 : Int) - ps0.length < 0) := by omega
  clear hw hid H hx hy
  go_enter Try.func10, Try.ntmps10
  go_wp2_with fail
  refine HZ.out.mono ?_; rintro e w' ⟨rfl, rfl⟩
  clear HZ
  have K := Below.refl w.heap.size w
  go_wp2_with fail
  refine (toItemS_any A0 ca0 ps0 _ hn (hI.below K)).mono ?_; rintro e w1 ⟨rfl, r1, b1⟩; have I1 := ItsRow.is r1; clear r1
  replace K := K.trans (b1.mono K.size)
  clear b1
  go_wp2_with fail
  refine (HS.out _ _ I1).mono ?_; rintro e w2 ⟨A1, c1, rfl, -, O1, b2⟩
  replace K := K.trans (b2.mono K.size)
  clear b2 I1
  have HO1 := Lib.hid (show ∀ g, blk A1 (zs.length * 2) = some g → g < w2.heap.size from fun g e => (blk_own O1 e).2)
  have P1 := Pair.new w2 45 (.int .i64 x) (.int .i64 y)
  have b3 := below1 w2 (.cells #[.int .i64 x, .int .i64 y] 45)
  replace O1 := O1.below b3
  replace K := K.trans (b3.mono K.size)
  clear b3
  obtain ⟨W3, hW3⟩ : ∃ W3, W3 = w2.alloc (.cells #[.int .i64 x, .int .i64 y] 45) := ⟨_, rfl⟩
  rw [← hW3] at K P1 O1
  have HW3 := Lib.hid hW3
  clear hW3
  have hP1 := P1.lt
  have hw3 : w.heap.size ≤ W3.heap.size := K.size
  go_wp2_with fail
  rw [← HW3.out]
  clear HW3
  refine (toItemS_any A0 ca0 ps0 _ hn (hI.below K)).mono ?_; rintro e w4 ⟨rfl, r4, b4⟩
  replace O1 := O1.below b4
  replace P1 := P1.below b4
  have X := ItsRow.own r4
  have hX := X.lt
  replace K := K.trans (b4.mono K.size)
  clear b4 r4
  go_wp2_with fail
  refine (HI.out _ _ (row_items X)).mono ?_; rintro e w5 ⟨A2, c2, rfl, -, O2, b5⟩
  replace O1 := O1.below b5
  replace P1 := P1.below b5
  replace X := X.below b5
  have hs5 : w4.heap.size ≤ w5.heap.size := b5.size
  replace K := K.trans (b5.mono K.size)
  clear b5
  have HO2 := Lib.hid (show ∀ g, blk A2 (zs.length * 2) = some g → w4.heap.size ≤ g ∧ g < w5.heap.size from fun g e => blk_own O2 e)
  have P2 := Pair.new w5 45 (.int .i64 x) (.int .i64 y)
  have b6 := below1 w5 (.cells #[.int .i64 x, .int .i64 y] 45)
  replace O1 := O1.below b6
  replace P1 := P1.below b6
  replace X := X.below b6
  replace O2 := O2.below b6
  replace K := K.trans (b6.mono K.size)
  clear b6
  obtain ⟨W6, hW6⟩ : ∃ W6, W6 = w5.alloc (.cells #[.int .i64 x, .int .i64 y] 45) := ⟨_, rfl⟩
  rw [← hW6] at K P2 O1 P1 X O2
  have HW6 := Lib.hid hW6
  clear hW6
  obtain ⟨p0, p1, -, -⟩ := P1.cells
  obtain ⟨p2, p3, -, -⟩ := P2.cells
  rw [HW6.out] at p0 p1 p2 p3
  go_wp2_with fail
  rw [← HW6.out]
  clear HW6
  clear p0 p1 p2 p3
  refine (eqItem_same x y _).mono ?_; rintro e w7 ⟨rfl, b7⟩
  replace O1 := O1.below b7
  replace P1 := P1.below b7
  replace X := X.below b7
  replace O2 := O2.below b7
  replace P2 := P2.below b7
  replace K := K.trans (b7.mono K.size)
  clear b7
  go_wp2_with fail
  refine (eqItemS_same A2 A1 c2 c1 zs _ hlen (own_items O2) (own_items O1)).mono ?_; rintro e w8 ⟨rfl, b8⟩
  replace O1 := O1.below b8
  replace P1 := P1.below b8
  replace X := X.below b8
  replace O2 := O2.below b8
  replace P2 := P2.below b8
  replace K := K.trans (b8.mono K.size)
  clear b8
  go_wp2_with fail
  refine (toItemS_any A0 ca0 ps0 _ hn (hI.below K)).mono ?_; rintro e w9 ⟨rfl, r9, b9⟩; have I9 := ItsRow.is r9; clear r9
  replace O1 := O1.below b9
  replace P1 := P1.below b9
  replace X := X.below b9
  replace O2 := O2.below b9
  replace P2 := P2.below b9
  replace K := K.trans (b9.mono K.size)
  clear b9
  go_wp2_with fail
  refine (eqItemS_same _ _ _ _ ps0 _ hn (row_items X) I9).mono ?_; rintro e w10 ⟨rfl, b10⟩; clear I9
  replace O1 := O1.below b10
  replace P1 := P1.below b10
  replace X := X.below b10
  replace O2 := O2.below b10
  replace P2 := P2.below b10
  replace K := K.trans (b10.mono K.size)
  clear b10
  have M1 : OwnSl w10 W3.heap.size 45 (some ⟨W3.heap.size, 0, none⟩) (ps0.length * 2) (flatP ps0) := fun _ => ⟨W3.heap.size, 0, rfl, Nat.le_refl _, X⟩
  have hk1 : ¬ ((1 : Int) + ((ps0.length * 2 : Nat) : Int) < 0) := by omega
  go_wp2_with fail
  refine (markItemS_any _ W3.heap.size _ _ _ _ 1 hn (by omega) M1).mono ?_; rintro e w11 ⟨rfl, -, g11, -⟩
  replace O1 := O1.of_block (fun g e hg => g11.block g hg (fun e' => by have := blk_is e'.symm; have := HO1.out g e; omega))
  replace O2 := O2.of_block (fun g e hg => g11.block g hg (fun e' => by have := blk_is e'.symm; have := HO2.out g e; omega))
  replace P1 := P1.grown' g11 (fun g e => by have := blk_is e; omega)
  replace P2 := P2.grown' g11 (fun g e => by have := blk_is e; omega)
  replace K : Below w.heap.size w w11 := K.trans ⟨g11.os, g11.tape, g11.output, g11.size, fun q hq => g11.block q (by have := K.size; omega) (fun e' => by have := blk_is e'.symm; omega)⟩
  clear g11 M1 X
  obtain ⟨p0, p1, -, -⟩ := P1.cells
  obtain ⟨p2, p3, -, -⟩ := P2.cells
  go_wp2_with fail
  clear p0 p1 p2 p3
  refine (eqItem_same x y _).mono ?_; rintro e w12 ⟨rfl, b12⟩
  replace O1 := O1.below b12
  replace P1 := P1.below b12
  replace O2 := O2.below b12
  replace P2 := P2.below b12
  replace K := K.trans (b12.mono K.size)
  clear b12
  go_wp2_with fail
  refine (eqItemS_same A2 A1 c2 c1 zs _ hlen (own_items O2) (own_items O1)).mono ?_; rintro e w13 ⟨rfl, b13⟩
  replace O1 := O1.below b13
  replace P1 := P1.below b13
  replace O2 := O2.below b13
  replace P2 := P2.below b13
  replace K := K.trans (b13.mono K.size)
  clear b13
  have hq2 : ¬ ((1 : Int) + ((zs.length * 2 : Nat) : Int) < 0) := by omega
  go_wp2_with fail
  refine (markItemS_any _ w4.heap.size A2 _ _ _ 1 hlen (by omega) O2).mono ?_; rintro e w14 ⟨rfl, O3, g14, -⟩
  replace O1 := O1.of_block (fun g e hg => g14.block g hg (fun e' => by have := HO2.out g e'.symm; have := HO1.out g e; omega))
  replace P1 := P1.grown' g14 (fun g e => by have := HO2.out g e; omega)
  replace K : Below w.heap.size w w14 := K.trans ⟨g14.os, g14.tape, g14.output, g14.size, fun q hq => g14.block q (by have := K.size; omega) (fun e' => by have := HO2.out q e'.symm; omega)⟩
  clear g14 O2 P2
  go_wp2_with fail
  refine (heldItemS_any _ w4.heap.size A2 _ _ 1 hlen (by omega) O3).mono ?_; rintro e w' ⟨rfl, rfl⟩
  go_wp2_with fail
  refine (toItemS_any A0 ca0 ps0 _ hn (hI.below K)).mono ?_; rintro e w15 ⟨rfl, r15, b15⟩; have I15 := ItsRow.is r15; clear r15
  replace O1 := O1.below b15
  replace P1 := P1.below b15
  replace O3 := O3.below b15
  replace K := K.trans (b15.mono K.size)
  clear b15
  go_wp2_with fail
  refine (HI.out _ _ I15).mono ?_; rintro e w16 ⟨A3, c3, rfl, -, O4, b16⟩
  replace O1 := O1.below b16
  replace P1 := P1.below b16
  replace O3 := O3.below b16
  replace K := K.trans (b16.mono K.size)
  clear b16 I15
  have P3 := Pair.new w16 45 (.int .i64 x) (.int .i64 y)
  have b17 := below1 w16 (.cells #[.int .i64 x, .int .i64 y] 45)
  replace O1 := O1.below b17
  replace P1 := P1.below b17
  replace O3 := O3.below b17
  replace O4 := O4.below b17
  replace K := K.trans (b17.mono K.size)
  clear b17
  obtain ⟨W17, hW17⟩ : ∃ W17, W17 = w16.alloc (.cells #[.int .i64 x, .int .i64 y] 45) := ⟨_, rfl⟩
  rw [← hW17] at K P3 O1 P1 O3 O4
  have HW17 := Lib.hid hW17
  clear hW17
  obtain ⟨p0, p1, -, -⟩ := P1.cells
  obtain ⟨p2, p3, -, -⟩ := P3.cells
  rw [HW17.out] at p0 p1 p2 p3
  go_wp2_with fail
  rw [← HW17.out]
  clear HW17
  clear p0 p1 p2 p3
  refine (eqItem_same x y _).mono ?_; rintro e w18 ⟨rfl, b18⟩
  replace O1 := O1.below b18
  replace P1 := P1.below b18
  replace O3 := O3.below b18
  replace O4 := O4.below b18
  replace P3 := P3.below b18
  replace K := K.trans (b18.mono K.size)
  clear b18
  go_wp2_with fail
  refine (eqItemS_same A3 A1 c3 c1 zs _ hlen (own_items O4) (own_items O1)).mono ?_; rintro e w19 ⟨rfl, b19⟩
  replace O1 := O1.below b19
  replace P1 := P1.below b19
  replace O3 := O3.below b19
  replace O4 := O4.below b19
  replace P3 := P3.below b19
  replace K := K.trans (b19.mono K.size)
  clear b19
  go_wp2_with fail
  refine (heldItemS_any _ w4.heap.size A2 _ _ 1 hlen (by omega) O3).mono ?_; rintro e w' ⟨rfl, rfl⟩
  go_wp2
  go_ret
  exact ⟨rfl, K⟩

/-! ### The row's step. -/
set_option maxRecDepth 100000 in
theorem lifted (os : Os) (started : os.Started) (H : Type) (enc : TypeId × Value → H) :
    ReturnsInHanded {} Try.checked os 10 .any (Rows.fnExactQueuePopSpec.pre6 enc Try.prog Try.f10 Rows.fnExactQueuePopRow.domain false) (Rows.fnExactQueuePopSpec.post enc Try.prog Try.f10 false true false false) := by
  refine returnsInHanded_of_change (C := Try.checked) own started (by kernel_rfl) Try.func10
    (ChangeSpec.witness6 (enc := enc) (C := Try.checked) false ⟨#[], #[.slice none 0 0], []⟩ 8 (by kernel_rfl) (by kernel_rfl) (by kernel_rfl) (by kernel_rfl)) ?_
  intro W base args ds gs before hval0 hW hcnd _
  have hval : ∀ (j : Nat) t v, Try.f10.params[j]? = some t → args[j]? = some v → Value.okWide Try.prog W .any base t v := hval0
  have hW' := hW
  obtain ⟨p, q, hA0, hV, rfl, hfz, hnd⟩ := hW
  have hA : DataW.TrodAll enc Try.prog W 0 (fun _ => true) true Try.f10.params.toList args.toList ds p := hA0
  rw [Try.params10] at hA hval
  obtain ⟨v0, vs0, d0, ds0, p0, q0, hargs, rfl, rfl, h0, r0⟩ := trodAll_cons hA
  obtain ⟨rfl, rfl, rfl⟩ := trodAll_nil r0
  obtain rfl : args = #[v0] := by cases args; simp_all
  obtain ⟨rfl, rfl⟩ := trodVars_none hV
  have k0 := h0
  have lt0 : ∀ x ∈ p0, x.block < W.heap.size := by obtain ⟨m, hm⟩ := k0; exact DataW.trod_lt m _ _ _ hm
  obtain ⟨A0, ca0, ps0, rfl, w0⟩ := opens_items (hval 0 60 v0 rfl rfl) h0
  clear hA0 hval0
  refine (walk A0 ca0 ps0 W w0).mono fun e W' ⟨he, bel⟩ => ?_
  subst he
  exact ⟨_, rfl, _, _, _, [], _, [], hW', trodAll_mk1 (shut_bool Try.underlying4 _), (trodAll_cons_mk (Below.trod laidOut (by kernel_rfl) (of_decide_eq_true (by kernel_rfl)) k0 bel lt0) trodAll_mk0), rfl, bel.frame _, fun h => by cases h⟩

theorem over : Rows.fnExactQueuePopRow.holds Try.pinned (OpenSpec.ofChange Rows.fnExactQueuePopSpec) :=
  OpenClaim.holds_of_wide 10 Try.f10 rfl rfl rfl rfl rfl rfl rfl ⟨rfl, rfl, rfl, rfl, rfl⟩ rfl rfl rfl rfl rfl (by kernel_rfl) Try.func10 (by kernel_rfl)
    (of_decide_eq_true (by kernel_rfl)) (by unfold Func.isWrapper; first | (rw [if_pos (by decide +kernel)]; kernel_rfl) | (rw [if_neg (by decide +kernel)]; exact ⟨rfl, rfl⟩))
    (fun os started H enc _ => lifted os started H enc)

/-- ████ THE STATEMENT ████ -/
theorem proved : Rows.FnExactQueuePopSaid := over
#print axioms proved
end Go.Proofs.Ytdobiapnkdgjoaa.fnExactQueuePop
