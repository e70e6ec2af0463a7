/-
  For every slice of items and every item the law FnExactQueuePut returns true: the program's QueuePut answers as the specification's, in memory of its own, and does not change its argument (no condition).
-/
import Derived.Test.YtdobiapnkdgjoaaRows
import Derived.WalkKit
import Derived.ProofKit
import Derived.OpenShut
import Derived.ShutString
import Derived.ChangeOld
import Derived.Below
import Derived.Test.YtdobiapnkdgjoaaItemsOpen
import Derived.Test.YtdobiapnkdgjoaaPutIm
namespace Go.Proofs.Ytdobiapnkdgjoaa.fnExactQueuePut
open Go.ChangeShapes Go.WideShapes Go.ChangeAt Go.RowKit
open Go.ChangeMaps (open_string shut_string)
set_option linter.unusedVariables false

theorem own : ownKnob Try.prog.godebug = none := by kernel_rfl
theorem laidOut : laidOutB Try.prog = true := by kernel_rfl

theorem own_items {w : World} {base : Nat} {A : Option Addr} {ps : List (Int × Int)} (h : OwnSl w base 45 A (ps.length * 2) (flatP ps)) : IsPts w A ps := fun hp => by
  obtain ⟨g, off, rfl, -, ho⟩ := h (by omega)
  exact ⟨g, off, rfl, ho.lt, fun i hi => ⟨by have := ho.cell (i := i * 2) (by omega); rw [flatP_0] at this; exact this, by have := ho.cell (i := i * 2 + 1) (by omega); rw [flatP_1] at this; exact this⟩⟩
theorem row_items {w : World} {b : Nat} {ps : List (Int × Int)} (h : OwnAt w b 45 0 (ps.length * 2) (flatP ps)) : IsPts w (some ⟨b, 0, none⟩) ps := own_items (base := b) fun _ => ⟨b, 0, rfl, Nat.le_refl _, h⟩
theorem blk_is {b off N g : Nat} (h : blk (some ⟨b, off, none⟩) N = some g) : g = b := by
  unfold blk at h; split at h
  · simpa using h.symm
  · cases h
/-- The item that was handed over, in its box. -/
abbrev LQ (w : World) (x y : Int) (w' : World) : Prop := w'.cell? ⟨w.heap.size, 0, none⟩ = some (.int .i64 x) ∧ w'.cell? ⟨w.heap.size, 1, none⟩ = some (.int .i64 y) ∧ Pair w' w.heap.size 65 (.int .i64 x) (.int .i64 y) ∧ Below w.heap.size w w'
theorem LQ.under {w w1 w2 : World} {x y : Int} (hb : Below w1.heap.size w1 w2) (h : LQ w x y w1) : LQ w x y w2 := ⟨cell_under hb h.1, cell_under hb h.2.1, h.2.2.1.below hb, h.2.2.2.trans (hb.mono h.2.2.2.size)⟩
theorem LQ.drew {w w1 : World} {x y : Int} (h : LQ w x y w1) : LQ w x y w1.drew := ⟨h.1, h.2.1, h.2.2.1, h.2.2.2.drew⟩
theorem LQ.bel {w w1 : World} {x y : Int} (h : LQ w x y w1) : Below w.heap.size w w1 := h.2.2.2
/-- .. and two answers beside. -/
abbrev LQ3 (w : World) (x y : Int) (B1 : Nat) (A1 : Option Addr) (f1 : Nat → Int) (B3 : Nat) (A3 : Option Addr) (f3 : Nat → Int) (n : Nat) (w' : World) : Prop := LQ w x y w' ∧ OwnSl w' B1 45 A1 n f1 ∧ OwnSl w' B3 45 A3 n f3
section
variable {w w1 w2 : World} {x y : Int} {B1 : Nat} {A1 : Option Addr} {f1 : Nat → Int} {B3 : Nat} {A3 : Option Addr} {f3 : Nat → Int} {n : Nat}
theorem LQ3.under (hb : Below w1.heap.size w1 w2) (h : LQ3 w x y B1 A1 f1 B3 A3 f3 n w1) : LQ3 w x y B1 A1 f1 B3 A3 f3 n w2 := ⟨LQ.under hb h.1, h.2.1.below hb, h.2.2.below hb⟩
theorem LQ3.drew (h : LQ3 w x y B1 A1 f1 B3 A3 f3 n w1) : LQ3 w x y B1 A1 f1 B3 A3 f3 n w1.drew := ⟨LQ.drew h.1, h.2.1.below (Below.refl _ _).drew, h.2.2.below (Below.refl _ _).drew⟩
theorem LQ3.bel (h : LQ3 w x y B1 A1 f1 B3 A3 f3 n w1) : Below w.heap.size w w1 := LQ.bel h.1
end

/-! ### The walk. -/
set_option maxHeartbeats 8000000 in
set_option maxRecDepth 100000 in
theorem walk (A0 : Option Addr) (ca0 : Nat) (ps0 : List (Int × Int)) (x1 y1 : Int) (w : World) (w0 : ItemsIn w A0 ca0 ps0) (w1 : In64 x1 ∧ In64 y1) :
    Calls Try.prog 9 #[.slice A0 ps0.length ca0, .agg #[.int .i64 x1, .int .i64 y1]] w fun e w' => e = .returned (.bool true) ∧ Below w.heap.size w w' := by
  obtain ⟨⟨hc0, hc1⟩, hI, hw⟩ := w0
  have P := Pair.new w 65 (.int .i64 x1) (.int .i64 y1)
  have K := below1 w (.cells #[.int .i64 x1, .int .i64 y1] 65)
  by_cases hbig : 1048576 < ps0.length
  · have H := Lib.hid (szn_no (l := 1048576) (n := ps0.length) (by omega))
    have HZ := Lib.hid (szItemS_any A0 ps0.length ca0 1048576 (by omega) (by omega) (by omega) (w.alloc (.cells #[.int .i64 x1, .int .i64 y1] 65)))
    rw [H.out] at HZ
    go_enter Try.func9, Try.ntmps9
    go_wp2_with fail
    refine HZ.out.mono ?_; rintro e w' ⟨rfl, rfl⟩
    go_wp2
    go_ret
    exact ⟨rfl, K⟩
  have hn : ps0.length ≤ 2097152 := by omega
  have hn' : ps0.length ≤ 1048576 := by omega
  have hid : ∀ i, i < ps0.length → In64 (idg ps0 i) := fun i hi => (hw _ (show ptg ps0 i ∈ ps0 by unfold ptg; rw [List.getD_eq_getElem?_getD, List.getElem?_eq_getElem hi]; exact List.getElem_mem hi)).2
  have hlen : (putR ps0 (x1, y1)).length ≤ 2097152 := by
    unfold putR; split
    · have := putL_len (q := ps0) (x := (x1, y1)); omega
    · simp
  have HS := Lib.hid (fun A W h => specQueuePut_any A ps0.length ps0 x1 y1 W hn' h)
  have HI := Lib.hid (fun A W h => implQueuePut_any A ps0.length ps0 x1 y1 W hn' h hid w1.2)
  unfold PutRes at HS HI
  generalize putR ps0 (x1, y1) = zs at hlen HS HI
  generalize qB ps0 = b at HS HI
  have H := Lib.hid (szn_yes (l := 1048576) (n := ps0.length) (by omega))
  have HZ := Lib.hid (szItemS_any A0 ps0.length ca0 1048576 (by omega) (by omega) (by omega) (w.alloc (.cells #[.int .i64 x1, .int .i64 y1] 65)))
  rw [H.out] at HZ
  have hz : ¬ ((1048576 : Int) - ps0.length < 0) := by omega
  clear hw hid H w1
  go_enter Try.func9, Try.ntmps9
  go_wp2_with fail
  refine HZ.out.mono ?_; rintro e w' ⟨rfl, rfl⟩
  clear HZ
  have T : LQ w x1 y1 _ := ⟨P.cells.1, P.cells.2.1, P, K⟩
  clear P K
  obtain ⟨W0, hW0⟩ : ∃ W0, W0 = w.alloc (.cells #[.int .i64 x1, .int .i64 y1] 65) := ⟨_, rfl⟩
  rw [← hW0] at T
  have HW0 := Lib.hid hW0
  clear hW0
  go_wp2_with fail
  rw [← HW0.out]
  clear HW0
  go_region_held3 (fun w' => LQ w x1 y1 w')
    (first | exact LQ.drew T | (refine LQ.under (by assumption) ?_; assumption))
    (first
      | (go_at_call 43; refine (toItemS_any A0 ca0 ps0 _ hn (hI.below (LQ.bel (by assumption)))).mono ?_; rintro e wa ⟨rfl, r1, b1⟩; have I1 := ItsRow.is r1; clear r1)
      | (go_at_call 45; refine (toItem_any x1 y1 _).mono ?_; rintro e wb ⟨rfl, b2⟩)
      | (go_at_call 32; refine (HS.out _ _ (by first | exact I1 | exact I1.below b2)).mono ?_; rintro e w3 ⟨A1, c1, rfl, -, O1, b3⟩))
  all_goals
    rename_i hU
    have P := hU.2.2.1
    have K := hU.2.2.2
    have HO1 := Lib.hid (show ∀ g, blk A1 (zs.length * 2) = some g → g < w3.heap.size from fun g e => (blk_own O1 e).2)
    have hP3 := P.lt
    have hw3 := K.size
    clear hU T b3 I1 b1 b2
    go_wp2_with fail
    refine (toItemS_any A0 ca0 ps0 _ hn (hI.below K)).mono ?_; rintro e w4 ⟨rfl, r4, b4⟩
    have X := ItsRow.own r4
    have hX := X.lt
    replace P := P.below b4
    replace O1 := O1.below b4
    replace K := K.trans (b4.mono K.size)
    clear b4
    clear r4
    obtain ⟨p0, p1, -, -⟩ := P.cells
    go_wp2_with fail
    clear p0 p1
    refine (toItem_any x1 y1 _).mono ?_; rintro e w5 ⟨rfl, b5⟩
    have hs5 : w4.heap.size ≤ w5.heap.size := b5.size
    replace P := P.below b5
    replace O1 := O1.below b5
    replace X := X.below b5
    replace K := K.trans (b5.mono K.size)
    clear b5
    go_wp2_with fail
    refine (HI.out _ _ (row_items X)).mono ?_; rintro e w6 ⟨A2, c2, rfl, -, O2, b6⟩
    replace P := P.below b6
    replace O1 := O1.below b6
    replace X := X.below b6
    replace K := K.trans (b6.mono K.size)
    clear b6
    have HO2 := Lib.hid (show ∀ g, blk A2 (zs.length * 2) = some g → w5.heap.size ≤ g ∧ g < w6.heap.size from fun g e => blk_own O2 e)
    go_wp2_with fail
    refine (eqItemS_same A2 A1 c2 c1 zs _ hlen (own_items O2) (own_items O1)).mono ?_; rintro e w7 ⟨rfl, b7⟩
    replace P := P.below b7
    replace O1 := O1.below b7
    replace X := X.below b7
    replace O2 := O2.below b7
    replace K := K.trans (b7.mono K.size)
    clear b7
    go_wp2_with fail
    refine (toItemS_any A0 ca0 ps0 _ hn (hI.below K)).mono ?_; rintro e w8 ⟨rfl, r8, b8⟩; have I8 := ItsRow.is r8; clear r8
    replace P := P.below b8
    replace O1 := O1.below b8
    replace X := X.below b8
    replace O2 := O2.below b8
    replace K := K.trans (b8.mono K.size)
    clear b8
    go_wp2_with fail
    refine (eqItemS_same _ _ _ _ ps0 _ hn (row_items X) I8).mono ?_; rintro e w9 ⟨rfl, b9⟩; clear I8
    replace P := P.below b9
    replace O1 := O1.below b9
    replace X := X.below b9
    replace O2 := O2.below b9
    replace K := K.trans (b9.mono K.size)
    clear b9
    have M1 : OwnSl w9 w3.heap.size 45 (some ⟨w3.heap.size, 0, none⟩) (ps0.length * 2) (flatP ps0) := fun _ => ⟨w3.heap.size, 0, rfl, Nat.le_refl _, X⟩
    have hk1 : ¬ ((1 : Int) + ((ps0.length * 2 : Nat) : Int) < 0) := by omega
    go_wp2_with fail
    refine (markItemS_any _ w3.heap.size _ _ _ _ 1 hn (by omega) M1).mono ?_; rintro e w10 ⟨rfl, -, g10, -⟩
    replace O1 := O1.of_block (fun g e hg => g10.block g hg (fun e' => by have := blk_is e'.symm; have := HO1.out g e; omega))
    replace O2 := O2.of_block (fun g e hg => g10.block g hg (fun e' => by have := blk_is e'.symm; have := HO2.out g e; omega))
    replace P := P.grown' g10 (fun g e => by have := blk_is e; omega)
    replace K : Below w.heap.size w w10 := K.trans ⟨g10.os, g10.tape, g10.output, g10.size, fun q hq => g10.block q (by have := K.size; omega) (fun e' => by have := blk_is e'.symm; omega)⟩
    clear g10 M1 X
    go_wp2_with fail
    refine (eqItemS_same A2 A1 c2 c1 zs _ hlen (own_items O2) (own_items O1)).mono ?_; rintro e w11 ⟨rfl, b11⟩
    replace P := P.below b11
    replace O1 := O1.below b11
    replace O2 := O2.below b11
    replace K := K.trans (b11.mono K.size)
    clear b11
    have hq2 : ¬ ((1 : Int) + ((zs.length * 2 : Nat) : Int) < 0) := by omega
    go_wp2_with fail
    refine (markItemS_any _ w5.heap.size A2 _ _ _ 1 hlen (by omega) O2).mono ?_; rintro e w12 ⟨rfl, O3, g12, -⟩
    replace O1 := O1.of_block (fun g e hg => g12.block g hg (fun e' => by have := HO2.out g e'.symm; have := HO1.out g e; omega))
    replace P := P.grown' g12 (fun g e => by have := HO2.out g e; omega)
    replace K : Below w.heap.size w w12 := K.trans ⟨g12.os, g12.tape, g12.output, g12.size, fun q hq => g12.block q (by have := K.size; omega) (fun e' => by have := HO2.out q e'.symm; omega)⟩
    clear g12 O2
    go_wp2_with fail
    refine (heldItemS_any _ w5.heap.size A2 _ _ 1 hlen (by omega) O3).mono ?_; rintro e w' ⟨rfl, rfl⟩
    obtain ⟨B1, O1⟩ : ∃ B, OwnSl w12 B 45 A1 (zs.length * 2) (flatP zs) := ⟨_, O1⟩
    have T : LQ3 w x1 y1 _ A1 _ _ A2 _ (zs.length * 2) w12 := ⟨⟨P.cells.1, P.cells.2.1, P, K⟩, O1, O3⟩
    have HE := Lib.hid T
    clear O1 O3 P K
    go_wp2_with fail
    go_region_held3 (fun w' => LQ3 w x1 y1 B1 A1 (flatP zs) w5.heap.size A2 (fun j => 1 + (j : Int)) (zs.length * 2) w')
      (first | exact LQ3.drew T | (refine LQ3.under (by assumption) ?_; assumption))
      (first
        | (go_at_call 43; refine (toItemS_any A0 ca0 ps0 _ hn (hI.below (LQ3.bel (by assumption)))).mono ?_; rintro e wa ⟨rfl, r1, b1⟩; have I1 := ItsRow.is r1; clear r1)
        | (go_at_call 45; refine (toItem_any x1 y1 _).mono ?_; rintro e wb ⟨rfl, b2⟩)
        | (go_at_call 31; refine (HI.out _ _ (by first | exact I1 | exact I1.below b2)).mono ?_; rintro e w13 ⟨A3, c3, rfl, -, O4, b13⟩))
    all_goals
      rename_i hU
      have K := LQ3.bel hU
      have O1 := hU.2.1
      have O3 := hU.2.2
      clear hU T HE b13 I1 b1 b2
      go_wp2_with fail
      refine (eqItemS_same A3 A1 c3 c1 zs _ hlen (own_items O4) (own_items O1)).mono ?_; rintro e w14 ⟨rfl, b14⟩
      replace O3 := O3.below b14
      replace K := K.trans (b14.mono K.size)
      clear b14
      go_wp2_with fail
      refine (heldItemS_any _ w5.heap.size A2 _ _ 1 hlen (by omega) O3).mono ?_; rintro e w' ⟨rfl, rfl⟩
      go_wp2
      go_ret
      exact ⟨rfl, K⟩

/-! ### The row's step. -/
set_option maxRecDepth 100000 in
theorem lifted (os : Os) (started : os.Started) (H : Type) (enc : TypeId × Value → H) :
    ReturnsInHanded {} Try.checked os 9 .any (Rows.fnExactQueuePutSpec.pre6 enc Try.prog Try.f9 Rows.fnExactQueuePutRow.domain false) (Rows.fnExactQueuePutSpec.post enc Try.prog Try.f9 false true false false) := by
  refine returnsInHanded_of_change (C := Try.checked) own started (by kernel_rfl) Try.func9
    (ChangeSpec.witness6 (enc := enc) (C := Try.checked) false ⟨#[], #[.slice none 0 0, .agg #[.int .i64 0, .int .i64 0]], []⟩ 8 (by kernel_rfl) (by kernel_rfl) (by kernel_rfl) (by kernel_rfl)) ?_
  intro W base args ds gs before hval0 hW hcnd _
  have hval : ∀ (j : Nat) t v, Try.f9.params[j]? = some t → args[j]? = some v → Value.okWide Try.prog W .any base t v := hval0
  have hW' := hW
  obtain ⟨p, q, hA0, hV, rfl, hfz, hnd⟩ := hW
  have hA : DataW.TrodAll enc Try.prog W 0 (fun _ => true) true Try.f9.params.toList args.toList ds p := hA0
  rw [Try.params9] at hA hval
  obtain ⟨v0, vs0, d0, ds0, p0, q0, hargs, rfl, rfl, h0, r0⟩ := trodAll_cons hA
  obtain ⟨v1, vs1, d1, ds1, p1, q1, rfl, rfl, rfl, h1, r1⟩ := trodAll_cons r0
  obtain ⟨rfl, rfl, rfl⟩ := trodAll_nil r1
  obtain rfl : args = #[v0, v1] := by cases args; simp_all
  obtain ⟨rfl, rfl⟩ := trodVars_none hV
  have k0 := h0
  have lt0 : ∀ x ∈ p0, x.block < W.heap.size := by obtain ⟨m, hm⟩ := k0; exact DataW.trod_lt m _ _ _ hm
  obtain ⟨A0, ca0, ps0, rfl, w0⟩ := opens_items (hval 0 60 v0 rfl rfl) h0
  have k1 := h1
  have lt1 : ∀ x ∈ p1, x.block < W.heap.size := by obtain ⟨m, hm⟩ := k1; exact DataW.trod_lt m _ _ _ hm
  obtain ⟨x1, y1, rfl, w1⟩ := opens_item (hval 1 65 v1 rfl rfl) h1
  clear hA0 hval0
  refine (walk A0 ca0 ps0 x1 y1 W w0 w1).mono fun e W' ⟨he, bel⟩ => ?_
  subst he
  exact ⟨_, rfl, _, _, _, [], _, [], hW', trodAll_mk1 (shut_bool Try.underlying4 _), (trodAll_cons_mk (Below.trod laidOut (by kernel_rfl) (of_decide_eq_true (by kernel_rfl)) k0 bel lt0) (trodAll_cons_mk (Below.trod laidOut (by kernel_rfl) (of_decide_eq_true (by kernel_rfl)) k1 bel lt1) trodAll_mk0)), rfl, bel.frame _, fun h => by cases h⟩

theorem over : Rows.fnExactQueuePutRow.holds Try.pinned (OpenSpec.ofChange Rows.fnExactQueuePutSpec) :=
  OpenClaim.holds_of_wide 9 Try.f9 rfl rfl rfl rfl rfl rfl rfl ⟨rfl, rfl, rfl, rfl, rfl⟩ rfl rfl rfl rfl rfl (by kernel_rfl) Try.func9 (by kernel_rfl)
    (of_decide_eq_true (by kernel_rfl)) (by unfold Func.isWrapper; first | (rw [if_pos (by decide +kernel)]; kernel_rfl) | (rw [if_neg (by decide +kernel)]; exact ⟨rfl, rfl⟩))
    (fun os started H enc _ => lifted os started H enc)

/-- ████ THE STATEMENT ████ -/
theorem proved : Rows.FnExactQueuePutSaid := over
#print axioms proved
end Go.Proofs.Ytdobiapnkdgjoaa.fnExactQueuePut
