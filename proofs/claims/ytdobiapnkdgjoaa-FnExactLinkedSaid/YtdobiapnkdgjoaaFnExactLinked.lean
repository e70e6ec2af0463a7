/-
  For every two slices of numbers the law FnExactLinked returns true: the program's Linked answers as the specification's, in memory of its own, and writes into neither of its arguments (no condition).
-/
import Derived.Test.YtdobiapnkdgjoaaRows
import Derived.WalkKit
import Derived.ProofKit
import Derived.OpenShut
import Derived.ShutString
import Derived.ChangeOld
import Derived.Below
import Derived.Test.YtdobiapnkdgjoaaLinked
import Derived.Test.YtdobiapnkdgjoaaWide
namespace Go.Proofs.Ytdobiapnkdgjoaa.fnExactLinked
open Go.ChangeShapes Go.WideShapes Go.ChangeAt Go.RowKit
open Go.ChangeMaps (open_string shut_string)
set_option linter.unusedVariables false

theorem own : ownKnob Try.prog.godebug = none := by kernel_rfl
theorem laidOut : laidOutB Try.prog = true := by kernel_rfl

/-- WHAT THE WALK IS TOLD OF A SLICE OF INTEGERS THAT CAME IN: it is nil; or it leads to a row of 'cap' cells, the numbers 'zs' (the first 'len' are its elements, the rest its spare room), each fitting its kind. -/
def IsRow (k : IntKind) (w : World) (a : Option Addr) (len cap : Nat) (zs : List Int) : Prop :=
  (a = none ∧ len = 0 ∧ cap = 0 ∧ zs = []) ∨
  ∃ x, a = some x ∧ len ≤ cap ∧ cap ≤ maxLen ∧ zs.length = cap ∧ (∀ i, i < zs.length → w.cell? (x.add i) = some (.int k (zs.getD i 0))) ∧ ∀ n ∈ zs, (Lit.int k n).wf = true

theorem row_own {w : World} {b : Nat} {zs : List Int} (h : w.rowIs b 3 zs.length (fun j => .int .i64 (zg zs j))) : OwnAt w b 3 0 zs.length (zg zs) := by
  obtain ⟨c, h1, h2, h3⟩ := h
  exact ⟨c, h1, by omega, fun i hi => by rw [Nat.zero_add]; exact h3 i hi⟩
theorem own_ints {w : World} {b : Nat} {zs : List Int} (h : OwnAt w b 3 0 zs.length (zg zs)) : IsInts w (some ⟨b, 0, none⟩) zs := fun _ => ⟨b, 0, rfl, h.lt, fun i hi => h.cell hi⟩
theorem blk_is {b off N g : Nat} (h : blk (some ⟨b, off, none⟩) N = some g) : g = b := by
  unfold blk at h; split at h
  · simpa using h.symm
  · cases h

/-! ### STEP 1: THE WALK: the Go text returns true, AND WRITES NOTHING THAT WAS THERE: 'Below w.heap.size w w'' (Derived/Below.lean: '.refl', '.alloc', '.drew', '.setCell' at a new block, '.trans'). Open each 'IsRow' by 'rcases' AHEAD of 'go_enter'; part every test ahead of the walk. -/
set_option maxHeartbeats 4000000 in
set_option maxRecDepth 100000 in
theorem walk (a0 : Option Addr) (len0 cap0 : Nat) (z0 : List Int) (a1 : Option Addr) (len1 cap1 : Nat) (z1 : List Int) (w : World) (w0 : IsRow .i64 w a0 len0 cap0 z0) (w1 : IsRow .i64 w a1 len1 cap1 z1) :
    Calls Try.prog 4 #[.slice a0 len0 cap0, .slice a1 len1 cap1] w fun e w' => e = .returned (.bool true) ∧ Below w.heap.size w w' := by
  obtain ⟨xs, rfl, hcx, hi, _⟩ := isInts_of w0
  obtain ⟨ys, rfl, hcy, hj, _⟩ := isInts_of w1
  clear w0 w1
  by_cases hbig : 1048576 < xs.length
  · go_enter Try.func4, Try.ntmps4
    go_wp2
    go_ret
    exact ⟨rfl, Below.refl _ _⟩
  have hn : xs.length ≤ 1048576 := by omega
  by_cases hbig2 : 1048576 < ys.length
  · go_enter Try.func4, Try.ntmps4
    go_wp2
    go_ret
    exact ⟨rfl, Below.refl _ _⟩
  have hm : ys.length ≤ 1048576 := by omega
  have hlen : (lnk xs ys).length ≤ 2097152 := by have := lnk_len xs ys; omega
  have HS := Lib.hid (fun A B W ha hb => specLinked_any A B xs.length ys.length xs ys W hn hm (Nat.le_refl _) (Nat.le_refl _) ha hb)
  have HI := Lib.hid (fun A B W ha hb => implLinked_any A B xs.length ys.length xs ys W hn hm (Nat.le_refl _) (Nat.le_refl _) ha hb)
  generalize lnk xs ys = zs at hlen HS HI
  generalize lnkB xs ys = b at HS HI
  go_enter Try.func4, Try.ntmps4
  go_wp2_with fail
  refine (toIntS_any a0 cap0 xs w hn hi).mono ?_; rintro e w1 ⟨rfl, r1, b1⟩
  have i1 := IsInts.row r1
  have K := b1
  clear r1 b1
  go_wp2_with fail
  refine (toIntS_any a1 cap1 ys w1 hm (hj.below K)).mono ?_; rintro e w2 ⟨rfl, r2, b2⟩
  have i2 := IsInts.row r2
  replace i1 := i1.below b2
  replace K := K.trans (b2.mono K.size)
  clear r2 b2
  go_wp2_with fail
  refine (HS.out _ _ w2 i1 i2).mono ?_; rintro e w3 ⟨A1, c1, rfl, hc1, O1, b3⟩
  have hO1 : ∀ g, blk A1 zs.length = some g → g < w3.heap.size := fun g e => (blk_own O1 e).2
  have HO1 := Lib.hid hO1
  replace K := K.trans (b3.mono K.size)
  have K3 := K.size
  clear i1 i2 b3 hO1
  go_wp2_with fail
  refine (toIntS_any a0 cap0 xs w3 hn (hi.below K)).mono ?_; rintro e w4 ⟨rfl, r4, b4⟩
  have X := row_own r4
  have hX := X.lt
  replace O1 := O1.below b4
  replace K := K.trans (b4.mono K.size)
  clear r4 b4
  go_wp2_with fail
  refine (toIntS_any a1 cap1 ys w4 hm (hj.below K)).mono ?_; rintro e w5 ⟨rfl, r5, b5⟩
  have Y := row_own r5
  have hY := Y.lt
  replace X := X.below b5
  replace O1 := O1.below b5
  replace K := K.trans (b5.mono K.size)
  clear r5 b5
  go_wp2_with fail
  refine (HI.out _ _ w5 (own_ints X) (own_ints Y)).mono ?_; rintro e w6 ⟨A2, c2, rfl, hc2, O2, b6⟩
  have hO2 : ∀ g, blk A2 zs.length = some g → w5.heap.size ≤ g := fun g e => (blk_own O2 e).1
  have HO2 := Lib.hid hO2
  replace X := X.below b6
  replace Y := Y.below b6
  replace O1 := O1.below b6
  replace K := K.trans (b6.mono K.size)
  clear b6 hO2
  go_wp2_with fail
  refine (eqIntS_wideB A2 A1 c2 c1 _ _ hlen O2.ints O1.ints).mono ?_; rintro e w7 ⟨rfl, b7⟩
  replace X := X.below b7
  replace Y := Y.below b7
  replace O1 := O1.below b7
  replace O2 := O2.below b7
  replace K := K.trans (b7.mono K.size)
  clear b7
  go_wp2_with fail
  refine (toIntS_any a0 cap0 xs _ hn (hi.below K)).mono ?_; rintro e w8 ⟨rfl, r8, b8⟩
  have I8 := IsInts.row r8
  replace X := X.below b8
  replace Y := Y.below b8
  replace O1 := O1.below b8
  replace O2 := O2.below b8
  replace K := K.trans (b8.mono K.size)
  clear b8 r8
  go_wp2_with fail
  refine (eqIntS_wideB _ _ _ _ xs _ (by omega) (own_ints X) I8).mono ?_; rintro e w9 ⟨rfl, b9⟩
  replace X := X.below b9
  replace Y := Y.below b9
  replace O1 := O1.below b9
  replace O2 := O2.below b9
  replace K := K.trans (b9.mono K.size)
  clear b9 I8
  go_wp2_with fail
  refine (toIntS_any a1 cap1 ys _ hm (hj.below K)).mono ?_; rintro e w10 ⟨rfl, r10, b10⟩
  have I10 := IsInts.row r10
  replace X := X.below b10
  replace Y := Y.below b10
  replace O1 := O1.below b10
  replace O2 := O2.below b10
  replace K := K.trans (b10.mono K.size)
  clear b10 r10
  go_wp2_with fail
  refine (eqIntS_wideB _ _ _ _ ys _ (by omega) (own_ints Y) I10).mono ?_; rintro e w11 ⟨rfl, b11⟩
  replace X := X.below b11
  replace Y := Y.below b11
  replace O1 := O1.below b11
  replace O2 := O2.below b11
  replace K := K.trans (b11.mono K.size)
  clear b11 I10
  have M1 : OwnSl w11 w3.heap.size 3 (some ⟨w3.heap.size, 0, none⟩) xs.length (zg xs) := fun _ => ⟨w3.heap.size, 0, rfl, Nat.le_refl _, X⟩
  go_wp2_with fail
  refine (markIntS_wide _ w3.heap.size _ _ _ _ 1 (by omega) (by omega) M1).mono ?_; rintro e w12 ⟨rfl, -, g12, z12⟩
  have hYl := Y.lt
  replace O1 := O1.of_block (fun g e hg => g12.block g hg (fun e' => by have := blk_is e'.symm; have := HO1.out g e; omega))
  replace O2 := O2.of_block (fun g e hg => g12.block g hg (fun e' => by have := blk_is e'.symm; have := HO2.out g e; omega))
  replace Y := Y.of_block (g12.block _ hYl (fun e' => by have := blk_is e'.symm; omega))
  have k12 : Below w.heap.size w w12 := K.trans ⟨g12.os, g12.tape, g12.output, g12.size, fun q hq => g12.block q (by have := K.size; omega) (fun e' => by have := blk_is e'.symm; omega)⟩
  clear g12 z12 K M1 X hYl
  obtain ⟨k1, hk1⟩ : ∃ k1 : Int, k1 = 1 + (xs.length : Nat) := ⟨_, rfl⟩
  rw [← hk1]
  have hk1a : 0 ≤ k1 ∧ k1 ≤ 100000000 := by omega
  have hk1b : ¬ k1 + ys.length < 0 := by omega
  have hk1c : decide (k1 + ys.length < 0) = false := decide_eq_false hk1b
  clear hk1
  have M2 : OwnSl w12 w4.heap.size 3 (some ⟨w4.heap.size, 0, none⟩) ys.length (zg ys) := fun _ => ⟨w4.heap.size, 0, rfl, Nat.le_refl _, Y⟩
  go_wp2_with fail
  refine (markIntS_wide _ w4.heap.size _ _ _ _ k1 (by omega) hk1a M2).mono ?_; rintro e w13 ⟨rfl, -, g13, z13⟩
  replace O1 := O1.of_block (fun g e hg => g13.block g hg (fun e' => by have := blk_is e'.symm; have := HO1.out g e; omega))
  replace O2 := O2.of_block (fun g e hg => g13.block g hg (fun e' => by have := blk_is e'.symm; have := HO2.out g e; omega))
  have k13 : Below w.heap.size w w13 := k12.trans ⟨g13.os, g13.tape, g13.output, g13.size, fun q hq => g13.block q (by have := k12.size; omega) (fun e' => by have := blk_is e'.symm; omega)⟩
  clear g13 z13 k12 M2 Y
  go_wp2_with fail
  refine (eqIntS_wideB A2 A1 c2 c1 _ _ hlen O2.ints O1.ints).mono ?_; rintro e w15 ⟨rfl, b15⟩
  replace O1 := O1.below b15
  replace O2 := O2.below b15
  replace k13 := k13.trans (b15.mono k13.size)
  clear b15
  go_wp2_with fail
  refine (markIntS_wide _ w5.heap.size A2 _ _ _ 1 hlen (by omega) O2).mono ?_; rintro e w16 ⟨rfl, O3, g16, z16⟩
  replace O1 := O1.of_block (fun g e hg => g16.block g hg (fun e' => by have := HO2.out g e'.symm; have := HO1.out g e; omega))
  have k16 : Below w.heap.size w w16 := k13.trans ⟨g16.os, g16.tape, g16.output, g16.size, fun q hq => g16.block q (by have := k13.size; omega) (fun e' => by have := HO2.out q e'.symm; omega)⟩
  clear g16 O2 k13 z16
  have hq2 : ¬ ((1 : Int) + (zs.length : Nat) < 0) := by omega
  go_wp2_with fail
  refine (heldIntS_wide _ w5.heap.size A2 _ _ 1 hlen (by omega) O3).mono ?_; rintro e w' ⟨rfl, rfl⟩
  go_wp2_with fail
  refine (toIntS_any a0 cap0 xs _ hn (hi.below k16)).mono ?_; rintro e w17 ⟨rfl, r17, b17⟩
  have I17 := IsInts.row r17
  replace O1 := O1.below b17
  replace O3 := O3.below b17
  replace k16 := k16.trans (b17.mono k16.size)
  clear b17 r17
  go_wp2_with fail
  refine (toIntS_any a1 cap1 ys _ hm (hj.below k16)).mono ?_; rintro e w18 ⟨rfl, r18, b18⟩
  have I18 := IsInts.row r18
  replace I17 := I17.below b18
  replace O1 := O1.below b18
  replace O3 := O3.below b18
  replace k16 := k16.trans (b18.mono k16.size)
  clear b18 r18
  go_wp2_with fail
  refine (HI.out _ _ w18 I17 I18).mono ?_; rintro e w19 ⟨A3, c3, rfl, hc3, O4, b19⟩
  replace O1 := O1.below b19
  replace O3 := O3.below b19
  replace k16 := k16.trans (b19.mono k16.size)
  clear b19 I17 I18
  go_wp2_with fail
  refine (eqIntS_wideB A3 A1 c3 c1 _ _ hlen O4.ints O1.ints).mono ?_; rintro e w20 ⟨rfl, b20⟩
  replace O3 := O3.below b20
  replace k16 := k16.trans (b20.mono k16.size)
  go_wp2_with fail
  refine (heldIntS_wide _ w5.heap.size A2 _ _ 1 hlen (by omega) O3).mono ?_; rintro e w' ⟨rfl, rfl⟩
  go_wp2
  go_ret
  exact ⟨rfl, k16⟩

/-! ### THE ROW's STEP: WRITTEN OUT: LEAVE IT -/
set_option maxRecDepth 100000 in
theorem lifted (os : Os) (started : os.Started) (H : Type) (enc : TypeId × Value → H) :
    ReturnsInHanded {} Try.checked os 4 .any (Rows.fnExactLinkedSpec.pre6 enc Try.prog Try.f4 Rows.fnExactLinkedRow.domain false) (Rows.fnExactLinkedSpec.post enc Try.prog Try.f4 false true false false) := by
  refine returnsInHanded_of_change (C := Try.checked) own started (by kernel_rfl) Try.func4
    (ChangeSpec.witness6 (enc := enc) (C := Try.checked) false ⟨#[], #[.slice none 0 0, .slice none 0 0], []⟩ 8 (by kernel_rfl) (by kernel_rfl) (by kernel_rfl) (by kernel_rfl)) ?_
  intro W base args ds gs before hval0 hW hcnd _
  have hval : ∀ (j : Nat) t v, Try.f4.params[j]? = some t → args[j]? = some v → Value.okWide Try.prog W .any base t v := hval0
  have hW' := hW
  obtain ⟨p, q, hA0, hV, rfl, hfz, hnd⟩ := hW
  have hA : DataW.TrodAll enc Try.prog W 0 (fun _ => true) true Try.f4.params.toList args.toList ds p := hA0
  rw [Try.params4] at hA hval
  obtain ⟨v0, vs0, d0, ds0, p0, q0, hargs, rfl, rfl, h0, r0⟩ := trodAll_cons hA
  obtain ⟨v1, vs1, d1, ds1, p1, q1, rfl, rfl, rfl, h1, r1⟩ := trodAll_cons r0
  obtain ⟨rfl, rfl, rfl⟩ := trodAll_nil r1
  obtain rfl : args = #[v0, v1] := by cases args; simp_all
  obtain ⟨rfl, rfl⟩ := trodVars_none hV
  obtain ⟨a0, len0, cap0, rfl⟩ := okWide_slice Try.underlying30 (hval 0 30 v0 rfl rfl)
  have k0 := h0
  have lt0 : ∀ x ∈ p0, x.block < W.heap.size := by obtain ⟨m, hm⟩ := k0; exact DataW.trod_lt m _ _ _ hm
  obtain ⟨z0, w0⟩ : ∃ zs, IsRow .i64 W a0 len0 cap0 zs := by
    obtain ⟨fuel, hf⟩ := h0
    rcases open_ints Try.underlying30 Try.underlying3 (by kernel_rfl) hf with ⟨hcs, _⟩ | ⟨x, l, c, zs, hcs, _, hl, hm, hz, _, hcell, hwz⟩
    · simp [Value.cells] at hcs
      obtain ⟨rfl, rfl, rfl⟩ := hcs
      exact ⟨[], .inl ⟨rfl, rfl, rfl, rfl⟩⟩
    · simp [Value.cells] at hcs
      obtain ⟨rfl, rfl, rfl⟩ := hcs
      exact ⟨zs, .inr ⟨_, rfl, hl, hm, by simpa using hz, hcell, hwz⟩⟩
  obtain ⟨a1, len1, cap1, rfl⟩ := okWide_slice Try.underlying30 (hval 1 30 v1 rfl rfl)
  have k1 := h1
  have lt1 : ∀ x ∈ p1, x.block < W.heap.size := by obtain ⟨m, hm⟩ := k1; exact DataW.trod_lt m _ _ _ hm
  obtain ⟨z1, w1⟩ : ∃ zs, IsRow .i64 W a1 len1 cap1 zs := by
    obtain ⟨fuel, hf⟩ := h1
    rcases open_ints Try.underlying30 Try.underlying3 (by kernel_rfl) hf with ⟨hcs, _⟩ | ⟨x, l, c, zs, hcs, _, hl, hm, hz, _, hcell, hwz⟩
    · simp [Value.cells] at hcs
      obtain ⟨rfl, rfl, rfl⟩ := hcs
      exact ⟨[], .inl ⟨rfl, rfl, rfl, rfl⟩⟩
    · simp [Value.cells] at hcs
      obtain ⟨rfl, rfl, rfl⟩ := hcs
      exact ⟨zs, .inr ⟨_, rfl, hl, hm, by simpa using hz, hcell, hwz⟩⟩
  clear hA0 hval0
  refine (walk a0 len0 cap0 z0 a1 len1 cap1 z1 W w0 w1).mono fun e W' ⟨he, bel⟩ => ?_
  subst he
  exact ⟨_, rfl, _, _, _, [], _, [], hW', trodAll_mk1 (shut_bool Try.underlying4 _), (trodAll_cons_mk (Below.trod laidOut (by kernel_rfl) (of_decide_eq_true (by kernel_rfl)) k0 bel lt0) (trodAll_cons_mk (Below.trod laidOut (by kernel_rfl) (of_decide_eq_true (by kernel_rfl)) k1 bel lt1) trodAll_mk0)), rfl, bel.frame _, fun h => by cases h⟩

theorem over : Rows.fnExactLinkedRow.holds Try.pinned (OpenSpec.ofChange Rows.fnExactLinkedSpec) :=
  OpenClaim.holds_of_wide 4 Try.f4 rfl rfl rfl rfl rfl rfl rfl ⟨rfl, rfl, rfl, rfl, rfl⟩ rfl rfl rfl rfl rfl (by kernel_rfl) Try.func4 (by kernel_rfl)
    (of_decide_eq_true (by kernel_rfl)) (by unfold Func.isWrapper; first | (rw [if_pos (by decide +kernel)]; kernel_rfl) | (rw [if_neg (by decide +kernel)]; exact ⟨rfl, rfl⟩))
    (fun os started H enc _ => lifted os started H enc)

/-- ████ THE STATEMENT ████ -/
theorem proved : Rows.FnExactLinkedSaid := over
#print axioms proved
end Go.Proofs.Ytdobiapnkdgjoaa.fnExactLinked
