/-
  For every slice of numbers and every number the law FnExactRanked returns true: the program's Ranked answers as the specification's, in memory of its own, and writes nothing into its argument (no condition).
-/
import Derived.Test.YtcaamhoakhgnhaaRows
import Derived.WalkKit
import Derived.ProofKit
import Derived.OpenShut
import Derived.ShutString
import Derived.ChangeOld
import Derived.Below
import Derived.Test.YtcaamhoakhgnhaaRankedIm
import Derived.Test.YtcaamhoakhgnhaaWide
namespace Go.Proofs.Ytcaamhoakhgnhaa.fnExactRanked
open Go.ChangeShapes Go.WideShapes Go.ChangeAt Go.RowKit
open Go.ChangeMaps (open_string shut_string)
set_option linter.unusedVariables false

theorem own : ownKnob Try.prog.godebug = none := by kernel_rfl
theorem laidOut : laidOutB Try.prog = true := by kernel_rfl

/-- WHAT THE WALK IS TOLD OF A SLICE OF INTEGERS THAT CAME IN: it is nil; or it leads to a row of 'cap' cells, the numbers 'zs' (the first 'len' are its elements, the rest its spare room), each fitting its kind. -/
def IsRow (k : IntKind) (w : World) (a : Option Addr) (len cap : Nat) (zs : List Int) : Prop :=
  (a = none ∧ len = 0 ∧ cap = 0 ∧ zs = []) ∨
  ∃ x, a = some x ∧ len ≤ cap ∧ cap ≤ maxLen ∧ zs.length = cap ∧ (∀ i, i < zs.length → w.cell? (x.add i) = some (.int k (zs.getD i 0))) ∧ ∀ n ∈ zs, (Lit.int k n).wf = true

theorem row_own {w : World} {b : Nat} {zs : List Int} (h : w.rowIs b 3 zs.length (fun j => .int .i64 (zg zs j))) : OwnAt w b 3 0 zs.length (zg zs) := by
  obtain ⟨c, h1, h2, h3⟩ := h
  exact ⟨c, h1, by omega, fun i hi => by rw [Nat.zero_add]; exact h3 i hi⟩
theorem own_ints {w : World} {b : Nat} {zs : List Int} (h : OwnAt w b 3 0 zs.length (zg zs)) : IsInts w (some ⟨b, 0, none⟩) zs := fun _ => ⟨b, 0, rfl, h.lt, fun i hi => h.cell hi⟩
theorem blk_is {b off N g : Nat} (h : blk (some ⟨b, off, none⟩) N = some g) : g = b := by
  unfold blk at h; split at h
  · simpa using h.symm
  · cases h

/-! ### STEP 1: THE WALK: the Go text returns true, AND WRITES NOTHING THAT WAS THERE: 'Below w.heap.size w w'' (Derived/Below.lean: '.refl', '.alloc', '.drew', '.setCell' at a new block, '.trans'). Open each 'IsRow' by 'rcases' AHEAD of 'go_enter'; part every test ahead of the walk. -/
set_option maxHeartbeats 4000000 in
set_option maxRecDepth 100000 in
theorem walk (a0 : Option Addr) (len0 cap0 : Nat) (z0 : List Int) (a1 : Int) (w : World) (w0 : IsRow .i64 w a0 len0 cap0 z0) (w1 : (Lit.int .i64 a1).wf = true) :
    Calls Try.prog 6 #[.slice a0 len0 cap0, .int .i64 a1] w fun e w' => e = .returned (.bool true) ∧ Below w.heap.size w w' := by
  obtain ⟨xs, rfl, hcx, hi, _⟩ := isInts_of w0
  clear w0
  by_cases hbig : 1048576 < xs.length
  · go_enter Try.func6, Try.ntmps6
    go_wp2
    go_ret
    exact ⟨rfl, Below.refl _ _⟩
  have hn : xs.length ≤ 1048576 := by omega
  have hlen : (rkd xs a1).length ≤ 2097152 := by have := rkd_len xs a1; omega
  have HS := Lib.hid (fun A cp W ha => specRanked_any A cp xs a1 W hn ha)
  have HI := Lib.hid (fun A cp W ha => implRanked_any A cp xs a1 W hn ha)
  generalize rkd xs a1 = zs at hlen HS HI
  go_enter Try.func6, Try.ntmps6
  go_wp2_with fail
  refine (toIntS_any a0 cap0 xs w hn hi).mono ?_; rintro e w1 ⟨rfl, r1, b1⟩
  have i1 := IsInts.row r1
  have K := b1
  clear r1 b1
  go_wp2_with fail
  refine (HS.out _ _ w1 i1).mono ?_; rintro e w3 ⟨A1, c1, rfl, hc1, O1, b3⟩
  have hO1 : ∀ g, blk A1 zs.length = some g → g < w3.heap.size := fun g e => (blk_own O1 e).2
  have HO1 := Lib.hid hO1
  replace K := K.trans (b3.mono K.size)
  have K3 := K.size
  clear i1 b3 hO1
  go_wp2_with fail
  refine (toIntS_any a0 cap0 xs w3 hn (hi.below K)).mono ?_; rintro e w5 ⟨rfl, r4, b4⟩
  have X := row_own r4
  have hX := X.lt
  replace O1 := O1.below b4
  replace K := K.trans (b4.mono K.size)
  clear r4 b4
  go_wp2_with fail
  refine (HI.out _ _ w5 (own_ints X)).mono ?_; rintro e w6 ⟨A2, c2, rfl, hc2, O2, b6⟩
  have hO2 : ∀ g, blk A2 zs.length = some g → w5.heap.size ≤ g := fun g e => (blk_own O2 e).1
  have HO2 := Lib.hid hO2
  replace X := X.below b6
  replace O1 := O1.below b6
  replace K := K.trans (b6.mono K.size)
  clear b6 hO2
  go_wp2_with fail
  refine (eqIntS_wideB A2 A1 c2 c1 _ _ hlen O2.ints O1.ints).mono ?_; rintro e w7 ⟨rfl, b7⟩
  replace X := X.below b7
  replace O1 := O1.below b7
  replace O2 := O2.below b7
  replace K := K.trans (b7.mono K.size)
  clear b7
  go_wp2_with fail
  refine (toIntS_any a0 cap0 xs _ hn (hi.below K)).mono ?_; rintro e w8 ⟨rfl, r8, b8⟩
  have I8 := IsInts.row r8
  replace X := X.below b8
  replace O1 := O1.below b8
  replace O2 := O2.below b8
  replace K := K.trans (b8.mono K.size)
  clear b8 r8
  go_wp2_with fail
  refine (eqIntS_wideB _ _ _ _ xs _ (by omega) (own_ints X) I8).mono ?_; rintro e w9 ⟨rfl, b9⟩
  replace X := X.below b9
  replace O1 := O1.below b9
  replace O2 := O2.below b9
  replace K := K.trans (b9.mono K.size)
  clear b9 I8
  have M1 : OwnSl w9 w3.heap.size 3 (some ⟨w3.heap.size, 0, none⟩) xs.length (zg xs) := fun _ => ⟨w3.heap.size, 0, rfl, Nat.le_refl _, X⟩
  have hk1b : ¬ (1 : Int) + xs.length < 0 := by omega
  have hk1c : decide ((1 : Int) + xs.length < 0) = false := decide_eq_false hk1b
  go_wp2_with fail
  refine (markIntS_wide _ w3.heap.size _ _ _ _ 1 (by omega) (by omega) M1).mono ?_; rintro e w12 ⟨rfl, -, g12, z12⟩
  replace O1 := O1.of_block (fun g e hg => g12.block g hg (fun e' => by have := blk_is e'.symm; have := HO1.out g e; omega))
  replace O2 := O2.of_block (fun g e hg => g12.block g hg (fun e' => by have := blk_is e'.symm; have := HO2.out g e; omega))
  have k13 : Below w.heap.size w w12 := K.trans ⟨g12.os, g12.tape, g12.output, g12.size, fun q hq => g12.block q (by have := K.size; omega) (fun e' => by have := blk_is e'.symm; omega)⟩
  clear g12 z12 K M1 X
  go_wp2_with fail
  refine (eqIntS_wideB A2 A1 c2 c1 _ _ hlen O2.ints O1.ints).mono ?_; rintro e w15 ⟨rfl, b15⟩
  replace O1 := O1.below b15
  replace O2 := O2.below b15
  replace k13 := k13.trans (b15.mono k13.size)
  clear b15
  go_wp2_with fail
  refine (markIntS_wide _ w5.heap.size A2 _ _ _ 1 hlen (by omega) O2).mono ?_; rintro e w16 ⟨rfl, O3, g16, z16⟩
  replace O1 := O1.of_block (fun g e hg => g16.block g hg (fun e' => by have := HO2.out g e'.symm; have := HO1.out g e; omega))
  have k16 : Below w.heap.size w w16 := k13.trans ⟨g16.os, g16.tape, g16.output, g16.size, fun q hq => g16.block q (by have := k13.size; omega) (fun e' => by have := HO2.out q e'.symm; omega)⟩
  clear g16 O2 k13 z16
  have hq2 : ¬ ((1 : Int) + (zs.length : Nat) < 0) := by omega
  go_wp2_with fail
  refine (heldIntS_wide _ w5.heap.size A2 _ _ 1 hlen (by omega) O3).mono ?_; rintro e w' ⟨rfl, rfl⟩
  go_wp2_with fail
  refine (toIntS_any a0 cap0 xs _ hn (hi.below k16)).mono ?_; rintro e w17 ⟨rfl, r17, b17⟩
  have I17 := IsInts.row r17
  replace O1 := O1.below b17
  replace O3 := O3.below b17
  replace k16 := k16.trans (b17.mono k16.size)
  clear b17 r17
  go_wp2_with fail
  refine (HI.out _ _ w17 I17).mono ?_; rintro e w19 ⟨A3, c3, rfl, hc3, O4, b19⟩
  replace O1 := O1.below b19
  replace O3 := O3.below b19
  replace k16 := k16.trans (b19.mono k16.size)
  clear b19 I17
  go_wp2_with fail
  refine (eqIntS_wideB A3 A1 c3 c1 _ _ hlen O4.ints O1.ints).mono ?_; rintro e w20 ⟨rfl, b20⟩
  replace O3 := O3.below b20
  replace k16 := k16.trans (b20.mono k16.size)
  go_wp2_with fail
  refine (heldIntS_wide _ w5.heap.size A2 _ _ 1 hlen (by omega) O3).mono ?_; rintro e w' ⟨rfl, rfl⟩
  go_wp2
  go_ret
  exact ⟨rfl, k16⟩

/-! ### THE ROW's STEP: WRITTEN OUT: LEAVE IT -/
set_option maxRecDepth 100000 in
theorem lifted (os : Os) (started : os.Started) (H : Type) (enc : TypeId × Value → H) :
    ReturnsInHanded {} Try.checked os 6 .any (Rows.fnExactRankedSpec.pre6 enc Try.prog Try.f6 Rows.fnExactRankedRow.domain false) (Rows.fnExactRankedSpec.post enc Try.prog Try.f6 false true false false) := by
  refine returnsInHanded_of_change (C := Try.checked) own started (by kernel_rfl) Try.func6
    (ChangeSpec.witness6 (enc := enc) (C := Try.checked) false ⟨#[], #[.slice none 0 0, .int .i64 0], []⟩ 8 (by kernel_rfl) (by kernel_rfl) (by kernel_rfl) (by kernel_rfl)) ?_
  intro W base args ds gs before hval0 hW hcnd _
  have hval : ∀ (j : Nat) t v, Try.f6.params[j]? = some t → args[j]? = some v → Value.okWide Try.prog W .any base t v := hval0
  have hW' := hW
  obtain ⟨p, q, hA0, hV, rfl, hfz, hnd⟩ := hW
  have hA : DataW.TrodAll enc Try.prog W 0 (fun _ => true) true Try.f6.params.toList args.toList ds p := hA0
  rw [Try.params6] at hA hval
  obtain ⟨v0, vs0, d0, ds0, p0, q0, hargs, rfl, rfl, h0, r0⟩ := trodAll_cons hA
  obtain ⟨v1, vs1, d1, ds1, p1, q1, rfl, rfl, rfl, h1, r1⟩ := trodAll_cons r0
  obtain ⟨rfl, rfl, rfl⟩ := trodAll_nil r1
  obtain rfl : args = #[v0, v1] := by cases args; simp_all
  obtain ⟨rfl, rfl⟩ := trodVars_none hV
  obtain ⟨a0, len0, cap0, rfl⟩ := okWide_slice Try.underlying40 (hval 0 40 v0 rfl rfl)
  have k0 := h0
  have lt0 : ∀ x ∈ p0, x.block < W.heap.size := by obtain ⟨m, hm⟩ := k0; exact DataW.trod_lt m _ _ _ hm
  obtain ⟨z0, w0⟩ : ∃ zs, IsRow .i64 W a0 len0 cap0 zs := by
    obtain ⟨fuel, hf⟩ := h0
    rcases open_ints Try.underlying40 Try.underlying3 (by kernel_rfl) hf with ⟨hcs, _⟩ | ⟨x, l, c, zs, hcs, _, hl, hm, hz, _, hcell, hwz⟩
    · simp [Value.cells] at hcs
      obtain ⟨rfl, rfl, rfl⟩ := hcs
      exact ⟨[], .inl ⟨rfl, rfl, rfl, rfl⟩⟩
    · simp [Value.cells] at hcs
      obtain ⟨rfl, rfl, rfl⟩ := hcs
      exact ⟨zs, .inr ⟨_, rfl, hl, hm, by simpa using hz, hcell, hwz⟩⟩
  obtain ⟨a1, rfl, rfl, rfl, w1⟩ := open_int Try.underlying3 (hval 1 3 v1 rfl rfl) h1
  clear hA0 hval0
  refine (walk a0 len0 cap0 z0 a1 W w0 w1).mono fun e W' ⟨he, bel⟩ => ?_
  subst he
  exact ⟨_, rfl, _, _, _, [], _, [], hW', trodAll_mk1 (shut_bool Try.underlying4 _), (trodAll_cons_mk (Below.trod laidOut (by kernel_rfl) (of_decide_eq_true (by kernel_rfl)) k0 bel lt0) (trodAll_cons_mk (shut_int Try.underlying3 w1) trodAll_mk0)), rfl, bel.frame _, fun h => by cases h⟩

theorem over : Rows.fnExactRankedRow.holds Try.pinned (OpenSpec.ofChange Rows.fnExactRankedSpec) :=
  OpenClaim.holds_of_wide 6 Try.f6 rfl rfl rfl rfl rfl rfl rfl ⟨rfl, rfl, rfl, rfl, rfl⟩ rfl rfl rfl rfl rfl (by kernel_rfl) Try.func6 (by kernel_rfl)
    (of_decide_eq_true (by kernel_rfl)) (by unfold Func.isWrapper; first | (rw [if_pos (by decide +kernel)]; kernel_rfl) | (rw [if_neg (by decide +kernel)]; exact ⟨rfl, rfl⟩))
    (fun os started H enc _ => lifted os started H enc)

/-- ████ THE STATEMENT ████ -/
theorem proved : Rows.FnExactRankedSaid := over
#print axioms proved
end Go.Proofs.Ytcaamhoakhgnhaa.fnExactRanked
