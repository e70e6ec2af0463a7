/-
  For all two slices of bytes the law FnFloors returns true: quotients rounded down, saturated sums and least elements of the drawn numbers are as the law asks (no condition).
-/
import Derived.Test.YtjilfddkkajkcaaRows
import Derived.WalkKit
import Derived.ProofKit
import Derived.OpenShut
import Derived.ShutString
import Derived.ChangeOld
import Derived.Below
import Derived.Test.YtjilfddkkajkcaaDiv
import Derived.Test.YtjilfddkkajkcaaDrawLeast
import Derived.Deep.DeepCutAuto
namespace Go.Proofs.Ytjilfddkkajkcaa.fnFloors
open Go.ChangeShapes Go.WideShapes Go.ChangeAt Go.RowKit
open Go.ChangeMaps (open_string shut_string)
set_option linter.unusedVariables false

theorem own : ownKnob Try.prog.godebug = none := by kernel_rfl
theorem laidOut : laidOutB Try.prog = true := by kernel_rfl

/-- WHAT THE WALK IS TOLD OF A SLICE OF INTEGERS THAT CAME IN: it is nil; or it leads to a row of 'cap' cells, the numbers 'zs' (the first 'len' are its elements, the rest its spare room), each fitting its kind. -/
def IsRow (k : IntKind) (w : World) (a : Option Addr) (len cap : Nat) (zs : List Int) : Prop :=
  (a = none ∧ len = 0 ∧ cap = 0 ∧ zs = []) ∨
  ∃ x, a = some x ∧ len ≤ cap ∧ cap ≤ maxLen ∧ zs.length = cap ∧ (∀ i, i < zs.length → w.cell? (x.add i) = some (.int k (zs.getD i 0))) ∧ ∀ n ∈ zs, (Lit.int k n).wf = true

/-! ### STEP 1: THE WALK: the Go text returns true, AND WRITES NOTHING THAT WAS THERE: 'Below w.heap.size w w'' (Derived/Below.lean: '.refl', '.alloc', '.drew', '.setCell' at a new block, '.trans'). Open each 'IsRow' by 'rcases' AHEAD of 'go_enter'; part every test ahead of the walk. -/
set_option maxHeartbeats 1000000 in
set_option maxRecDepth 100000 in
theorem walk (a0 : Option Addr) (len0 cap0 : Nat) (z0 : List Int) (a1 : Option Addr) (len1 cap1 : Nat) (z1 : List Int) (w : World) (w0 : IsRow .u8 w a0 len0 cap0 z0) (w1 : IsRow .u8 w a1 len1 cap1 z1) :
    Calls Try.prog 4 #[.slice a0 len0 cap0, .slice a1 len1 cap1] w fun e w' => e = .returned (.bool true) ∧ Below w.heap.size w w' := by
  have hcode := codeIn_of w0
  have hmore := codeIn_of w1
  clear w0 w1
  by_cases hbig : 1048576 < len0
  · have hd : decide ((1048576 : Int) < len0) = true := by simp; omega
    go_enter Try.func4, Try.ntmps4
    go_wp2_with (go_at_call 9; refine (big_any _ _ _ _).mono ?_; rintro e w' ⟨rfl, rfl⟩)
    go_ret
    exact ⟨rfl, Below.refl _ _⟩
  · have hd : decide ((1048576 : Int) < len0) = false := by simp; omega
    by_cases hbig1 : 1048576 < len1
    · have hd1 : decide ((1048576 : Int) < len1) = true := by simp; omega
      go_enter Try.func4, Try.ntmps4
      go_wp2_with (go_at_call 9; refine (big_any _ _ _ _).mono ?_; rintro e w' ⟨rfl, rfl⟩)
      go_ret
      exact ⟨rfl, Below.refl _ _⟩
    · have hd1 : decide ((1048576 : Int) < len1) = false := by simp; omega
      go_enter Try.func4, Try.ntmps4
      go_wp2_with fail
      refine (big_any _ _ _ _).mono ?_; rintro e w' ⟨rfl, rfl⟩
      go_wp2_with fail
      refine (big_any _ _ _ _).mono ?_; rintro e w' ⟨rfl, rfl⟩
      go_wp2_with fail
      refine (drawFloorDiv_any w a0 len0 cap0 hcode (by omega)).mono ?_
      rintro e w1 ⟨a, b, rfl, ha, hb, b1⟩
      go_wp2_with fail
      refine (implFloorDiv_any a b _).mono ?_; rintro e w' ⟨rfl, rfl⟩
      go_wp2_with fail
      refine (specFloorDiv_any a b _).mono ?_; rintro e w' ⟨rfl, rfl⟩
      go_upto_region 7 with (fail)
      go_cut [61] (fun t wc => t = .bool false ∧ wc = w1)
      case first =>
        by_cases hs : 0 < b ∧ b < 1000 ∧ -1000000000 < a ∧ a < 1000000000
        · obtain ⟨s1, s2, s3, s4⟩ := hs
          obtain ⟨q0, q1, q2, q3⟩ := fd_laws s1 s2 s3 s4
          go_wp2
          go_meet
          case rel => exact ⟨by rw [decide_eq_false (by omega), decide_eq_false (by omega)]; rfl, rfl⟩
        · go_wp2
          all_goals (first | (exfalso; omega) | (go_meet; case rel => exact ⟨rfl, rfl⟩))
      case rest =>
        obtain ⟨rfl, rfl⟩ := hcut
        go_wp2_with fail
        refine (drawSat_any _ a1 len1 cap1 (hmore.below b1) (by omega)).mono ?_
        rintro e w2 ⟨x, y, rfl, hx, hy, b2⟩
        have b12 := b1.trans (b2.mono b1.size)
        go_wp2_with fail
        refine (implSat_any x y _).mono ?_; rintro e w3 ⟨rfl, b3⟩
        have b13 := b12.trans (b3.mono b12.size)
        go_wp2_with fail
        refine (drawLeast_any _ a0 len0 cap0 (hcode.below b13) (by omega)).mono ?_
        rintro e w4 ⟨B, zs, cap, rfl, hz1, hz2, hz3, hz4, b4⟩
        have b14 := b13.trans (b4.mono b13.size)
        go_wp2_with fail
        refine (implLeast_ints B cap zs _ (by omega) hz1 hz3).mono ?_; rintro e w' ⟨rfl, rfl⟩
        go_wp2
        go_loop [13] (fun i => ∃ k : Nat, k ≤ zs.length ∧ i = .int .i64 k) (fun i => zs.length - (intOf i).toNat)
        case atStart => exact ⟨0, by omega, rfl⟩
        case round =>
          obtain ⟨k, hk, rfl⟩ := hrel
          by_cases hlt : k < zs.length
          · obtain ⟨bb, off, rfl, _, hck⟩ := hz3.at_ hlt
            have hle := lst_le zs k hlt
            go_wp2
            go_round
            case rel => exact ⟨k + 1, by omega, by go_num⟩
            case measure => simp [intOf]; omega
          · clear hk
            have hs := sat_laws x y
            have hq := Lib.hid (sat_comm y x)
            go_wp2_with fail
            refine (implSat_any y x _).mono ?_; rintro e w5 ⟨rfl, b5⟩
            have b15 := b14.trans (b5.mono b14.size)
            rw [hq.out]
            obtain ⟨s1, s2, s3⟩ := hs
            have hlen : ((zs.length : Int) == 0) = decide (zs.length = 0) := by
              rcases Nat.eq_zero_or_pos zs.length with h | h
              · rw [h]; rfl
              · rw [decide_eq_false (by omega), beq_eq_false_iff_ne]; omega
            have HL := Lib.hid hlen
            clear hlen
            rcases Nat.eq_zero_or_pos zs.length with h0 | h0
            · obtain rfl := List.eq_nil_of_length_eq_zero h0
              clear h0 HL
              by_cases x0 : x < 0
              · clear s3
                go_wp2
                go_ret
                exact ⟨rfl, b15⟩
              · by_cases x1 : 1000000000000 < x
                · clear s3
                  go_wp2
                  go_ret
                  exact ⟨rfl, b15⟩
                · have s4 := s3 (by omega) (by omega)
                  clear s3
                  go_wp2
                  go_ret
                  exact ⟨rfl, b15⟩
            · have hne : ((zs.length : Int) == 0) = false := by rw [HL.out, decide_eq_false (by omega)]
              have hin := lst_mem zs h0
              have hi5 := hz3.below b5
              clear HL
              by_cases x0 : x < 0
              · clear s3
                go_wp2_with fail
                refine (in_yes B cap zs (lst zs) _ (by omega) hi5 hin).mono ?_; rintro e w' ⟨rfl, rfl⟩
                go_wp2
                go_ret
                exact ⟨rfl, b15⟩
              · by_cases x1 : 1000000000000 < x
                · clear s3
                  go_wp2_with fail
                  refine (in_yes B cap zs (lst zs) _ (by omega) hi5 hin).mono ?_; rintro e w' ⟨rfl, rfl⟩
                  go_wp2
                  go_ret
                  exact ⟨rfl, b15⟩
                · have s4 := s3 (by omega) (by omega)
                  clear s3
                  go_wp2_with fail
                  refine (in_yes B cap zs (lst zs) _ (by omega) hi5 hin).mono ?_; rintro e w' ⟨rfl, rfl⟩
                  go_wp2
                  go_ret
                  exact ⟨rfl, b15⟩

/-! ### THE ROW's STEP: WRITTEN OUT: LEAVE IT -/
set_option maxRecDepth 100000 in
theorem lifted (os : Os) (started : os.Started) (H : Type) (enc : TypeId × Value → H) :
    ReturnsInHanded {} Try.checked os 4 .any (Rows.fnFloorsSpec.pre6 enc Try.prog Try.f4 Rows.fnFloorsRow.domain false) (Rows.fnFloorsSpec.post enc Try.prog Try.f4 false true false false) := by
  refine returnsInHanded_of_change (C := Try.checked) own started (by kernel_rfl) Try.func4
    (ChangeSpec.witness6 (enc := enc) (C := Try.checked) false ⟨#[], #[.slice none 0 0, .slice none 0 0], []⟩ 8 (by kernel_rfl) (by kernel_rfl) (by kernel_rfl) (by kernel_rfl)) ?_
  intro W base args ds gs before hval0 hW hcnd _
  have hval : ∀ (j : Nat) t v, Try.f4.params[j]? = some t → args[j]? = some v → Value.okWide Try.prog W .any base t v := hval0
  have hW' := hW
  obtain ⟨p, q, hA0, hV, rfl, hfz, hnd⟩ := hW
  have hA : DataW.TrodAll enc Try.prog W 0 (fun _ => true) true Try.f4.params.toList args.toList ds p := hA0
  rw [Try.params4] at hA hval
  obtain ⟨v0, vs0, d0, ds0, p0, q0, hargs, rfl, rfl, h0, r0⟩ := trodAll_cons hA
  obtain ⟨v1, vs1, d1, ds1, p1, q1, rfl, rfl, rfl, h1, r1⟩ := trodAll_cons r0
  obtain ⟨rfl, rfl, rfl⟩ := trodAll_nil r1
  obtain rfl : args = #[v0, v1] := by cases args; simp_all
  obtain ⟨rfl, rfl⟩ := trodVars_none hV
  obtain ⟨a0, len0, cap0, rfl⟩ := okWide_slice Try.underlying22 (hval 0 22 v0 rfl rfl)
  have k0 := h0
  have lt0 : ∀ x ∈ p0, x.block < W.heap.size := by obtain ⟨m, hm⟩ := k0; exact DataW.trod_lt m _ _ _ hm
  obtain ⟨z0, w0⟩ : ∃ zs, IsRow .u8 W a0 len0 cap0 zs := by
    obtain ⟨fuel, hf⟩ := h0
    rcases open_ints Try.underlying22 Try.underlying5 (by kernel_rfl) hf with ⟨hcs, _⟩ | ⟨x, l, c, zs, hcs, _, hl, hm, hz, _, hcell, hwz⟩
    · simp [Value.cells] at hcs
      obtain ⟨rfl, rfl, rfl⟩ := hcs
      exact ⟨[], .inl ⟨rfl, rfl, rfl, rfl⟩⟩
    · simp [Value.cells] at hcs
      obtain ⟨rfl, rfl, rfl⟩ := hcs
      exact ⟨zs, .inr ⟨_, rfl, hl, hm, by simpa using hz, hcell, hwz⟩⟩
  obtain ⟨a1, len1, cap1, rfl⟩ := okWide_slice Try.underlying22 (hval 1 22 v1 rfl rfl)
  have k1 := h1
  have lt1 : ∀ x ∈ p1, x.block < W.heap.size := by obtain ⟨m, hm⟩ := k1; exact DataW.trod_lt m _ _ _ hm
  obtain ⟨z1, w1⟩ : ∃ zs, IsRow .u8 W a1 len1 cap1 zs := by
    obtain ⟨fuel, hf⟩ := h1
    rcases open_ints Try.underlying22 Try.underlying5 (by kernel_rfl) hf with ⟨hcs, _⟩ | ⟨x, l, c, zs, hcs, _, hl, hm, hz, _, hcell, hwz⟩
    · simp [Value.cells] at hcs
      obtain ⟨rfl, rfl, rfl⟩ := hcs
      exact ⟨[], .inl ⟨rfl, rfl, rfl, rfl⟩⟩
    · simp [Value.cells] at hcs
      obtain ⟨rfl, rfl, rfl⟩ := hcs
      exact ⟨zs, .inr ⟨_, rfl, hl, hm, by simpa using hz, hcell, hwz⟩⟩
  clear hA0 hval0
  refine (walk a0 len0 cap0 z0 a1 len1 cap1 z1 W w0 w1).mono fun e W' ⟨he, bel⟩ => ?_
  subst he
  exact ⟨_, rfl, _, _, _, [], _, [], hW', trodAll_mk1 (shut_bool Try.underlying4 _), (trodAll_cons_mk (Below.trod laidOut (by kernel_rfl) (of_decide_eq_true (by kernel_rfl)) k0 bel lt0) (trodAll_cons_mk (Below.trod laidOut (by kernel_rfl) (of_decide_eq_true (by kernel_rfl)) k1 bel lt1) trodAll_mk0)), rfl, bel.frame _, fun h => by cases h⟩

theorem over : Rows.fnFloorsRow.holds Try.pinned (OpenSpec.ofChange Rows.fnFloorsSpec) :=
  OpenClaim.holds_of_wide 4 Try.f4 rfl rfl rfl rfl rfl rfl rfl ⟨rfl, rfl, rfl, rfl, rfl⟩ rfl rfl rfl rfl rfl (by kernel_rfl) Try.func4 (by kernel_rfl)
    (of_decide_eq_true (by kernel_rfl)) (by unfold Func.isWrapper; first | (rw [if_pos (by decide +kernel)]; kernel_rfl) | (rw [if_neg (by decide +kernel)]; exact ⟨rfl, rfl⟩))
    (fun os started H enc _ => lifted os started H enc)

/-- ████ THE STATEMENT ████ -/
theorem proved : Rows.FnFloorsSaid := over
#print axioms proved
end Go.Proofs.Ytjilfddkkajkcaa.fnFloors
