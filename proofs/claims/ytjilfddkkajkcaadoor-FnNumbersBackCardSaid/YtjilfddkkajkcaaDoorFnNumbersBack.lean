/-
  For every slice of bytes the law FnNumbersBack returns true: the number drawn from it is read back from its text, and the text drawn from it is read exactly if it is the text of a number; its condition, that the library's tables and errors read as their initialisers lay them, is tied to the program's text by the card.
-/
import Derived.Test.YtjilfddkkajkcaaDoorRows
import Derived.WalkKit
import Derived.ProofKit
import Derived.OpenShut
import Derived.ShutString
import Derived.ChangeOld
import Derived.Below
import Derived.Test.YtjilfddkkajkcaaDoorConvRead
import Derived.Test.YtjilfddkkajkcaaDoorReadWalk
import Derived.Test.YtjilfddkkajkcaaDoorDrawText
import Derived.Test.YtjilfddkkajkcaaDoorTie
import Derived.Test.YtjilfddkkajkcaaDoorCards
import Derived.LaidMore
import Derived.Stop.Joined
import Derived.SevenTiedAt
import Derived.MakeChecks
namespace Go.Proofs.YtjilfddkkajkcaaDoor.fnNumbersBack
open Go.ChangeShapes Go.WideShapes Go.ChangeAt Go.RowKit
open Go.ChangeMaps (open_string shut_string)
set_option linter.unusedVariables false

theorem own : ownKnob Tryd.prog.godebug = none := by kernel_rfl
theorem laidOut : laidOutB Tryd.prog = true := by kernel_rfl

/-- WHAT THE WALK IS TOLD OF A SLICE OF INTEGERS THAT CAME IN: it is nil; or it leads to a row of 'cap' cells, the numbers 'zs' (the first 'len' are its elements, the rest its spare room), each fitting its kind. -/
def IsRow (k : IntKind) (w : World) (a : Option Addr) (len cap : Nat) (zs : List Int) : Prop :=
  (a = none ∧ len = 0 ∧ cap = 0 ∧ zs = []) ∨
  ∃ x, a = some x ∧ len ≤ cap ∧ cap ≤ maxLen ∧ zs.length = cap ∧ (∀ i, i < zs.length → w.cell? (x.add i) = some (.int k (zs.getD i 0))) ∧ ∀ n ∈ zs, (Lit.int k n).wf = true

/-! ### STEP 1: THE WALK: the Go text returns true, AND WRITES NOTHING THAT WAS THERE: 'Below w.heap.size w w'' (Derived/Below.lean: '.refl', '.alloc', '.drew', '.setCell' at a new block, '.trans'). Open each 'IsRow' by 'rcases' AHEAD of 'go_enter'; part every test ahead of the walk. -/
set_option maxHeartbeats 1000000 in
set_option maxRecDepth 100000 in
theorem walk (a0 : Option Addr) (len0 cap0 : Nat) (z0 : List Int) (w : World) (w0 : IsRow .u8 w a0 len0 cap0 z0) (hL : laidMetH Tryd.prog Rows.fnNumbersBackRow.laid w) :
    Calls Tryd.prog 3 #[.slice a0 len0 cap0] w fun e w' => e = .returned (.bool true) ∧ Below w.heap.size w w' := by
  have hcode := codeIn_of w0
  clear w0
  rw [MakeChecks.laidMetH_plain _ _ _ (by kernel_rfl)] at hL
  have hv := Lib.hid (libVars_of hL)
  clear hL
  by_cases hbig : 1048576 < len0
  · have hd : decide ((1048576 : Int) < len0) = true := by simp; omega
    go_enter Tryd.func3, Tryd.ntmps3
    go_wp2_with (go_at_call 6; refine (big_any _ _ _ _).mono ?_; rintro e w' ⟨rfl, rfl⟩)
    go_ret
    exact ⟨rfl, Below.refl _ _⟩
  · have hd : decide ((1048576 : Int) < len0) = false := by simp; omega
    go_enter Tryd.func3, Tryd.ntmps3
    go_wp2_with fail
    refine (big_any _ _ _ _).mono ?_; rintro e w' ⟨rfl, rfl⟩
    go_wp2_with fail
    refine (drawNumText_any w a0 len0 cap0 hcode (by omega)).mono ?_
    rintro e w1 ⟨n, rfl, hn0, hn1, b1⟩
    go_wp2_with fail
    refine (implNumText_any n w1 hn0 hn1 (hv.out.below b1).1).mono ?_
    rintro e w2 ⟨rfl, b2⟩
    have b12 := b1.trans (b2.mono b1.size)
    have hsz : (⟨(Lib.itoa n).toArray⟩ : ByteArray).size ≤ 1048576 := by
      have := itoa_len n hn0 hn1
      show (Lib.itoa n).toArray.size ≤ _
      simp; omega
    go_wp2_with fail
    refine (implNumRead_any _ w2 hsz (hv.out.below b12)).mono ?_
    rintro e w3 ⟨p3, b3⟩
    have b13 := b12.trans (b3.mono b12.size)
    clear hsz
    by_cases hr : -1000000000000 ≤ n ∧ n ≤ 1000000000000
    rotate_left
    · obtain rfl : e = .returned (.tuple #[.int .i64 0, .bool false]) := readPost_same p3 (.inr ⟨fun m hm => hr (by have e := itoa_inj hm.2.2; have h1 := hm.1; have h2 := hm.2.1; omega), rfl⟩)
      clear p3
      go_wp2_with fail
      all_goals
        refine (drawNumRead_any w3 a0 len0 cap0 (hcode.below b13) (by omega)).mono ?_
        rintro e w4 ⟨s, rfl, hs, b4⟩
        have b14 := b13.trans (b4.mono b13.size)
        go_wp2_with fail
        refine (implNumRead_any s w4 (by omega) (hv.out.below b14)).mono ?_
        rintro e w5 ⟨p5, b5⟩
        have b15 := b14.trans (b5.mono b14.size)
        rcases p5 with ⟨x, hx, rfl⟩ | ⟨hx, rfl⟩
        · have x0 := hx.1
          have x1 := hx.2.1
          have HX := Lib.hid hx
          clear hx
          go_wp2_with fail
          refine (specNumRead_any s w5 (by omega)).mono ?_
          rintro e w6 ⟨p6, b6⟩
          have b16 := b15.trans (b6.mono b15.size)
          obtain rfl : e = .returned (.tuple #[.int .i64 x, .bool true]) := readPost_same p6 (.inl ⟨x, HX.out, rfl⟩)
          clear p6
          have hb : (Lib.itoa x == s.toList) = true := by rw [ByteArray.toList_eq, HX.out.2.2]; simp
          go_wp2_with fail
          refine (implNumText_any x w6 (by omega) (by omega) (hv.out.below b16).1).mono ?_
          rintro e w7 ⟨rfl, b7⟩
          have b17 := b16.trans (b7.mono b16.size)
          go_wp2
          go_ret
          exact ⟨rfl, b17⟩
        · have HX := Lib.hid hx
          clear hx
          go_wp2_with fail
          refine (specNumRead_any s w5 (by omega)).mono ?_
          rintro e w6 ⟨p6, b6⟩
          have b16 := b15.trans (b6.mono b15.size)
          obtain rfl : e = .returned (.tuple #[.int .i64 0, .bool false]) := readPost_same p6 (.inr ⟨HX.out, rfl⟩)
          clear p6
          go_wp2
          go_ret
          exact ⟨rfl, b16⟩
    · obtain rfl : e = .returned (.tuple #[.int .i64 n, .bool true]) := readPost_same p3 (.inl ⟨n, ⟨hr.1, hr.2, rfl⟩, rfl⟩)
      clear p3
      obtain ⟨hr0, hr1⟩ := hr
      go_wp2_with fail
      all_goals
        refine (drawNumRead_any w3 a0 len0 cap0 (hcode.below b13) (by omega)).mono ?_
        rintro e w4 ⟨s, rfl, hs, b4⟩
        have b14 := b13.trans (b4.mono b13.size)
        go_wp2_with fail
        refine (implNumRead_any s w4 (by omega) (hv.out.below b14)).mono ?_
        rintro e w5 ⟨p5, b5⟩
        have b15 := b14.trans (b5.mono b14.size)
        rcases p5 with ⟨x, hx, rfl⟩ | ⟨hx, rfl⟩
        · have x0 := hx.1
          have x1 := hx.2.1
          have HX := Lib.hid hx
          clear hx
          go_wp2_with fail
          refine (specNumRead_any s w5 (by omega)).mono ?_
          rintro e w6 ⟨p6, b6⟩
          have b16 := b15.trans (b6.mono b15.size)
          obtain rfl : e = .returned (.tuple #[.int .i64 x, .bool true]) := readPost_same p6 (.inl ⟨x, HX.out, rfl⟩)
          clear p6
          have hb : (Lib.itoa x == s.toList) = true := by rw [ByteArray.toList_eq, HX.out.2.2]; simp
          go_wp2_with fail
          refine (implNumText_any x w6 (by omega) (by omega) (hv.out.below b16).1).mono ?_
          rintro e w7 ⟨rfl, b7⟩
          have b17 := b16.trans (b7.mono b16.size)
          go_wp2
          go_ret
          exact ⟨rfl, b17⟩
        · have HX := Lib.hid hx
          clear hx
          go_wp2_with fail
          refine (specNumRead_any s w5 (by omega)).mono ?_
          rintro e w6 ⟨p6, b6⟩
          have b16 := b15.trans (b6.mono b15.size)
          obtain rfl : e = .returned (.tuple #[.int .i64 0, .bool false]) := readPost_same p6 (.inr ⟨HX.out, rfl⟩)
          clear p6
          go_wp2
          go_ret
          exact ⟨rfl, b16⟩

/-! ### THE ROW's STEP: WRITTEN OUT: LEAVE IT -/
theorem door_met (os : Os) (args : Array Value) : laidMetH Tryd.prog Rows.fnNumbersBackRow.laid ((World.doorLaid Tryd.prog 62 os).forCall (fun _ _ => 0) ⟨#[], args, []⟩).memory :=
  laidMetH_of_parts3 (fuel := 8) (laidMet_of_run' 8 (by kernel_rfl) (by kernel_rfl)) (by kernel_rfl) (by kernel_rfl)

set_option maxRecDepth 100000 in
theorem lifted (os : Os) (started : os.Started) (H : Type) (enc : TypeId × Value → H) :
    ReturnsInHanded {} Tryd.checked os 3 .any (fun w args => (Rows.fnNumbersBackSpec.pre enc Tryd.prog Tryd.f3 [] false w args ∧ laidMetH Tryd.prog Rows.fnNumbersBackRow.laid w) ∧ sizedMet enc Tryd.prog Tryd.f3 (OpenSpec.ofChange Rows.fnNumbersBackSpec) false w args) (Rows.fnNumbersBackSpec.post enc Tryd.prog Tryd.f3 false true false false) := by
  refine returnsInHanded_of_change_and (C := Tryd.checked) (X := fun w _ => laidMetH Tryd.prog Rows.fnNumbersBackRow.laid w) (fun _ _ _ hh h => h.of_heap hh) own started (by kernel_rfl) Tryd.func3
    (ChangeSpec.witness_shaped (enc := enc) (C := Tryd.checked) (os := os) (X := fun w _ => laidMetH Tryd.prog Rows.fnNumbersBackRow.laid w) false (World.doorLaid Tryd.prog 62 os) #[.slice none 0 0] 8 rfl (World.shaped_of_RefB (by kernel_rfl) (by kernel_rfl)) (by kernel_rfl) (by kernel_rfl) (by kernel_rfl) (door_met os _)) ?_
  intro W base args ds gs before hval0 hW _ _ hL _
  have hval : ∀ (j : Nat) t v, Tryd.f3.params[j]? = some t → args[j]? = some v → Value.okWide Tryd.prog W .any base t v := hval0
  have hW' := hW
  obtain ⟨p, q, hA0, hV, rfl, hfz, hnd⟩ := hW
  have hA : DataW.TrodAll enc Tryd.prog W 0 (fun _ => true) true Tryd.f3.params.toList args.toList ds p := hA0
  rw [Tryd.params3] at hA hval
  obtain ⟨v0, vs0, d0, ds0, p0, q0, hargs, rfl, rfl, h0, r0⟩ := trodAll_cons hA
  obtain ⟨rfl, rfl, rfl⟩ := trodAll_nil r0
  obtain rfl : args = #[v0] := by cases args; simp_all
  obtain ⟨rfl, rfl⟩ := trodVars_none hV
  obtain ⟨a0, len0, cap0, rfl⟩ := okWide_slice Tryd.underlying22 (hval 0 22 v0 rfl rfl)
  have k0 := h0
  have lt0 : ∀ x ∈ p0, x.block < W.heap.size := by obtain ⟨m, hm⟩ := k0; exact DataW.trod_lt m _ _ _ hm
  obtain ⟨z0, w0⟩ : ∃ zs, IsRow .u8 W a0 len0 cap0 zs := by
    obtain ⟨fuel, hf⟩ := h0
    rcases open_ints Tryd.underlying22 Tryd.underlying5 (by kernel_rfl) hf with ⟨hcs, _⟩ | ⟨x, l, c, zs, hcs, _, hl, hm, hz, _, hcell, hwz⟩
    · simp [Value.cells] at hcs
      obtain ⟨rfl, rfl, rfl⟩ := hcs
      exact ⟨[], .inl ⟨rfl, rfl, rfl, rfl⟩⟩
    · simp [Value.cells] at hcs
      obtain ⟨rfl, rfl, rfl⟩ := hcs
      exact ⟨zs, .inr ⟨_, rfl, hl, hm, by simpa using hz, hcell, hwz⟩⟩
  clear hA0 hval0
  refine (walk a0 len0 cap0 z0 W w0 hL).mono fun e W' ⟨he, bel⟩ => ?_
  subst he
  exact ⟨_, rfl, _, _, _, [], _, [], hW', trodAll_mk1 (shut_bool Tryd.underlying4 _), (trodAll_cons_mk (Below.trod laidOut (by kernel_rfl) (of_decide_eq_true (by kernel_rfl)) k0 bel lt0) trodAll_mk0), rfl, bel.frame _, fun h => by cases h⟩

theorem over : Rows.fnNumbersBackRow.holds Tryd.pinned (OpenSpec.ofChange Rows.fnNumbersBackSpec) :=
  OpenClaim.holds_of_wide 3 Tryd.f3 rfl rfl rfl rfl rfl rfl rfl ⟨rfl, rfl, rfl, rfl, rfl⟩ rfl rfl rfl rfl rfl (by kernel_rfl) Tryd.func3 (by kernel_rfl)
    (of_decide_eq_true (by kernel_rfl)) (by unfold Func.isWrapper; first | (rw [if_pos (by decide +kernel)]; kernel_rfl) | (rw [if_neg (by decide +kernel)]; exact ⟨rfl, rfl⟩))
    (fun os started H enc _ => lifted os started H enc)

theorem row_proved : Rows.FnNumbersBackSaid :=
  over

/-- The statement. -/
theorem proved : Rows.FnNumbersBackCardSaid :=
  Claim7.holds_tied_plain_at .later [] [.data, .data, .data, .sentinel, .sentinel] true (true, "cc588787fa976497038c33842c9259f35e7faa3b140aefb041ab1726b5a3229e") true
    row_proved (fun _ h => by cases h) (by kernel_rfl) (fun _ h => by cases h) fnNumbersBack_row_tie rfl ⟨rfl, rfl⟩ (by kernel_rfl) rfl
    (fun f fn hf hfn => by
      obtain rfl : f = 3 := Option.some.inj ((show Tryd.prog.funcNamed "loop.example/g00640/laws.FnNumbersBack" = some 3 by kernel_rfl).symm.trans hf) |>.symm
      obtain rfl : fn = Tryd.f3 := (Option.some.inj (Tryd.func3.symm.trans hfn)).symm
      exact ⟨by kernel_rfl, fun j t ht => by
        rw [Tryd.params3] at ht
        have hm : t ∈ [22] := by simpa using Array.mem_of_getElem? ht
        have hall : ([22].all fun u => !Tryd.prog.wantsStandIn u) = true := by kernel_rfl
        exact (show Tryd.prog.wantsStandIn t = false by simpa using List.all_eq_true.1 hall t hm)⟩)
    (by kernel_rfl)
#print axioms proved
end Go.Proofs.YtjilfddkkajkcaaDoor.fnNumbersBack
