/-
  For every slice of items the law FnExactQueueOk returns true: the program's QueueOk answers as the specification's and does not change its argument (no condition).
-/
import Derived.Test.YtdobiapnkdgjoaaRows
import Derived.WalkKit
import Derived.ProofKit
import Derived.OpenShut
import Derived.ShutString
import Derived.ChangeOld
import Derived.Below
import Derived.Test.YtdobiapnkdgjoaaItemsOpen
import Derived.Test.YtdobiapnkdgjoaaQueueOk
namespace Go.Proofs.Ytdobiapnkdgjoaa.fnExactQueueOk
open Go.ChangeShapes Go.WideShapes Go.ChangeAt Go.RowKit
open Go.ChangeMaps (open_string shut_string)
set_option linter.unusedVariables false

theorem own : ownKnob Try.prog.godebug = none := by kernel_rfl
theorem laidOut : laidOutB Try.prog = true := by kernel_rfl

/-! ### The walk. -/
set_option maxHeartbeats 4000000 in
set_option maxRecDepth 100000 in
theorem walk (A0 : Option Addr) (ca0 : Nat) (ps0 : List (Int × Int)) (w : World) (w0 : ItemsIn w A0 ca0 ps0) :
    Calls Try.prog 8 #[.slice A0 ps0.length ca0] w fun e w' => e = .returned (.bool true) ∧ Below w.heap.size w w' := by
  obtain ⟨⟨hc0, hc1⟩, hI, hw⟩ := w0
  by_cases hbig : 1048576 < ps0.length
  · have H := Lib.hid (szn_no (l := 1048576) (n := ps0.length) (by omega))
    have HZ := Lib.hid (szItemS_any A0 ps0.length ca0 1048576 (by omega) (by omega) (by omega) w)
    rw [H.out] at HZ
    go_enter Try.func8, Try.ntmps8
    go_wp2_with fail
    refine HZ.out.mono ?_; rintro e w' ⟨rfl, rfl⟩
    go_wp2
    go_ret
    exact ⟨rfl, Below.refl _ _⟩
  have hn : ps0.length ≤ 2097152 := by omega
  have hid : ∀ i, i < ps0.length → In64 (idg ps0 i) := fun i hi => (hw _ (show ptg ps0 i ∈ ps0 by unfold ptg; rw [List.getD_eq_getElem?_getD, List.getElem?_eq_getElem hi]; exact List.getElem_mem hi)).2
  have HID := Lib.hid hid
  have H := Lib.hid (szn_yes (l := 1048576) (n := ps0.length) (by omega))
  have HZ := Lib.hid (szItemS_any A0 ps0.length ca0 1048576 (by omega) (by omega) (by omega) w)
  rw [H.out] at HZ
  have hz : ¬ ((1048576 : Int) - ps0.length < 0) := by omega
  clear hw hid H
  go_enter Try.func8, Try.ntmps8
  go_wp2_with fail
  refine HZ.out.mono ?_; rintro e w' ⟨rfl, rfl⟩
  go_wp2_with fail
  refine (toItemS_any A0 ca0 ps0 w hn hI).mono ?_; rintro e w1 ⟨rfl, r1, b1⟩
  have i1 := ItsRow.is r1
  go_wp2_with fail
  refine (specQueueOk_any _ _ ps0 w1 hn i1).mono ?_; rintro e w2 ⟨rfl, b2⟩
  have K := b1.trans (b2.mono b1.size)
  clear r1 i1 b1 b2
  go_wp2_with fail
  refine (toItemS_any A0 ca0 ps0 w2 hn (hI.below K)).mono ?_; rintro e w3 ⟨rfl, r3, b3⟩
  have i3 := ItsRow.is r3
  replace K := K.trans (b3.mono K.size)
  clear r3 b3
  go_wp2_with fail
  refine (implQueueOk_any _ _ ps0 w3 hn i3 HID.out).mono ?_; rintro e w4 ⟨rfl, b4⟩
  replace i3 := i3.below b4
  replace K := K.trans (b4.mono K.size)
  clear b4
  go_wp2_with fail
  refine (toItemS_any A0 ca0 ps0 w4 hn (hI.below K)).mono ?_; rintro e w5 ⟨rfl, r5, b5⟩
  have i5 := ItsRow.is r5
  replace i3 := i3.below b5
  replace K := K.trans (b5.mono K.size)
  clear r5 b5
  go_wp2_with fail
  refine (eqItemS_same _ _ _ _ ps0 w5 hn i3 i5).mono ?_; rintro e w6 ⟨rfl, b6⟩
  replace K := K.trans (b6.mono K.size)
  go_wp2
  go_ret
  exact ⟨rfl, K⟩

/-! ### The row's step. -/
set_option maxRecDepth 100000 in
theorem lifted (os : Os) (started : os.Started) (H : Type) (enc : TypeId × Value → H) :
    ReturnsInHanded {} Try.checked os 8 .any (Rows.fnExactQueueOkSpec.pre6 enc Try.prog Try.f8 Rows.fnExactQueueOkRow.domain false) (Rows.fnExactQueueOkSpec.post enc Try.prog Try.f8 false true false false) := by
  refine returnsInHanded_of_change (C := Try.checked) own started (by kernel_rfl) Try.func8
    (ChangeSpec.witness6 (enc := enc) (C := Try.checked) false ⟨#[], #[.slice none 0 0], []⟩ 8 (by kernel_rfl) (by kernel_rfl) (by kernel_rfl) (by kernel_rfl)) ?_
  intro W base args ds gs before hval0 hW hcnd _
  have hval : ∀ (j : Nat) t v, Try.f8.params[j]? = some t → args[j]? = some v → Value.okWide Try.prog W .any base t v := hval0
  have hW' := hW
  obtain ⟨p, q, hA0, hV, rfl, hfz, hnd⟩ := hW
  have hA : DataW.TrodAll enc Try.prog W 0 (fun _ => true) true Try.f8.params.toList args.toList ds p := hA0
  rw [Try.params8] at hA hval
  obtain ⟨v0, vs0, d0, ds0, p0, q0, hargs, rfl, rfl, h0, r0⟩ := trodAll_cons hA
  obtain ⟨rfl, rfl, rfl⟩ := trodAll_nil r0
  obtain rfl : args = #[v0] := by cases args; simp_all
  obtain ⟨rfl, rfl⟩ := trodVars_none hV
  have k0 := h0
  have lt0 : ∀ x ∈ p0, x.block < W.heap.size := by obtain ⟨m, hm⟩ := k0; exact DataW.trod_lt m _ _ _ hm
  obtain ⟨A0, ca0, ps0, rfl, w0⟩ := opens_items (hval 0 60 v0 rfl rfl) h0
  clear hA0 hval0
  refine (walk A0 ca0 ps0 W w0).mono fun e W' ⟨he, bel⟩ => ?_
  subst he
  exact ⟨_, rfl, _, _, _, [], _, [], hW', trodAll_mk1 (shut_bool Try.underlying4 _), (trodAll_cons_mk (Below.trod laidOut (by kernel_rfl) (of_decide_eq_true (by kernel_rfl)) k0 bel lt0) trodAll_mk0), rfl, bel.frame _, fun h => by cases h⟩

theorem over : Rows.fnExactQueueOkRow.holds Try.pinned (OpenSpec.ofChange Rows.fnExactQueueOkSpec) :=
  OpenClaim.holds_of_wide 8 Try.f8 rfl rfl rfl rfl rfl rfl rfl ⟨rfl, rfl, rfl, rfl, rfl⟩ rfl rfl rfl rfl rfl (by kernel_rfl) Try.func8 (by kernel_rfl)
    (of_decide_eq_true (by kernel_rfl)) (by unfold Func.isWrapper; first | (rw [if_pos (by decide +kernel)]; kernel_rfl) | (rw [if_neg (by decide +kernel)]; exact ⟨rfl, rfl⟩))
    (fun os started H enc _ => lifted os started H enc)

/-- ████ THE STATEMENT ████ -/
theorem proved : Rows.FnExactQueueOkSaid := over
#print axioms proved
end Go.Proofs.Ytdobiapnkdgjoaa.fnExactQueueOk
