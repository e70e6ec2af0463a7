/-
  For every slice of bytes the law FnLinked returns true: of the network and the list of numbers drawn from it the program's RouteOk is the specification's; a route cut in two at any of its nodes is linked again to itself, and both parts are together as long (no condition).
-/
import Derived.Test.YtdobiapnkdgjoaaRows
import Derived.WalkKit
import Derived.ProofKit
import Derived.OpenShut
import Derived.ShutString
import Derived.ChangeOld
import Derived.Below
import Derived.Test.YtdobiapnkdgjoaaDistLaw
import Derived.Test.YtdobiapnkdgjoaaRouteSum
import Derived.Test.YtdobiapnkdgjoaaCollect
import Derived.Test.YtdobiapnkdgjoaaLinkLaw
import Derived.Test.YtdobiapnkdgjoaaDrawRoute
namespace Go.Proofs.Ytdobiapnkdgjoaa.fnLinked
open Go.ChangeShapes Go.WideShapes Go.ChangeAt Go.RowKit
open Go.ChangeMaps (open_string shut_string)
set_option linter.unusedVariables false

theorem own : ownKnob Try.prog.godebug = none := by kernel_rfl
theorem laidOut : laidOutB Try.prog = true := by kernel_rfl

/-- WHAT THE WALK IS TOLD OF A SLICE OF INTEGERS THAT CAME IN: it is nil; or it leads to a row of 'cap' cells, the numbers 'zs' (the first 'len' are its elements, the rest its spare room), each fitting its kind. -/
def IsRow (k : IntKind) (w : World) (a : Option Addr) (len cap : Nat) (zs : List Int) : Prop :=
  (a = none ∧ len = 0 ∧ cap = 0 ∧ zs = []) ∨
  ∃ x, a = some x ∧ len ≤ cap ∧ cap ≤ maxLen ∧ zs.length = cap ∧ (∀ i, i < zs.length → w.cell? (x.add i) = some (.int k (zs.getD i 0))) ∧ ∀ n ∈ zs, (Lit.int k n).wf = true

theorem isInts_drop {w : World} {b off : Nat} {ys : List Int} (i : Nat) (hi : i < ys.length) (h : IsInts w (some ⟨b, off, none⟩) ys) : IsInts w (some ⟨b, off + i, none⟩) (ys.drop i) := fun _ => by
  obtain ⟨b', off', e, hb, hc⟩ := h (by omega)
  cases e
  refine ⟨b, off + i, rfl, hb, fun j hj => ?_⟩
  rw [List.length_drop] at hj
  rw [zg_drop, ← hc (i + j) (by omega)]
  exact congrArg w.cell? (congrArg (fun o => (⟨b, o, none⟩ : Addr)) (by omega))
theorem isInts_take {w : World} {b off : Nat} {ys : List Int} (i : Nat) (h : IsInts w (some ⟨b, off, none⟩) ys) : IsInts w (some ⟨b, off, none⟩) (ys.take i) := fun hp => by
  rw [List.length_take] at hp
  obtain ⟨b', off', e, hb, hc⟩ := h (by omega)
  cases e
  refine ⟨b, off, rfl, hb, fun j hj => ?_⟩
  rw [List.length_take] at hj
  rw [zg_take ys (by omega)]; exact hc j (by omega)
/-- What the round reads: the network's box, the route, the route linked again. -/
abbrev LvS (base : World) (x : Nat) (A B : Option Addr) (ca cb : Nat) (ps : List (Int × Int)) (rs : List A3) (D : Option Addr) (zs : List Int) (R : Option Addr) (w : World) : Prop :=
  DvS base x A B ca cb ps rs D zs w ∧ IsInts w R zs
section
variable {base w w' : World} {x : Nat} {A B : Option Addr} {ca cb : Nat} {ps : List (Int × Int)} {rs : List A3} {D R : Option Addr} {zs : List Int}
theorem LvS.under (hb : Below w.heap.size w w') (h : LvS base x A B ca cb ps rs D zs R w) : LvS base x A B ca cb ps rs D zs R w' := ⟨DvS.under hb h.1, h.2.below hb⟩
theorem LvS.drew (h : LvS base x A B ca cb ps rs D zs R w) : LvS base x A B ca cb ps rs D zs R w.drew := ⟨DvS.drew h.1, h.2⟩
theorem LvS.n (h : LvS base x A B ca cb ps rs D zs R w) : IsPts w A ps ∧ IsArcs w B rs := DvS.n h.1
theorem LvS.d (h : LvS base x A B ca cb ps rs D zs R w) : IsInts w D zs := DvS.d h.1
theorem LvS.r (h : LvS base x A B ca cb ps rs D zs R w) : IsInts w R zs := h.2
end

/-! ### STEP 1: THE WALK: the Go text returns true, AND WRITES NOTHING THAT WAS THERE: 'Below w.heap.size w w'' (Derived/Below.lean: '.refl', '.alloc', '.drew', '.setCell' at a new block, '.trans'). Open each 'IsRow' by 'rcases' AHEAD of 'go_enter'; part every test ahead of the walk. -/
set_option maxHeartbeats 4000000 in
set_option maxRecDepth 100000 in
theorem walk (a0 : Option Addr) (len0 cap0 : Nat) (z0 : List Int) (w : World) (w0 : IsRow .u8 w a0 len0 cap0 z0) :
    Calls Try.prog 5 #[.slice a0 len0 cap0] w fun e w' => e = .returned (.bool true) ∧ Below w.heap.size w w' := by
  have hcode := codeIn_of w0
  clear w0
  by_cases hbig : 1048576 < len0
  · have hd : decide ((1048576 : Int) < len0) = true := by simp; omega
    go_enter Try.func5, Try.ntmps5
    go_wp2_with (go_at_call 13; refine (big_any _ _ _ _).mono ?_; rintro e w' ⟨rfl, rfl⟩)
    go_ret
    exact ⟨rfl, Below.refl _ _⟩
  · have hd : decide ((1048576 : Int) < len0) = false := by simp; omega
    go_enter Try.func5, Try.ntmps5
    go_wp2_with fail
    refine (big_any _ _ _ _).mono ?_; rintro e w' ⟨rfl, rfl⟩
    go_wp2_with fail
    refine (drawRouteOk_any w a0 len0 cap0 hcode (by omega)).mono ?_
    rintro e w1 ⟨ad, B, ca, cb, ps, rs, D, cd, zs, rfl, h2, h21, h100, hz1, hz8, hcd, IP, IA, IZ, b1⟩
    have X := Pair.new w1 27 (.slice (some ad) ps.length ca) (.slice B rs.length cb)
    have k1 := below1 w1 (.cells #[.slice (some ad) ps.length ca, .slice B rs.length cb] 27)
    have T : DvS w w1.heap.size (some ad) B ca cb ps rs D zs (w1.alloc (.cells #[.slice (some ad) ps.length ca, .slice B rs.length cb] 27)) := ⟨X.cells.1, X.cells.2.1, IP.below k1, IA.below k1, IZ.below k1, b1.trans (k1.mono b1.size)⟩
    clear k1 X IP IA IZ b1
    have HRO : Hid (∀ (w : World), IsPts w (some ad) ps → IsArcs w B rs → IsInts w D zs → Calls Try.prog 19 #[.agg #[.slice (some ad) ps.length ca, .slice B rs.length cb], .slice D zs.length cd] w (fun e w' => e = .returned (.bool (rtB ps rs zs)) ∧ Below w.heap.size w w')) := Lib.hid (fun w g1 g2 g3 => implRouteOk_any (some ad) B ca cb ps rs D cd zs w (by omega) (by omega) (by omega) g1 g2 g3)
    have HSO : Hid (∀ (w : World), IsPts w (some ad) ps → IsArcs w B rs → IsInts w D zs → Calls Try.prog 29 #[.agg #[.slice (some ad) ps.length ca, .slice B rs.length cb], .slice D zs.length cd] w (fun e w' => e = .returned (.bool (rtB ps rs zs)) ∧ Below w.heap.size w w')) := Lib.hid (fun w g1 g2 g3 => specRouteOk_any (some ad) B ca cb ps rs D cd zs w (by omega) (by omega) (by omega) g1 g2 g3)
    cases hq : rtB ps rs zs with
    | false =>
      rw [hq] at HRO HSO
      have HRL : Hid (∀ (w : World), IsPts w (some ad) ps → IsArcs w B rs → IsInts w D zs → Calls Try.prog 20 #[.agg #[.slice (some ad) ps.length ca, .slice B rs.length cb], .slice D zs.length cd] w (fun e w' => e = .returned (.int .i64 (-1)) ∧ Below w.heap.size w w')) := Lib.hid (fun w g1 g2 g3 => by
        have h := implRouteLen_any (some ad) B ca cb ps rs D cd zs w (by omega) (by omega) (by omega) g1 g2 g3
        rw [rtLen_no hq] at h; exact h)
      have HRA : Hid (∀ (w : World), IsPts w (some ad) ps → IsArcs w B rs → IsInts w D zs → Calls Try.prog 21 #[.agg #[.slice (some ad) ps.length ca, .slice B rs.length cb], .slice D zs.length cd] w (fun e w' => ∃ A c, e = .returned (.slice A 0 c) ∧ Below w.heap.size w w')) := Lib.hid (fun w g1 g2 g3 => (implRouteArcs_any (some ad) B ca cb ps rs D cd zs w (by omega) (by omega) (by omega) g1 g2 g3).mono fun e w' ⟨A, c, he, _, _, b⟩ => ⟨A, c, by rw [he, rtA_no hq]; rfl, b⟩)
      clear hq
      go_wp2_with fail
      go_region_held3 (fun w' => DvS w w1.heap.size (some ad) B ca cb ps rs D zs w')
        (first | exact DvS.drew T | (refine DvS.under (by assumption) ?_; assumption))
        (first
          | (go_at_call 19; refine (HRO.out _ (DvS.n (by assumption)).1 (DvS.n (by assumption)).2 (DvS.d (by assumption))).mono ?_; rintro e w2 ⟨rfl, b2⟩)
          | (go_at_call 29; refine (HSO.out _ (DvS.n (by assumption)).1 (DvS.n (by assumption)).2 (DvS.d (by assumption))).mono ?_; rintro e w3 ⟨rfl, b3⟩))
      rename_i hU
      clear T b2 b3 HRO
      obtain ⟨x0, x1⟩ := DvS.cells hU
      go_wp2_with fail
      clear x0 x1
      refine (HSO.out _ (DvS.n hU).1 (DvS.n hU).2 (DvS.d hU)).mono ?_; rintro e w4 ⟨rfl, b4⟩
      replace hU := DvS.under b4 hU
      clear b4 HSO
      obtain ⟨x0, x1⟩ := DvS.cells hU
      go_wp2_with fail
      clear x0 x1
      refine (HRL.out _ (DvS.n hU).1 (DvS.n hU).2 (DvS.d hU)).mono ?_; rintro e w5 ⟨rfl, b5⟩
      replace hU := DvS.under b5 hU
      clear b5 HRL
      obtain ⟨x0, x1⟩ := DvS.cells hU
      go_wp2_with fail
      clear x0 x1
      refine (HRA.out _ (DvS.n hU).1 (DvS.n hU).2 (DvS.d hU)).mono ?_; rintro e w6 ⟨A6, c6, rfl, b6⟩
      have kk := DvS.bel (DvS.under b6 hU)
      go_wp2
      go_ret
      exact ⟨rfl, kk⟩
    | true =>
      rw [hq] at HRO HSO
      obtain ⟨gb, go, rfl, -, -⟩ := (DvS.d T).at_ (k := 0) (by omega)
      have HCUT := Lib.hid (fun k (hk : k < zs.length) => rtLen_cut hq hk)
      have HBD := Lib.hid (rtLen_bd hq)
      have HR1 : Hid (∀ k, k < zs.length → ∀ (w : World), IsPts w (some ad) ps → IsArcs w B rs → IsInts w (some ⟨gb, go, none⟩) zs → Calls Try.prog 20 #[.agg #[.slice (some ad) ps.length ca, .slice B rs.length cb], .slice (some ⟨gb, go, none⟩) (k + 1) cd] w (fun e w' => e = .returned (.int .i64 (rtLen ps rs (zs.take (k + 1)))) ∧ Below w.heap.size w w')) := Lib.hid (fun k hk w g1 g2 g3 => by
        have h := implRouteLen_any (some ad) B ca cb ps rs (some ⟨gb, go, none⟩) cd (zs.take (k + 1)) w (by omega) (by omega) (by rw [List.length_take]; omega) g1 g2 (isInts_take _ g3)
        rw [List.length_take, show min (k + 1) zs.length = k + 1 by omega] at h; exact h)
      have HR2 : Hid (∀ k, k < zs.length → ∀ (w : World), IsPts w (some ad) ps → IsArcs w B rs → IsInts w (some ⟨gb, go, none⟩) zs → Calls Try.prog 20 #[.agg #[.slice (some ad) ps.length ca, .slice B rs.length cb], .slice (some ⟨gb, go + k, none⟩) (zs.length - k) (cd - k)] w (fun e w' => e = .returned (.int .i64 (rtLen ps rs (zs.drop k))) ∧ Below w.heap.size w w')) := Lib.hid (fun k hk w g1 g2 g3 => by
        have h := implRouteLen_any (some ad) B ca cb ps rs (some ⟨gb, go + k, none⟩) (cd - k) (zs.drop k) w (by omega) (by omega) (by rw [List.length_drop]; omega) g1 g2 (isInts_drop k hk g3)
        rw [List.length_drop] at h; exact h)
      have HR3 : Hid (∀ (A : Option Addr) (c : Nat) (w : World), IsPts w (some ad) ps → IsArcs w B rs → IsInts w A zs → Calls Try.prog 20 #[.agg #[.slice (some ad) ps.length ca, .slice B rs.length cb], .slice A zs.length c] w (fun e w' => e = .returned (.int .i64 (rtLen ps rs zs)) ∧ Below w.heap.size w w')) := Lib.hid (fun A c w g1 g2 g3 => implRouteLen_any (some ad) B ca cb ps rs A c zs w (by omega) (by omega) (by omega) g1 g2 g3)
      have HLK : Hid (∀ k, k < zs.length → ∀ (w : World), IsInts w (some ⟨gb, go, none⟩) zs → Calls Try.prog 24 #[.slice (some ⟨gb, go, none⟩) (k + 1) cd, .slice (some ⟨gb, go + k, none⟩) (zs.length - k) (cd - k)] w (fun e w' => ∃ A c, e = .returned (.tuple #[.slice A zs.length c, .bool true]) ∧ IsInts w' A zs ∧ Below w.heap.size w w')) := Lib.hid (fun k hk w g => by
        have h := implLinked_any (some ⟨gb, go, none⟩) (some ⟨gb, go + k, none⟩) cd (cd - k) (zs.take (k + 1)) (zs.drop k) w (by rw [List.length_take]; omega) (by rw [List.length_drop]; omega) (by rw [List.length_take]; omega) (by rw [List.length_drop]; omega) (isInts_take _ g) (isInts_drop k hk g)
        rw [(lnk_cut hk).1, (lnk_cut hk).2, List.length_take, List.length_drop, show min (k + 1) zs.length = k + 1 by omega] at h
        exact h.mono fun e w' ⟨A, c, he, _, o, b⟩ => ⟨A, c, he, o.ints, b⟩)
      have HLN : Hid (∀ (A : Option Addr) (c : Nat) (w : World), IsInts w (some ⟨gb, go, none⟩) zs → Calls Try.prog 24 #[.slice (some ⟨gb, go, none⟩) zs.length cd, .slice A 0 c] w (fun e w' => ∃ A c, e = .returned (.tuple #[.slice A 0 c, .bool false]) ∧ Below w.heap.size w w')) := Lib.hid (fun A c w g => by
        have h := implLinked_any (some ⟨gb, go, none⟩) A cd c zs [] w (by omega) (by simp) hcd (by simp) g (fun hp => by simp at hp)
        rw [(lnk_none zs).1, (lnk_none zs).2] at h
        exact h.mono fun e w' ⟨A, c, he, _, o, b⟩ => ⟨A, c, he, b⟩)
      clear hq
      go_wp2_with fail
      go_region_held3 (fun w' => DvS w w1.heap.size (some ad) B ca cb ps rs (some ⟨gb, go, none⟩) zs w')
        (first | exact DvS.drew T | (refine DvS.under (by assumption) ?_; assumption))
        (first
          | (go_at_call 19; refine (HRO.out _ (DvS.n (by assumption)).1 (DvS.n (by assumption)).2 (DvS.d (by assumption))).mono ?_; rintro e w2 ⟨rfl, b2⟩)
          | (go_at_call 29; refine (HSO.out _ (DvS.n (by assumption)).1 (DvS.n (by assumption)).2 (DvS.d (by assumption))).mono ?_; rintro e w3 ⟨rfl, b3⟩))
      rename_i hU
      clear T b2 b3 HRO
      obtain ⟨x0, x1⟩ := DvS.cells hU
      go_wp2_with fail
      clear x0 x1
      refine (HSO.out _ (DvS.n hU).1 (DvS.n hU).2 (DvS.d hU)).mono ?_; rintro e w4 ⟨rfl, b4⟩
      replace hU := DvS.under b4 hU
      clear b4 HSO
      go_wp2_with fail
      go_loopw [5] (fun i wr => ∃ k : Nat, k ≤ zs.length ∧ i = .int .i64 k ∧ DvS w w1.heap.size (some ad) B ca cb ps rs (some ⟨gb, go, none⟩) zs wr) (fun i _ => zs.length - (intOf i).toNat)
      case atStart => exact ⟨0, by omega, rfl, hU⟩
      case round =>
        clear hU
        obtain ⟨k, hk, rfl, T⟩ := hrel
        by_cases hlt : k < zs.length
        · have H1 := Lib.hid (HR1.out k hlt)
          have H2 := Lib.hid (HR2.out k hlt)
          have H3 := Lib.hid (HR3.out)
          have HL := Lib.hid (HLK.out k hlt)
          have hcut := HCUT.out k hlt
          have hbd := HBD.out
          generalize rtLen ps rs (zs.take (k + 1)) = L1 at H1 hcut
          generalize rtLen ps rs (zs.drop k) = L2 at H2 hcut
          generalize rtLen ps rs zs = L at H3 hcut hbd
          have hck : ¬ cd = k := by omega
          have hck2 : k < cd := by omega
          have hck3 : k + 1 ≤ cd := by omega
          have hwl : IntKind.i64.wrap (L1 + L2) = L := by rw [IntWalk.i64_in _ (by omega)]; exact hcut
          have hw1 : IntKind.i64.wrap ((k : Int) + 1) = (k : Int) + 1 := IntWalk.i64_in _ (by omega)
          have hw2 : (0 : Int) ≤ (k : Int) + 1 := by omega
          have hw3 : ((k : Int) + 1).toNat = k + 1 := by omega
          have hw4 : (k : Int) + 1 ≤ (cd : Int) := by omega
          clear hcut hbd
          go_wp2_with fail
          go_region_held3 (fun w' => DvS w w1.heap.size (some ad) B ca cb ps rs (some ⟨gb, go, none⟩) zs w')
            (first | exact DvS.drew T | (refine DvS.under (by assumption) ?_; assumption))
            ((go_at_call 24; refine (HL.out _ (DvS.d (by assumption))).mono ?_; rintro e w5 ⟨A5, c5, rfl, I5, b5⟩))
          rename_i hU
          have U : LvS w w1.heap.size (some ad) B ca cb ps rs (some ⟨gb, go, none⟩) zs A5 w5 := ⟨hU, I5⟩
          clear T hU I5 b5
          go_wp2_with fail
          go_region_held3 (fun w' => LvS w w1.heap.size (some ad) B ca cb ps rs (some ⟨gb, go, none⟩) zs A5 w')
            (first | exact LvS.drew U | (refine LvS.under (by assumption) ?_; assumption))
            (first
              | (go_at_call 17; refine (same_bel A5 (some ⟨gb, go, none⟩) c5 cd zs.length zs _ (by omega) rfl (LvS.r (by assumption)) (LvS.d (by assumption))).mono ?_; rintro e w6 ⟨rfl, b6⟩)
              | (go_at_call 20; (have J8 := b8); refine (H3.out A5 c5 _ (LvS.n (by assumption)).1 (LvS.n (by assumption)).2 (LvS.r (by assumption))).mono ?_; rintro e w9 ⟨rfl, b9⟩)
              | (go_at_call 20; (have J7 := b7); refine (H2.out _ (LvS.n (by assumption)).1 (LvS.n (by assumption)).2 (LvS.d (by assumption))).mono ?_; rintro e w8 ⟨rfl, b8⟩)
              | (go_at_call 20; refine (H1.out _ (LvS.n (by assumption)).1 (LvS.n (by assumption)).2 (LvS.d (by assumption))).mono ?_; rintro e w7 ⟨rfl, b7⟩))
          rename_i hU
          replace hU := hU.1
          clear U
          go_wp2
          go_roundw
          case rel => exact ⟨k + 1, by omega, by go_num, hU⟩
          case measure => simp [intOf]; omega
        · obtain rfl : k = zs.length := by omega
          have kb := below1 wr (.cells #[] 3)
          go_wp2_with fail
          refine (HLN.out _ _ _ ((DvS.d T).below kb)).mono ?_; rintro e w10 ⟨A10, c10, rfl, b10⟩
          have kk := DvS.bel (DvS.under b10 (DvS.under kb T))
          go_wp2
          go_ret
          exact ⟨rfl, kk⟩

/-! ### THE ROW's STEP: WRITTEN OUT: LEAVE IT -/
set_option maxRecDepth 100000 in
theorem lifted (os : Os) (started : os.Started) (H : Type) (enc : TypeId × Value → H) :
    ReturnsInHanded {} Try.checked os 5 .any (Rows.fnLinkedSpec.pre6 enc Try.prog Try.f5 Rows.fnLinkedRow.domain false) (Rows.fnLinkedSpec.post enc Try.prog Try.f5 false true false false) := by
  refine returnsInHanded_of_change (C := Try.checked) own started (by kernel_rfl) Try.func5
    (ChangeSpec.witness6 (enc := enc) (C := Try.checked) false ⟨#[], #[.slice none 0 0], []⟩ 8 (by kernel_rfl) (by kernel_rfl) (by kernel_rfl) (by kernel_rfl)) ?_
  intro W base args ds gs before hval0 hW hcnd _
  have hval : ∀ (j : Nat) t v, Try.f5.params[j]? = some t → args[j]? = some v → Value.okWide Try.prog W .any base t v := hval0
  have hW' := hW
  obtain ⟨p, q, hA0, hV, rfl, hfz, hnd⟩ := hW
  have hA : DataW.TrodAll enc Try.prog W 0 (fun _ => true) true Try.f5.params.toList args.toList ds p := hA0
  rw [Try.params5] at hA hval
  obtain ⟨v0, vs0, d0, ds0, p0, q0, hargs, rfl, rfl, h0, r0⟩ := trodAll_cons hA
  obtain ⟨rfl, rfl, rfl⟩ := trodAll_nil r0
  obtain rfl : args = #[v0] := by cases args; simp_all
  obtain ⟨rfl, rfl⟩ := trodVars_none hV
  obtain ⟨a0, len0, cap0, rfl⟩ := okWide_slice Try.underlying22 (hval 0 22 v0 rfl rfl)
  have k0 := h0
  have lt0 : ∀ x ∈ p0, x.block < W.heap.size := by obtain ⟨m, hm⟩ := k0; exact DataW.trod_lt m _ _ _ hm
  obtain ⟨z0, w0⟩ : ∃ zs, IsRow .u8 W a0 len0 cap0 zs := by
    obtain ⟨fuel, hf⟩ := h0
    rcases open_ints Try.underlying22 Try.underlying5 (by kernel_rfl) hf with ⟨hcs, _⟩ | ⟨x, l, c, zs, hcs, _, hl, hm, hz, _, hcell, hwz⟩
    · simp [Value.cells] at hcs
      obtain ⟨rfl, rfl, rfl⟩ := hcs
      exact ⟨[], .inl ⟨rfl, rfl, rfl, rfl⟩⟩
    · simp [Value.cells] at hcs
      obtain ⟨rfl, rfl, rfl⟩ := hcs
      exact ⟨zs, .inr ⟨_, rfl, hl, hm, by simpa using hz, hcell, hwz⟩⟩
  clear hA0 hval0
  refine (walk a0 len0 cap0 z0 W w0).mono fun e W' ⟨he, bel⟩ => ?_
  subst he
  exact ⟨_, rfl, _, _, _, [], _, [], hW', trodAll_mk1 (shut_bool Try.underlying4 _), (trodAll_cons_mk (Below.trod laidOut (by kernel_rfl) (of_decide_eq_true (by kernel_rfl)) k0 bel lt0) trodAll_mk0), rfl, bel.frame _, fun h => by cases h⟩

theorem over : Rows.fnLinkedRow.holds Try.pinned (OpenSpec.ofChange Rows.fnLinkedSpec) :=
  OpenClaim.holds_of_wide 5 Try.f5 rfl rfl rfl rfl rfl rfl rfl ⟨rfl, rfl, rfl, rfl, rfl⟩ rfl rfl rfl rfl rfl (by kernel_rfl) Try.func5 (by kernel_rfl)
    (of_decide_eq_true (by kernel_rfl)) (by unfold Func.isWrapper; first | (rw [if_pos (by decide +kernel)]; kernel_rfl) | (rw [if_neg (by decide +kernel)]; exact ⟨rfl, rfl⟩))
    (fun os started H enc _ => lifted os started H enc)

/-- ████ THE STATEMENT ████ -/
theorem proved : Rows.FnLinkedSaid := over
#print axioms proved
end Go.Proofs.Ytdobiapnkdgjoaa.fnLinked
