/-
  For every slice of bytes the law FnRoutes returns true: of the network and the two numbers drawn from it the program's BestRoute is the specification's; it is a route as long as the distance, from the one node to the other, and the rest of it from any of its nodes is the best route from there (no condition).
-/
import Derived.Test.YtdobiapnkdgjoaaRows
import Derived.WalkKit
import Derived.ProofKit
import Derived.OpenShut
import Derived.ShutString
import Derived.ChangeOld
import Derived.Below
import Derived.Test.YtdobiapnkdgjoaaDistLaw
import Derived.Test.YtdobiapnkdgjoaaRouteSum
import Derived.Test.YtdobiapnkdgjoaaCollect
import Derived.Test.YtdobiapnkdgjoaaRouteLaw
import Derived.Test.YtdobiapnkdgjoaaDrawTwo
namespace Go.Proofs.Ytdobiapnkdgjoaa.fnRoutes
open Go.ChangeShapes Go.WideShapes Go.ChangeAt Go.RowKit
open Go.ChangeMaps (open_string shut_string)
set_option linter.unusedVariables false

theorem own : ownKnob Try.prog.godebug = none := by kernel_rfl
theorem laidOut : laidOutB Try.prog = true := by kernel_rfl

/-- WHAT THE WALK IS TOLD OF A SLICE OF INTEGERS THAT CAME IN: it is nil; or it leads to a row of 'cap' cells, the numbers 'zs' (the first 'len' are its elements, the rest its spare room), each fitting its kind. -/
def IsRow (k : IntKind) (w : World) (a : Option Addr) (len cap : Nat) (zs : List Int) : Prop :=
  (a = none ∧ len = 0 ∧ cap = 0 ∧ zs = []) ∨
  ∃ x, a = some x ∧ len ≤ cap ∧ cap ≤ maxLen ∧ zs.length = cap ∧ (∀ i, i < zs.length → w.cell? (x.add i) = some (.int k (zs.getD i 0))) ∧ ∀ n ∈ zs, (Lit.int k n).wf = true

theorem isInts_drop {w : World} {b off : Nat} {ys : List Int} (i : Nat) (hi : i < ys.length) (h : IsInts w (some ⟨b, off, none⟩) ys) : IsInts w (some ⟨b, off + i, none⟩) (ys.drop i) := fun _ => by
  obtain ⟨b', off', e, hb, hc⟩ := h (by omega)
  cases e
  refine ⟨b, off + i, rfl, hb, fun j hj => ?_⟩
  rw [List.length_drop] at hj
  have e : zg (ys.drop i) j = zg ys (i + j) := by unfold zg; simp [List.getElem?_drop]
  rw [e, ← hc (i + j) (by omega)]
  exact congrArg w.cell? (congrArg (fun o => (⟨b, o, none⟩ : Addr)) (by omega))
/-- What the round reads: the network's box and one number of the route. -/
abbrev RvS (base : World) (x : Nat) (A B : Option Addr) (ca cb : Nat) (ps : List (Int × Int)) (rs : List A3) (D : Option Addr) (zs : List Int) (b o1 : Nat) (z1 : Int) (w : World) : Prop :=
  DvS base x A B ca cb ps rs D zs w ∧ w.cell? ⟨b, o1, none⟩ = some (.int .i64 z1)
section
variable {base w w' : World} {x : Nat} {A B : Option Addr} {ca cb : Nat} {ps : List (Int × Int)} {rs : List A3} {D : Option Addr} {zs : List Int} {b o1 : Nat} {z1 : Int}
theorem RvS.under (hb : Below w.heap.size w w') (h : RvS base x A B ca cb ps rs D zs b o1 z1 w) : RvS base x A B ca cb ps rs D zs b o1 z1 w' := ⟨DvS.under hb h.1, cell_under hb h.2⟩
theorem RvS.drew (h : RvS base x A B ca cb ps rs D zs b o1 z1 w) : RvS base x A B ca cb ps rs D zs b o1 z1 w.drew := ⟨DvS.drew h.1, h.2⟩
theorem RvS.n (h : RvS base x A B ca cb ps rs D zs b o1 z1 w) : IsPts w A ps ∧ IsArcs w B rs := DvS.n h.1
theorem RvS.d (h : RvS base x A B ca cb ps rs D zs b o1 z1 w) : IsInts w D zs := DvS.d h.1
end

/-! ### STEP 1: THE WALK: the Go text returns true, AND WRITES NOTHING THAT WAS THERE: 'Below w.heap.size w w'' (Derived/Below.lean: '.refl', '.alloc', '.drew', '.setCell' at a new block, '.trans'). Open each 'IsRow' by 'rcases' AHEAD of 'go_enter'; part every test ahead of the walk. -/
set_option maxHeartbeats 4000000 in
set_option maxRecDepth 100000 in
theorem walk (a0 : Option Addr) (len0 cap0 : Nat) (z0 : List Int) (w : World) (w0 : IsRow .u8 w a0 len0 cap0 z0) :
    Calls Try.prog 3 #[.slice a0 len0 cap0] w fun e w' => e = .returned (.bool true) ∧ Below w.heap.size w w' := by
  have hcode := codeIn_of w0
  clear w0
  by_cases hbig : 1048576 < len0
  · have hd : decide ((1048576 : Int) < len0) = true := by simp; omega
    go_enter Try.func3, Try.ntmps3
    go_wp2_with (go_at_call 13; refine (big_any _ _ _ _).mono ?_; rintro e w' ⟨rfl, rfl⟩)
    go_ret
    exact ⟨rfl, Below.refl _ _⟩
  · have hd : decide ((1048576 : Int) < len0) = false := by simp; omega
    go_enter Try.func3, Try.ntmps3
    go_wp2_with fail
    refine (big_any _ _ _ _).mono ?_; rintro e w' ⟨rfl, rfl⟩
    go_wp2_with fail
    refine (drawBestRoute_any w a0 len0 cap0 hcode (by omega)).mono ?_
    rintro e w1 ⟨ad, B, ca, cb, ps, rs, s, t, rfl, h2, h21, h100, -, -, IP, IA, b1⟩
    have X := Pair.new w1 27 (.slice (some ad) ps.length ca) (.slice B rs.length cb)
    have k1 := below1 w1 (.cells #[.slice (some ad) ps.length ca, .slice B rs.length cb] 27)
    replace IP := IP.below k1
    replace IA := IA.below k1
    replace b1 := b1.trans (k1.mono b1.size)
    clear k1
    have HIM : Hid (∀ (w : World), IsPts w (some ad) ps → IsArcs w B rs → Calls Try.prog 15 #[.agg #[.slice (some ad) ps.length ca, .slice B rs.length cb], .int .i64 s, .int .i64 t] w (IntsMade w (brt ps rs s t))) := Lib.hid (fun w g1 g2 => implBestRoute_any ad B ca cb ps rs s t w (by omega) (by omega) g1 g2)
    have HSP : Hid (∀ (w : World), IsPts w (some ad) ps → IsArcs w B rs → Calls Try.prog 18 #[.agg #[.slice (some ad) ps.length ca, .slice B rs.length cb], .int .i64 s, .int .i64 t] w (IntsMade w (brt ps rs s t))) := Lib.hid (fun w g1 g2 => specBestRoute_any ad B ca cb ps rs s t w (by omega) (by omega) g1 g2)
    have HBE : Hid (∀ (w : World), IsPts w (some ad) ps → IsArcs w B rs → Calls Try.prog 16 #[.agg #[.slice (some ad) ps.length ca, .slice B rs.length cb], .int .i64 s, .int .i64 t] w (fun e w' => e = .returned (.int .i64 (dB ps rs s t)) ∧ Below w.heap.size w w')) := Lib.hid (fun w g1 g2 => implBetween_any (some ad) B ca cb ps rs s t w (by omega) (by omega) g1 g2)
    by_cases hq : dB ps rs s t = -1
    · rw [hq] at HBE
      rw [brt_far hq] at HIM HSP
      clear hq
      obtain ⟨x0, x1, -, -⟩ := X.cells
      go_wp2_with fail
      clear x0 x1
      refine (HIM.out _ IP IA).mono ?_; rintro e w2 ⟨A2, c2, rfl, -, O2, b2⟩
      have T : DvS w w1.heap.size (some ad) B ca cb ps rs A2 [] w2 := ⟨(X.below b2).cells.1, (X.below b2).cells.2.1, IP.below b2, IA.below b2, fun h => by simp at h, b1.trans (b2.mono b1.size)⟩
      clear IP IA X b1 b2 HIM O2
      obtain ⟨x0, x1⟩ := DvS.cells T
      go_wp2_with fail
      clear x0 x1
      refine (HBE.out _ (DvS.n T).1 (DvS.n T).2).mono ?_; rintro e w3 ⟨rfl, b3⟩
      replace T := DvS.under b3 T
      clear b3 HBE
      obtain ⟨x0, x1⟩ := DvS.cells T
      go_wp2_with fail
      clear x0 x1
      refine (HSP.out _ (DvS.n T).1 (DvS.n T).2).mono ?_; rintro e w4 ⟨A4, c4, rfl, -, -, b4⟩
      replace T := DvS.under b4 T
      clear b4 HSP
      go_wp2_with fail
      refine (same_bel A2 A4 c2 c4 0 [] _ (by omega) rfl (fun h => by simp at h) (fun h => by simp at h)).mono ?_; rintro e w5 ⟨rfl, b5⟩
      have kk := DvS.bel (DvS.under b5 T)
      go_wp2
      go_ret
      exact ⟨rfl, kk⟩
    · obtain ⟨hok, S, T', rfl, rfl, hS, hT⟩ := dB_nodes hq
      have hB := best_of hok hS hT hq
      have hqv : (dB ps rs S T' == -1) = false := beq_eq_false_iff_ne.2 hq
      have hl := hB.len
      obtain ⟨r, hr⟩ : ∃ r, r = brt ps rs S T' := ⟨_, rfl⟩
      rw [← hr] at HIM HSP hB hl
      obtain ⟨q, HQV⟩ : ∃ q, Hid (dB ps rs S T' = q) := ⟨_, Lib.hid rfl⟩
      rw [HQV.out] at HBE hqv hl
      have hpos := hB.pos
      have hfew := hB.few
      have HH := Lib.hid hB.head
      have HE := Lib.hid hB.last
      have HRO : Hid (∀ (D : Option Addr) (cd : Nat) (w : World), IsPts w (some ad) ps → IsArcs w B rs → IsInts w D r → Calls Try.prog 19 #[.agg #[.slice (some ad) ps.length ca, .slice B rs.length cb], .slice D r.length cd] w (fun e w' => e = .returned (.bool true) ∧ Below w.heap.size w w')) := Lib.hid (fun D cd w g1 g2 g3 => by
        have h := implRouteOk_any (some ad) B ca cb ps rs D cd r w (by omega) (by omega) (by omega) g1 g2 g3
        rw [hB.ok] at h; exact h)
      have HRL : Hid (∀ (D : Option Addr) (cd : Nat) (w : World), IsPts w (some ad) ps → IsArcs w B rs → IsInts w D r → Calls Try.prog 20 #[.agg #[.slice (some ad) ps.length ca, .slice B rs.length cb], .slice D r.length cd] w (fun e w' => e = .returned (.int .i64 q) ∧ Below w.heap.size w w')) := Lib.hid (fun D cd w g1 g2 g3 => by
        have h := implRouteLen_any (some ad) B ca cb ps rs D cd r w (by omega) (by omega) (by omega) g1 g2 g3
        rw [hl] at h; exact h)
      have HRA : Hid (∀ (D : Option Addr) (cd : Nat) (w : World), IsPts w (some ad) ps → IsArcs w B rs → IsInts w D r → Calls Try.prog 21 #[.agg #[.slice (some ad) ps.length ca, .slice B rs.length cb], .slice D r.length cd] w (fun e w' => ∃ A c, e = .returned (.slice A (r.length - 1) c) ∧ Below w.heap.size w w')) := Lib.hid (fun D cd w g1 g2 g3 => (implRouteArcs_any (some ad) B ca cb ps rs D cd r w (by omega) (by omega) (by omega) g1 g2 g3).mono fun e w' ⟨A, c, he, _, _, b⟩ => ⟨A, c, by rw [he, hB.arcs], b⟩)
      have HBR : Hid (∀ i, i < r.length → ∀ (w : World), IsPts w (some ad) ps → IsArcs w B rs → Calls Try.prog 15 #[.agg #[.slice (some ad) ps.length ca, .slice B rs.length cb], .int .i64 (zg r i), .int .i64 (T' : Int)] w (fun e w' => ∃ A c, e = .returned (.slice A (r.length - i) c) ∧ IsInts w' A (r.drop i) ∧ Below w.heap.size w w')) := Lib.hid (fun i hi w g1 g2 => (implBestRoute_any ad B ca cb ps rs (zg r i) T' w (by omega) (by omega) g1 g2).mono fun e w' ⟨A, c, he, _, o, b⟩ => by
        rw [hB.rest i hi] at he o
        exact ⟨A, c, by rw [he, List.length_drop], o.ints, b⟩)
      clear hr hB hl hq hok
      obtain ⟨x0, x1, -, -⟩ := X.cells
      go_wp2_with fail
      clear x0 x1
      refine (HIM.out _ IP IA).mono ?_; rintro e w2 ⟨A2, c2, rfl, hc2, O2, b2⟩
      have T : DvS w w1.heap.size (some ad) B ca cb ps rs A2 r w2 := ⟨(X.below b2).cells.1, (X.below b2).cells.2.1, IP.below b2, IA.below b2, O2.ints, b1.trans (b2.mono b1.size)⟩
      clear IP IA X b1 b2 HIM O2
      obtain ⟨x0, x1⟩ := DvS.cells T
      go_wp2_with fail
      clear x0 x1
      refine (HBE.out _ (DvS.n T).1 (DvS.n T).2).mono ?_; rintro e w3 ⟨rfl, b3⟩
      replace T := DvS.under b3 T
      clear b3 HBE
      obtain ⟨x0, x1⟩ := DvS.cells T
      go_wp2_with fail
      clear x0 x1
      refine (HSP.out _ (DvS.n T).1 (DvS.n T).2).mono ?_; rintro e w4 ⟨A4, c4, rfl, -, O4, b4⟩
      replace T := DvS.under b4 T
      clear b4 HSP
      go_wp2_with fail
      refine (same_bel A2 A4 c2 c4 r.length r _ (by omega) rfl (DvS.d T) O4.ints).mono ?_; rintro e w5 ⟨rfl, b5⟩
      replace T := DvS.under b5 T
      clear b5 O4
      obtain ⟨x0, x1⟩ := DvS.cells T
      go_wp2_with fail
      clear x0 x1
      refine (HRO.out _ _ _ (DvS.n T).1 (DvS.n T).2 (DvS.d T)).mono ?_; rintro e w6 ⟨rfl, b6⟩
      replace T := DvS.under b6 T
      clear b6 HRO
      obtain ⟨x0, x1⟩ := DvS.cells T
      go_wp2_with fail
      clear x0 x1
      refine (HRL.out _ _ _ (DvS.n T).1 (DvS.n T).2 (DvS.d T)).mono ?_; rintro e w7 ⟨rfl, b7⟩
      replace T := DvS.under b7 T
      clear b7 HRL
      obtain ⟨gb, go, rfl, -, z0⟩ := (DvS.d T).at_ (k := 0) hpos
      obtain ⟨gb', go', eg, -, z1⟩ := (DvS.d T).at_ (k := r.length - 1) (by omega)
      cases eg
      rw [HH.out, Nat.add_zero] at z0
      rw [HE.out] at z1
      obtain ⟨j, hj⟩ : ∃ j, r.length = j + 1 := ⟨r.length - 1, by omega⟩
      have hw1 : IntKind.i64.wrap ((r.length : Int) - 1) = j := by rw [IntWalk.i64_in _ (by omega)]; omega
      have hw2 : (r.length : Int) - 1 = j := by omega
      have hjl : j < r.length := by omega
      have hji : (j : Int) < r.length := by omega
      rw [show r.length - 1 = j by omega] at z1
      have HJ := Lib.hid hj
      clear hj
      go_wp2_with fail
      go_loopw [8] (fun i wr => ∃ k : Nat, k ≤ r.length ∧ i = .int .i64 k ∧ DvS w w1.heap.size (some ad) B ca cb ps rs (some ⟨gb, go, none⟩) r wr) (fun i _ => r.length - (intOf i).toNat)
      case atStart => exact ⟨0, by omega, rfl, T⟩
      case round =>
        clear T z0 z1 hw1 hw2
        obtain ⟨k, hk, rfl, T⟩ := hrel
        by_cases hlt : k < r.length
        · obtain ⟨b1, o1, e1, -, d1⟩ := (DvS.d T).at_ (k := k) hlt
          cases e1
          have HB := Lib.hid (HBR.out k hlt)
          have HLD := Lib.hid (List.length_drop (l := r) (i := k))
          have hck : ¬ c2 = k := by omega
          have hck2 : k < c2 := by omega
          obtain ⟨z, hz⟩ : ∃ z, z = zg r k := ⟨_, rfl⟩
          rw [← hz] at HB d1
          clear hz
          have U : RvS w w1.heap.size (some ad) B ca cb ps rs (some ⟨gb, go, none⟩) r gb (go + k) z _ := ⟨T, d1⟩
          clear T d1
          go_wp2_with fail
          go_region_held3 (fun w' => RvS w w1.heap.size (some ad) B ca cb ps rs (some ⟨gb, go, none⟩) r gb (go + k) z w')
            (first | exact RvS.drew U | (refine RvS.under (by assumption) ?_; assumption))
            (first
              | (go_at_call 15; refine (HB.out _ (RvS.n (by assumption)).1 (RvS.n (by assumption)).2).mono ?_; rintro e w8 ⟨A8, c8, rfl, I8, b8⟩)
              | (go_at_call 17; refine (same_bel A8 (some ⟨gb, go + k, none⟩) c8 _ (r.length - k) (r.drop k) _ (by omega) HLD.out I8 (isInts_drop k hlt (RvS.d (by assumption)))).mono ?_; rintro e w9 ⟨rfl, b9⟩))
          rename_i hU
          clear U I8 b8 b9 HB
          go_wp2
          go_roundw
          case rel => exact ⟨k + 1, by omega, by go_num, hU.1⟩
          case measure => simp [intOf]; omega
        · obtain rfl : k = r.length := by omega
          obtain ⟨x0, x1⟩ := DvS.cells T
          go_wp2_with fail
          clear x0 x1
          refine (HRA.out _ _ _ (DvS.n T).1 (DvS.n T).2 (DvS.d T)).mono ?_; rintro e w10 ⟨A10, c10, rfl, b10⟩
          have kk := DvS.bel (DvS.under b10 T)
          have hw3 : ((r.length - 1 : Nat) : Int) = (r.length : Int) - 1 := by omega
          go_wp2
          go_ret
          exact ⟨by simp [hw3], kk⟩

/-! ### THE ROW's STEP: WRITTEN OUT: LEAVE IT -/
set_option maxRecDepth 100000 in
theorem lifted (os : Os) (started : os.Started) (H : Type) (enc : TypeId × Value → H) :
    ReturnsInHanded {} Try.checked os 3 .any (Rows.fnRoutesSpec.pre6 enc Try.prog Try.f3 Rows.fnRoutesRow.domain false) (Rows.fnRoutesSpec.post enc Try.prog Try.f3 false true false false) := by
  refine returnsInHanded_of_change (C := Try.checked) own started (by kernel_rfl) Try.func3
    (ChangeSpec.witness6 (enc := enc) (C := Try.checked) false ⟨#[], #[.slice none 0 0], []⟩ 8 (by kernel_rfl) (by kernel_rfl) (by kernel_rfl) (by kernel_rfl)) ?_
  intro W base args ds gs before hval0 hW hcnd _
  have hval : ∀ (j : Nat) t v, Try.f3.params[j]? = some t → args[j]? = some v → Value.okWide Try.prog W .any base t v := hval0
  have hW' := hW
  obtain ⟨p, q, hA0, hV, rfl, hfz, hnd⟩ := hW
  have hA : DataW.TrodAll enc Try.prog W 0 (fun _ => true) true Try.f3.params.toList args.toList ds p := hA0
  rw [Try.params3] at hA hval
  obtain ⟨v0, vs0, d0, ds0, p0, q0, hargs, rfl, rfl, h0, r0⟩ := trodAll_cons hA
  obtain ⟨rfl, rfl, rfl⟩ := trodAll_nil r0
  obtain rfl : args = #[v0] := by cases args; simp_all
  obtain ⟨rfl, rfl⟩ := trodVars_none hV
  obtain ⟨a0, len0, cap0, rfl⟩ := okWide_slice Try.underlying22 (hval 0 22 v0 rfl rfl)
  have k0 := h0
  have lt0 : ∀ x ∈ p0, x.block < W.heap.size := by obtain ⟨m, hm⟩ := k0; exact DataW.trod_lt m _ _ _ hm
  obtain ⟨z0, w0⟩ : ∃ zs, IsRow .u8 W a0 len0 cap0 zs := by
    obtain ⟨fuel, hf⟩ := h0
    rcases open_ints Try.underlying22 Try.underlying5 (by kernel_rfl) hf with ⟨hcs, _⟩ | ⟨x, l, c, zs, hcs, _, hl, hm, hz, _, hcell, hwz⟩
    · simp [Value.cells] at hcs
      obtain ⟨rfl, rfl, rfl⟩ := hcs
      exact ⟨[], .inl ⟨rfl, rfl, rfl, rfl⟩⟩
    · simp [Value.cells] at hcs
      obtain ⟨rfl, rfl, rfl⟩ := hcs
      exact ⟨zs, .inr ⟨_, rfl, hl, hm, by simpa using hz, hcell, hwz⟩⟩
  clear hA0 hval0
  refine (walk a0 len0 cap0 z0 W w0).mono fun e W' ⟨he, bel⟩ => ?_
  subst he
  exact ⟨_, rfl, _, _, _, [], _, [], hW', trodAll_mk1 (shut_bool Try.underlying4 _), (trodAll_cons_mk (Below.trod laidOut (by kernel_rfl) (of_decide_eq_true (by kernel_rfl)) k0 bel lt0) trodAll_mk0), rfl, bel.frame _, fun h => by cases h⟩

theorem over : Rows.fnRoutesRow.holds Try.pinned (OpenSpec.ofChange Rows.fnRoutesSpec) :=
  OpenClaim.holds_of_wide 3 Try.f3 rfl rfl rfl rfl rfl rfl rfl ⟨rfl, rfl, rfl, rfl, rfl⟩ rfl rfl rfl rfl rfl (by kernel_rfl) Try.func3 (by kernel_rfl)
    (of_decide_eq_true (by kernel_rfl)) (by unfold Func.isWrapper; first | (rw [if_pos (by decide +kernel)]; kernel_rfl) | (rw [if_neg (by decide +kernel)]; exact ⟨rfl, rfl⟩))
    (fun os started H enc _ => lifted os started H enc)

/-- ████ THE STATEMENT ████ -/
theorem proved : Rows.FnRoutesSaid := over
#print axioms proved
end Go.Proofs.Ytdobiapnkdgjoaa.fnRoutes
