/-
  For every slice of bytes the law FnGuided returns true: what Guided settles in the network drawn from it is as the specification's, each node with its distance; where the potential of the goal is 0, nothing is farther than the goal; the goal comes last if one may come there (no condition).
-/
import Derived.Test.YtcaamhoakhgnhaaRows
import Derived.WalkKit
import Derived.ProofKit
import Derived.OpenShut
import Derived.ShutString
import Derived.ChangeOld
import Derived.Below
import Derived.Test.YtcaamhoakhgnhaaDistLaw
import Derived.Test.YtcaamhoakhgnhaaDrawPotG
import Derived.Test.YtcaamhoakhgnhaaGuidedIm
import Derived.Test.YtcaamhoakhgnhaaGuidedL
namespace Go.Proofs.Ytcaamhoakhgnhaa.fnGuided
open Go.ChangeShapes Go.WideShapes Go.ChangeAt Go.RowKit
open Go.ChangeMaps (open_string shut_string)
set_option linter.unusedVariables false

theorem own : ownKnob Try.prog.godebug = none := by kernel_rfl
theorem laidOut : laidOutB Try.prog = true := by kernel_rfl

/-- WHAT THE WALK IS TOLD OF A SLICE OF INTEGERS THAT CAME IN: it is nil; or it leads to a row of 'cap' cells, the numbers 'zs' (the first 'len' are its elements, the rest its spare room), each fitting its kind. -/
def IsRow (k : IntKind) (w : World) (a : Option Addr) (len cap : Nat) (zs : List Int) : Prop :=
  (a = none ∧ len = 0 ∧ cap = 0 ∧ zs = []) ∨
  ∃ x, a = some x ∧ len ≤ cap ∧ cap ≤ maxLen ∧ zs.length = cap ∧ (∀ i, i < zs.length → w.cell? (x.add i) = some (.int k (zs.getD i 0))) ∧ ∀ n ∈ zs, (Lit.int k n).wf = true

/-! ### STEP 1: THE WALK: the Go text returns true, AND WRITES NOTHING THAT WAS THERE: 'Below w.heap.size w w'' (Derived/Below.lean: '.refl', '.alloc', '.drew', '.setCell' at a new block, '.trans'). Open each 'IsRow' by 'rcases' AHEAD of 'go_enter'; part every test ahead of the walk. -/
set_option maxHeartbeats 4000000 in
set_option maxRecDepth 100000 in
theorem walk (a0 : Option Addr) (len0 cap0 : Nat) (z0 : List Int) (w : World) (w0 : IsRow .u8 w a0 len0 cap0 z0) :
    Calls Try.prog 5 #[.slice a0 len0 cap0] w fun e w' => e = .returned (.bool true) ∧ Below w.heap.size w w' := by
  have hcode := codeIn_of w0
  clear w0
  by_cases hbig : 1048576 < len0
  · have hd : decide ((1048576 : Int) < len0) = true := by simp; omega
    go_enter Try.func5, Try.ntmps5
    go_wp2_with (go_at_call 12; refine (big_any _ _ _ _).mono ?_; rintro e w' ⟨rfl, rfl⟩)
    go_ret
    exact ⟨rfl, Below.refl _ _⟩
  · have hd : decide ((1048576 : Int) < len0) = false := by simp; omega
    go_enter Try.func5, Try.ntmps5
    go_wp2_with fail
    refine (big_any _ _ _ _).mono ?_; rintro e w' ⟨rfl, rfl⟩
    go_wp2_with fail
    refine (drawGuided_any w a0 len0 cap0 hcode (by omega)).mono ?_
    rintro e w1 ⟨ad, B, C, ca, cb, cc, ps, rs, s, t, zs, rfl, h2, h21, h100, hz22, IP, IA, IZ, b1⟩
    have X := Pair.new w1 32 (.slice (some ad) ps.length ca) (.slice B rs.length cb)
    have k1 := below1 w1 (.cells #[.slice (some ad) ps.length ca, .slice B rs.length cb] 32)
    replace IP := IP.below k1
    replace IA := IA.below k1
    replace IZ := IZ.below k1
    have K := b1.trans (k1.mono b1.size)
    clear k1 b1
    obtain ⟨L, hL⟩ : ∃ L, L = gdL ps rs zs s t := ⟨_, rfl⟩
    have hL20 : L.length ≤ 20 := by rw [hL]; exact gdL_len ps rs zs s t
    have HSP : Hid (∀ (w : World), IsPts w (some ad) ps → IsArcs w B rs → IsInts w C zs → Calls Try.prog 22 #[.agg #[.slice (some ad) ps.length ca, .slice B rs.length cb], .int .i64 s, .int .i64 t, .slice C zs.length cc] w (SeenMade w (idsL L) (dsL zs L))) := Lib.hid (fun w g1 g2 g3 => by rw [hL]; exact specGuided_any (some ad) B C ca cb cc ps rs zs s t w (by omega) (by omega) (by omega) g1 g2 g3)
    have HIM : Hid (∀ (w : World), IsPts w (some ad) ps → IsArcs w B rs → IsInts w C zs → Calls Try.prog 21 #[.agg #[.slice (some ad) ps.length ca, .slice B rs.length cb], .int .i64 s, .int .i64 t, .slice C zs.length cc] w (SeenMade w (idsL L) (dsL zs L))) := Lib.hid (fun w g1 g2 g3 => by rw [hL]; exact implGuided_any (some ad) B C ca cb cc ps rs zs s t w (by omega) (by omega) (by omega) g1 g2 g3)
    have HGL := Lib.hid (fun (h : 0 < L.length) => (by
      rw [hL] at h
      obtain ⟨g1, S, T, rfl, rfl, g4, g5, g6⟩ := gdL_found h
      exact ⟨g1, S, T, rfl, rfl, g4, g5, hL ▸ g6⟩ : potB ps rs zs = true ∧ ∃ S T : Nat, s = S ∧ t = T ∧ S < ps.length ∧ T < ps.length ∧ Found ps.length rs zs S T L))
    have HSL : Hid ((idsL L).length = L.length ∧ (dsL zs L).length = L.length) := Lib.hid (by simp [idsL, dsL])
    clear hL
    obtain ⟨x0, x1, -, -⟩ := X.cells
    go_wp2_with fail
    clear x0 x1
    refine (HIM.out _ IP IA IZ).mono ?_; rintro e w2 ⟨A2, C2, c2, d2, rfl, O2, D2, -, b2⟩
    have I2 := OwnSl.ints O2
    have J2 := OwnSl.ints D2
    rw [HSL.out.1, HSL.out.2]
    replace X := X.below b2
    replace IP := IP.below b2
    replace IA := IA.below b2
    replace IZ := IZ.below b2
    replace K := K.trans (b2.mono K.size)
    clear b2 O2 D2 HIM
    have Y := Pair.new w2 42 (.slice A2 L.length c2) (.slice C2 L.length d2)
    have k2 := below1 w2 (.cells #[.slice A2 L.length c2, .slice C2 L.length d2] 42)
    replace I2 := I2.below k2
    replace J2 := J2.below k2
    replace X := X.below k2
    replace IP := IP.below k2
    replace IA := IA.below k2
    replace IZ := IZ.below k2
    replace K := K.trans (k2.mono K.size)
    clear k2
    obtain ⟨x0, x1, -, -⟩ := X.cells
    go_wp2_with fail
    clear x0 x1
    refine (HSP.out _ IP IA IZ).mono ?_; rintro e w3 ⟨A3, C3, c3, d3, rfl, O3, D3, -, b3⟩
    have I3 := OwnSl.ints O3
    have J3 := OwnSl.ints D3
    rw [HSL.out.1, HSL.out.2]
    replace X := X.below b3
    replace Y := Y.below b3
    replace I2 := I2.below b3
    replace J2 := J2.below b3
    replace IP := IP.below b3
    replace IA := IA.below b3
    replace IZ := IZ.below b3
    replace K := K.trans (b3.mono K.size)
    clear b3 O3 D3 HSP
    have Z := Pair.new w3 42 (.slice A3 L.length c3) (.slice C3 L.length d3)
    have k3 := below1 w3 (.cells #[.slice A3 L.length c3, .slice C3 L.length d3] 42)
    replace I2 := I2.below k3
    replace J2 := J2.below k3
    replace I3 := I3.below k3
    replace J3 := J3.below k3
    replace X := X.below k3
    replace Y := Y.below k3
    replace IP := IP.below k3
    replace IA := IA.below k3
    replace IZ := IZ.below k3
    replace K := K.trans (k3.mono K.size)
    clear k3
    obtain ⟨y0, y1, -, -⟩ := Y.cells
    obtain ⟨z0, z1, -, -⟩ := Z.cells
    go_wp2_with fail
    clear y0 y1 z0 z1
    refine (same_bel A2 A3 c2 c3 L.length (idsL L) _ (by omega) HSL.out.1 I2 I3).mono ?_; rintro e w4 ⟨rfl, b4⟩
    replace I2 := I2.below b4
    replace J2 := J2.below b4
    replace J3 := J3.below b4
    replace X := X.below b4
    replace Y := Y.below b4
    replace Z := Z.below b4
    replace IP := IP.below b4
    replace IA := IA.below b4
    replace IZ := IZ.below b4
    replace K := K.trans (b4.mono K.size)
    clear b4 I3
    obtain ⟨y0, y1, -, -⟩ := Y.cells
    obtain ⟨z0, z1, -, -⟩ := Z.cells
    go_wp2_with fail
    clear y0 y1 z0 z1
    refine (same_bel C2 C3 d2 d3 L.length (dsL zs L) _ (by omega) HSL.out.2 J2 J3).mono ?_; rintro e w5 ⟨rfl, b5⟩
    replace I2 := I2.below b5
    replace J2 := J2.below b5
    replace X := X.below b5
    replace Y := Y.below b5
    replace IP := IP.below b5
    replace IA := IA.below b5
    replace IZ := IZ.below b5
    replace K := K.trans (b5.mono K.size)
    clear b5 J3 Z
    rcases Nat.eq_zero_or_pos L.length with h0 | h0
    · have hle : ((L.length : Int) == 0) = true := by rw [beq_iff_eq]; omega
      clear h0
      obtain ⟨y0, y1, -, -⟩ := Y.cells
      go_wp2
      go_ret
      exact ⟨rfl, K⟩
    · obtain ⟨h1, S, T, rfl, rfl, hS, hT, F⟩ := HGL.out h0
      have HF := Lib.hid F
      have HPB := Lib.hid h1
      obtain ⟨g1, g2, -, -⟩ := potB_iff.1 h1
      have HN := Lib.hid g1
      have HZL := Lib.hid g2
      have HDF := Lib.hid (dF_yes g1 hS)
      have HDL := Lib.hid (dst_len ps.length rs S)
      have hle : ((L.length : Int) == 0) = false := by rw [beq_eq_false_iff_ne]; omega
      have hTi : (T : Int) < ps.length := by omega
      clear F h1 g1 g2 HGL
      obtain ⟨y0, y1, -, -⟩ := Y.cells
      obtain ⟨x0, x1, -, -⟩ := X.cells
      go_wp2_with fail
      clear x0 x1 y0 y1 hle
      refine (implDistFrom_any (some ad) B ca cb ps rs (S : Int) _ (by omega) (by omega) IP IA).mono ?_; rintro e w6 ⟨A6, c6, rfl, hc6, O6, b6⟩
      rw [HDF.out] at hc6 O6 ⊢
      have I6 := OwnSl.ints O6
      rw [HDL.out] at hc6 ⊢
      replace I2 := I2.below b6
      replace J2 := J2.below b6
      replace Y := Y.below b6
      replace IZ := IZ.below b6
      replace K := K.trans (b6.mono K.size)
      clear b6 O6 X IP IA hc6
      obtain ⟨y0, y1, -, -⟩ := Y.cells
      obtain ⟨zb, zo, rfl, hzb, ct⟩ := IZ.at_ (k := T) (by rw [HZL.out]; exact hT)
      obtain ⟨db, dof, rfl, hdb, dt⟩ := I6.at_ (k := T) (by rw [HDL.out]; exact hT)
      have hTz : (T : Int) < zs.length := by rw [HZL.out]; exact hTi
      have hTzn : T < zs.length := by omega
      have HNEAR := Lib.hid (fun (e0 : zg zs T = 0) (e1 : zg (dst ps.length rs S) T ≠ -1) (k : Nat) (hk : k < L.length) => HF.out.at_near (netZ_of HPB.out) e0 e1 hk)
      have HLAST := Lib.hid (HF.out.at_lastG h0)
      have HKEY := Lib.hid (fun (k : Nat) (hk : k < L.length) => HF.out.at_keyG hk)
      generalize hpt : zg zs T = pt at ct HNEAR
      generalize hdt : zg (dst ps.length rs S) T = z at dt HNEAR HLAST
      have HDT := Lib.hid hdt
      clear hpt hdt
      go_wp2
      go_loopw [10] (fun vi wr => ∃ (i m : Nat), i ≤ L.length ∧ vi = .int .i64 i ∧ wr = w6.drewN m) (fun i _ => L.length - (intOf i).toNat)
      case atStart => exact ⟨0, 0, by omega, rfl, rfl⟩
      case round =>
        obtain ⟨i, m, hi, rfl, rfl⟩ := hrel
        by_cases hlt : i < L.length
        · have hili : (i : Int) < L.length := by omega
          obtain ⟨u0, u1, hk1, -⟩ := HKEY.out i hlt
          obtain ⟨ob, oo, rfl, hob, ci⟩ := I2.at_ (k := i) (by rw [HSL.out.1]; exact hlt)
          obtain ⟨kb, ko, rfl, hkb, ki⟩ := J2.at_ (k := i) (by rw [HSL.out.2]; exact hlt)
          rw [hk1] at ki
          obtain ⟨U, hU⟩ : ∃ U : Nat, zg (idsL L) i = U := ⟨(zg (idsL L) i).toNat, by omega⟩
          rw [hU] at ci
          rw [hU, Int.toNat_natCast] at ki
          have hUn : U < ps.length := by omega
          have hUi : (U : Int) < ps.length := by omega
          obtain ⟨db', do', ed, -, di⟩ := I6.at_ (k := U) (by rw [HDL.out]; exact hUn)
          cases ed
          have HNU : Hid (pt = 0 → z ≠ -1 → zg (dst ps.length rs S) U ≤ z) := Lib.hid (fun e0 e1 => by have := HNEAR.out e0 e1 i hlt; rw [hU, Int.toNat_natCast] at this; exact this)
          generalize zg (dst ps.length rs S) U = x at ki di HNU
          have hxx : (x != x) = false := by simp
          clear hk1 hU u0 u1
          by_cases hp0 : pt = 0
          · subst hp0
            by_cases hz1 : z = -1
            · subst hz1
              clear HNU
              go_wp2_with fail
              go_quiet (fail)
              go_wp2
              go_roundw
              case rel => exact ⟨i + 1, m + nq, by omega, by go_num, by first | rfl | exact World.drewN_add _ _ _ | simp⟩
              case measure => simp [intOf]; omega
            · have hzb1 : (z != -1) = true := by simpa using hz1
              have hle := HNU.out rfl hz1
              have hgt : ¬ x > z := by omega
              have hgtd : decide (z < x) = false := decide_eq_false (by omega)
              clear HNU hz1
              go_wp2_with fail
              go_quiet (fail)
              go_wp2
              go_roundw
              case rel => exact ⟨i + 1, m + nq, by omega, by go_num, by first | rfl | exact World.drewN_add _ _ _ | simp⟩
              case measure => simp [intOf]; omega
          · have hpb : (pt == 0) = false := by rw [beq_eq_false_iff_ne]; exact hp0
            clear HNU hp0
            go_wp2_with fail
            go_quiet (fail)
            go_wp2
            go_roundw
            case rel => exact ⟨i + 1, m + nq, by omega, by go_num, by first | rfl | exact World.drewN_add _ _ _ | simp⟩
            case measure => simp [intOf]; omega
        · obtain rfl : i = L.length := by omega
          obtain ⟨j, hj⟩ : ∃ j, j + 1 = L.length := ⟨L.length - 1, by omega⟩
          have hLAST := HLAST.out
          rw [show L.length - 1 = j by omega] at hLAST
          obtain ⟨u0, u1, -⟩ := HKEY.out j (by omega)
          obtain ⟨U, hU⟩ : ∃ U : Nat, zg (idsL L) j = U := ⟨(zg (idsL L) j).toNat, by omega⟩
          rw [hU] at hLAST
          have hw1 : IntKind.i64.wrap ((L.length : Int) - 1) = j := by rw [IntWalk.i64_in _ (by omega)]; omega
          have hjl : j < L.length := by omega
          have hjli : (j : Int) < L.length := by omega
          obtain ⟨ob, oo, rfl, hob, ci⟩ := I2.at_ (k := j) (by rw [HSL.out.1]; exact hjl)
          rw [hU] at ci
          have hfin : (((U : Int) == (T : Int)) == (z != -1)) = true := by
            by_cases hz : z = -1
            · have : ((U : Int) == (T : Int)) = false := by rw [beq_eq_false_iff_ne]; exact fun e => hLAST.1 e hz
              rw [this, hz]; rfl
            · have e := hLAST.2 hz
              rw [e]; simp [hz]
          clear hLAST hU u0 u1 hj HNEAR
          go_wp2_with fail
          go_quiet (fail)
          go_wp2
          go_ret
          exact ⟨by simp [hfin], by first | exact below_drewN (below_drewN K _) _ | exact below_drewN K _ | exact K⟩

/-! ### THE ROW's STEP: WRITTEN OUT: LEAVE IT -/
set_option maxRecDepth 100000 in
theorem lifted (os : Os) (started : os.Started) (H : Type) (enc : TypeId × Value → H) :
    ReturnsInHanded {} Try.checked os 5 .any (Rows.fnGuidedSpec.pre6 enc Try.prog Try.f5 Rows.fnGuidedRow.domain false) (Rows.fnGuidedSpec.post enc Try.prog Try.f5 false true false false) := by
  refine returnsInHanded_of_change (C := Try.checked) own started (by kernel_rfl) Try.func5
    (ChangeSpec.witness6 (enc := enc) (C := Try.checked) false ⟨#[], #[.slice none 0 0], []⟩ 8 (by kernel_rfl) (by kernel_rfl) (by kernel_rfl) (by kernel_rfl)) ?_
  intro W base args ds gs before hval0 hW hcnd _
  have hval : ∀ (j : Nat) t v, Try.f5.params[j]? = some t → args[j]? = some v → Value.okWide Try.prog W .any base t v := hval0
  have hW' := hW
  obtain ⟨p, q, hA0, hV, rfl, hfz, hnd⟩ := hW
  have hA : DataW.TrodAll enc Try.prog W 0 (fun _ => true) true Try.f5.params.toList args.toList ds p := hA0
  rw [Try.params5] at hA hval
  obtain ⟨v0, vs0, d0, ds0, p0, q0, hargs, rfl, rfl, h0, r0⟩ := trodAll_cons hA
  obtain ⟨rfl, rfl, rfl⟩ := trodAll_nil r0
  obtain rfl : args = #[v0] := by cases args; simp_all
  obtain ⟨rfl, rfl⟩ := trodVars_none hV
  obtain ⟨a0, len0, cap0, rfl⟩ := okWide_slice Try.underlying36 (hval 0 36 v0 rfl rfl)
  have k0 := h0
  have lt0 : ∀ x ∈ p0, x.block < W.heap.size := by obtain ⟨m, hm⟩ := k0; exact DataW.trod_lt m _ _ _ hm
  obtain ⟨z0, w0⟩ : ∃ zs, IsRow .u8 W a0 len0 cap0 zs := by
    obtain ⟨fuel, hf⟩ := h0
    rcases open_ints Try.underlying36 Try.underlying5 (by kernel_rfl) hf with ⟨hcs, _⟩ | ⟨x, l, c, zs, hcs, _, hl, hm, hz, _, hcell, hwz⟩
    · simp [Value.cells] at hcs
      obtain ⟨rfl, rfl, rfl⟩ := hcs
      exact ⟨[], .inl ⟨rfl, rfl, rfl, rfl⟩⟩
    · simp [Value.cells] at hcs
      obtain ⟨rfl, rfl, rfl⟩ := hcs
      exact ⟨zs, .inr ⟨_, rfl, hl, hm, by simpa using hz, hcell, hwz⟩⟩
  clear hA0 hval0
  refine (walk a0 len0 cap0 z0 W w0).mono fun e W' ⟨he, bel⟩ => ?_
  subst he
  exact ⟨_, rfl, _, _, _, [], _, [], hW', trodAll_mk1 (shut_bool Try.underlying4 _), (trodAll_cons_mk (Below.trod laidOut (by kernel_rfl) (of_decide_eq_true (by kernel_rfl)) k0 bel lt0) trodAll_mk0), rfl, bel.frame _, fun h => by cases h⟩

theorem over : Rows.fnGuidedRow.holds Try.pinned (OpenSpec.ofChange Rows.fnGuidedSpec) :=
  OpenClaim.holds_of_wide 5 Try.f5 rfl rfl rfl rfl rfl rfl rfl ⟨rfl, rfl, rfl, rfl, rfl⟩ rfl rfl rfl rfl rfl (by kernel_rfl) Try.func5 (by kernel_rfl)
    (of_decide_eq_true (by kernel_rfl)) (by unfold Func.isWrapper; first | (rw [if_pos (by decide +kernel)]; kernel_rfl) | (rw [if_neg (by decide +kernel)]; exact ⟨rfl, rfl⟩))
    (fun os started H enc _ => lifted os started H enc)

/-- ████ THE STATEMENT ████ -/
theorem proved : Rows.FnGuidedSaid := over
#print axioms proved
end Go.Proofs.Ytcaamhoakhgnhaa.fnGuided
