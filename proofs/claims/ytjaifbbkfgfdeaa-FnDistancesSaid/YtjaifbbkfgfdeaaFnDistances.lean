/-
  For every slice of bytes the law FnDistances returns true: of the network and the node drawn from it the program's DistFrom is the specification's; its distances obey every arc, are those of Between, of DistTo and of the reversed network, and each but 0 is attained along an arc (no condition).
-/
import Derived.Test.YtjaifbbkfgfdeaaRows
import Derived.WalkKit
import Derived.ProofKit
import Derived.OpenShut
import Derived.ShutString
import Derived.ChangeOld
import Derived.Below
import Derived.Test.YtjaifbbkfgfdeaaDistLaw
namespace Go.Proofs.Ytjaifbbkfgfdeaa.fnDistances
open Go.ChangeShapes Go.WideShapes Go.ChangeAt Go.RowKit
open Go.ChangeMaps (open_string shut_string)
set_option linter.unusedVariables false

theorem own : ownKnob Try.prog.godebug = none := by kernel_rfl
theorem laidOut : laidOutB Try.prog = true := by kernel_rfl

/-- WHAT THE WALK IS TOLD OF A SLICE OF INTEGERS THAT CAME IN: it is nil; or it leads to a row of 'cap' cells, the numbers 'zs' (the first 'len' are its elements, the rest its spare room), each fitting its kind. -/
def IsRow (k : IntKind) (w : World) (a : Option Addr) (len cap : Nat) (zs : List Int) : Prop :=
  (a = none ∧ len = 0 ∧ cap = 0 ∧ zs = []) ∨
  ∃ x, a = some x ∧ len ≤ cap ∧ cap ≤ maxLen ∧ zs.length = cap ∧ (∀ i, i < zs.length → w.cell? (x.add i) = some (.int k (zs.getD i 0))) ∧ ∀ n ∈ zs, (Lit.int k n).wf = true

/-! ### STEP 1: THE WALK: the Go text returns true, AND WRITES NOTHING THAT WAS THERE: 'Below w.heap.size w w'' (Derived/Below.lean: '.refl', '.alloc', '.drew', '.setCell' at a new block, '.trans'). Open each 'IsRow' by 'rcases' AHEAD of 'go_enter'; part every test ahead of the walk. -/
set_option maxHeartbeats 4000000 in
set_option maxRecDepth 100000 in
theorem walk (a0 : Option Addr) (len0 cap0 : Nat) (z0 : List Int) (w : World) (w0 : IsRow .u8 w a0 len0 cap0 z0) :
    Calls Try.prog 3 #[.slice a0 len0 cap0] w fun e w' => e = .returned (.bool true) ∧ Below w.heap.size w w' := by
  have hcode := codeIn_of w0
  clear w0
  by_cases hbig : 1048576 < len0
  · have hd : decide ((1048576 : Int) < len0) = true := by simp; omega
    go_enter Try.func3, Try.ntmps3
    go_wp2_with (go_at_call 10; refine (big_any _ _ _ _).mono ?_; rintro e w' ⟨rfl, rfl⟩)
    go_ret
    exact ⟨rfl, Below.refl _ _⟩
  · have hd : decide ((1048576 : Int) < len0) = false := by simp; omega
    go_enter Try.func3, Try.ntmps3
    go_wp2_with fail
    refine (big_any _ _ _ _).mono ?_; rintro e w' ⟨rfl, rfl⟩
    go_wp2_with fail
    refine (drawDistFrom_any w a0 len0 cap0 hcode (by omega)).mono ?_
    rintro e w1 ⟨ad, B, ca, cb, ps, rs, s, rfl, h2, h21, h100, -, IP, IA, b1⟩
    have X := Pair.new w1 27 (.slice (some ad) ps.length ca) (.slice B rs.length cb)
    have k1 := below1 w1 (.cells #[.slice (some ad) ps.length ca, .slice B rs.length cb] 27)
    replace IP := IP.below k1
    replace IA := IA.below k1
    replace b1 := b1.trans (k1.mono b1.size)
    clear k1
    by_cases hno : netB ps rs = false ∨ btB s 0 ((ps.length : Int) - 1) = false
    · have HS : Hid (∀ (A B : Option Addr) (ca cb : Nat) (w : World), IsPts w A ps → IsArcs w B rs → Calls Try.prog 14 #[.agg #[.slice A ps.length ca, .slice B rs.length cb], .int .i64 s] w (fun e w' => ∃ A c, e = .returned (.slice A 0 c) ∧ Below w.heap.size w w')) := Lib.hid (fun A B ca cb w g1 g2 => by
        have h := specDistFrom_any A B ca cb ps rs s w (by omega) (by omega) g1 g2
        rw [dF_no hno] at h
        exact h.mono fun e w' ⟨A, c, he, _, _, b⟩ => ⟨A, c, he, b⟩)
      have HI := Lib.hid hno
      clear hno
      go_wp2_with fail
      refine (implDistFrom_no _ _ _ _ ps rs s _ (by omega) (by omega) IP IA HI.out).mono ?_; rintro e w2 ⟨rfl, b2⟩
      have T : DvS w w1.heap.size (some ad) B ca cb ps rs none [] w2 := ⟨(X.below b2).cells.1, (X.below b2).cells.2.1, IP.below b2, IA.below b2, fun h => by simp at h, b1.trans (b2.mono b1.size)⟩
      clear IP IA X b1 b2 HI
      obtain ⟨x0, x1⟩ := DvS.cells T
      go_wp2_with fail
      clear x0 x1
      refine (HS.out _ _ _ _ _ (DvS.n T).1 (DvS.n T).2).mono ?_; rintro e w3 ⟨A3', c3, rfl, b3⟩
      replace T := DvS.under b3 T
      clear b3 HS
      go_wp2_with fail
      refine (same_bel none A3' 0 c3 0 [] _ (by omega) rfl (fun h => by simp at h) (fun h => by simp at h)).mono ?_; rintro e w4 ⟨rfl, b4⟩
      have kk := DvS.bel (DvS.under b4 T)
      clear T b4
      go_wp2
      go_ret
      exact ⟨rfl, kk⟩
    · have hok : netB ps rs = true := by cases e : netB ps rs with
        | false => exact absurd (.inl e) hno
        | true => rfl
      have hs1 : btB s 0 ((ps.length : Int) - 1) = true := by cases e : btB s 0 ((ps.length : Int) - 1) with
        | false => exact absurd (.inr e) hno
        | true => rfl
      obtain ⟨S, rfl, hS⟩ := node_is hs1
      clear hno hs1
      obtain ⟨h20, h70, -, -⟩ := netB_iff.1 hok
      have hr := arcsIn_net hok
      obtain ⟨ht, htr1, htr2⟩ := turn_arcs hok
      have HSP : Hid (∀ (A B : Option Addr) (ca cb : Nat) (w : World), IsPts w A ps → IsArcs w B rs → Calls Try.prog 14 #[.agg #[.slice A ps.length ca, .slice B rs.length cb], .int .i64 (S : Int)] w (fun e w' => ∃ A c, e = .returned (.slice A ps.length c) ∧ IsInts w' A (dst ps.length rs S) ∧ Below w.heap.size w w')) := Lib.hid (fun A B ca cb w g1 g2 => by
        have h := specDistFrom_any A B ca cb ps rs S w (by omega) (by omega) g1 g2
        rw [dF_yes hok hS] at h
        exact h.mono fun e w' ⟨A, c, he, _, o, b⟩ => ⟨A, c, by rw [he, dst_len], o.ints, b⟩)
      have HIM : Hid (∀ (A B : Option Addr) (ca cb : Nat) (w : World), IsPts w A ps → IsArcs w B rs → Calls Try.prog 12 #[.agg #[.slice A ps.length ca, .slice B rs.length cb], .int .i64 (S : Int)] w (fun e w' => ∃ g, e = .returned (.slice (some ⟨g, 0, none⟩) ps.length ps.length) ∧ IsInts w' (some ⟨g, 0, none⟩) (dst ps.length rs S) ∧ Below w.heap.size w w')) := Lib.hid (fun A B ca cb w g1 g2 => (implDistFrom_yes A B ca cb ps rs S w g1 g2 hok hS).mono fun e w' ⟨g, he, _, I, b⟩ => ⟨g, he, fun hp => ⟨g, 0, rfl, I.lt, fun i hi => by rw [Nat.zero_add]; exact I.cell (by rw [dst_len] at hi; exact hi)⟩, b⟩)
      have HBE : Hid (∀ v : Nat, v < ps.length → ∀ (A B : Option Addr) (ca cb : Nat) (w : World), IsPts w A ps → IsArcs w B rs → Calls Try.prog 15 #[.agg #[.slice A ps.length ca, .slice B rs.length cb], .int .i64 (S : Int), .int .i64 (v : Int)] w (fun e w' => e = .returned (.int .i64 (zg (dst ps.length rs S) v)) ∧ Below w.heap.size w w')) := Lib.hid (fun v hv A B ca cb w g1 g2 => by
        have h := implBetween_any A B ca cb ps rs S v w (by omega) (by omega) g1 g2
        rw [dB_yes hok hS hv] at h
        exact h)
      obtain ⟨ts, hts⟩ : ∃ ts, ts = turnL rs := ⟨_, rfl⟩
      rw [← hts] at ht htr1 htr2
      have hvt : netB ps ts = true := by rw [hts]; exact turn_valid hok
      have htl : ts.length ≤ 70 := (netB_iff.1 hvt).2.1
      have hbk : ∀ v : Nat, v < ps.length → zg (dst ps.length ts v) S = zg (dst ps.length rs S) v := fun v hv => dst_back h20 hr ht htr1 htr2 hS hv
      have HDT : Hid (∀ v : Nat, v < ps.length → ∀ (ad : Addr) (B : Option Addr) (ca cb : Nat) (w : World), IsPts w (some ad) ps → IsArcs w B rs → Calls Try.prog 16 #[.agg #[.slice (some ad) ps.length ca, .slice B rs.length cb], .int .i64 (v : Int)] w (fun e w' => ∃ b o c, e = .returned (.slice (some ⟨b, o, none⟩) ps.length c) ∧ w'.cell? ⟨b, o + S, none⟩ = some (.int .i64 (zg (dst ps.length rs S) v)) ∧ Below w.heap.size w w')) := Lib.hid (fun v hv ad B ca cb w g1 g2 => by
        have h := implDistTo_any ad B ca cb ps rs v w (by omega) (by omega) g1 g2
        rw [dT_yes hok hv, ← hts] at h
        refine h.mono fun e w' ⟨A, c, he, _, o, b⟩ => ?_
        obtain ⟨b', o', rfl, -, cz⟩ := o.ints.at_ (k := S) (by rw [dst_len]; exact hS)
        exact ⟨b', o', c, by rw [he, dst_len], by rw [cz, hbk v hv], b⟩)
      have HTU : Hid (∀ (ad : Addr) (B : Option Addr) (ca cb : Nat) (w : World), IsPts w (some ad) ps → IsArcs w B rs → Calls Try.prog 17 #[.agg #[.slice (some ad) ps.length ca, .slice B rs.length cb]] w (NetOwned w ps ts)) := Lib.hid (fun ad B ca cb w g1 g2 => by rw [hts]; exact implTurned_yes ad B ca cb ps rs w (by omega) (by omega) g1 g2 hok)
      have HBT : Hid (∀ v : Nat, v < ps.length → ∀ (A B : Option Addr) (ca cb : Nat) (w : World), IsPts w A ps → IsArcs w B ts → Calls Try.prog 15 #[.agg #[.slice A ps.length ca, .slice B ts.length cb], .int .i64 (v : Int), .int .i64 (S : Int)] w (fun e w' => e = .returned (.int .i64 (zg (dst ps.length rs S) v)) ∧ Below w.heap.size w w')) := Lib.hid (fun v hv A B ca cb w g1 g2 => by
        have h := implBetween_any A B ca cb ps ts v S w (by omega) (by omega) g1 g2
        rw [dB_yes hvt hv hS, hbk v hv] at h
        exact h)
      have HSD : Hid (∀ (A B : Option Addr) (ca cb : Nat) (w : World), IsPts w A ps → IsArcs w B rs → Calls Try.prog 18 #[.agg #[.slice A ps.length ca, .slice B rs.length cb], .agg #[.slice A ps.length ca, .slice B rs.length cb]] w (fun e w' => e = .returned (.bool true) ∧ Below w.heap.size w w')) := Lib.hid (fun A B ca cb w g1 g2 => by
        have h := implSameDists_any A B A B ca cb ca cb ps rs ps rs w (by omega) (by omega) (by omega) (by omega) g1 g2 g1 g2
        rw [sdB_all hok hok rfl (fun _ _ => rfl)] at h
        exact h)
      have HL := Lib.hid (dst_len ps.length rs S)
      have HV := Lib.hid (fun v hv => dst_val h20 hS hr (v := v) hv)
      have HR := Lib.hid (fun a ha => dst_arc h20 hS hr (a := a) ha)
      have HAL := Lib.hid (fun v hv h1 h2 => dst_along h20 hS hr (v := v) hv h1 h2)
      have HSR := Lib.hid (dst_di h20 hS hr).src
      have HA := Lib.hid hr
      clear hok hr ht htr1 htr2 hts hvt hbk
      generalize dst ps.length rs S = d at HSP HIM HBE HDT HBT HL HV HR HAL HSR
      go_wp2_with fail
      refine (HIM.out _ _ _ _ _ IP IA).mono ?_; rintro e w2 ⟨g, rfl, I2, b2⟩
      have T : DvS w w1.heap.size (some ad) B ca cb ps rs (some ⟨g, 0, none⟩) d w2 := ⟨(X.below b2).cells.1, (X.below b2).cells.2.1, IP.below b2, IA.below b2, I2, b1.trans (b2.mono b1.size)⟩
      clear IP IA X b1 b2 I2 HIM
      obtain ⟨x0, x1⟩ := DvS.cells T
      go_wp2_with fail
      clear x0 x1
      refine (HSP.out _ _ _ _ _ (DvS.n T).1 (DvS.n T).2).mono ?_; rintro e w3 ⟨A3', c3, rfl, I3, b3⟩
      replace T := DvS.under b3 T
      clear b3 HSP
      go_wp2_with fail
      refine (same_bel (some ⟨g, 0, none⟩) A3' _ c3 ps.length d _ (by omega) HL.out (DvS.d T) I3).mono ?_; rintro e w4 ⟨rfl, b4⟩
      replace T := DvS.under b4 T
      clear b4 I3
      have hl0 : ((ps.length : Int) == 0) = false := beq_eq_false_iff_ne.2 (by omega)
      go_wp2
      clear hl0
      go_loopw [6] (fun i wr => ∃ q : Nat, q ≤ rs.length ∧ i = .int .i64 q ∧ DvS w w1.heap.size (some ad) B ca cb ps rs (some ⟨g, 0, none⟩) d wr) (fun i _ => rs.length - (intOf i).toNat)
      case atStart => exact ⟨0, by omega, rfl, T⟩
      case round =>
        clear T
        obtain ⟨q, hq, rfl, T⟩ := hrel
        obtain ⟨x0, x1⟩ := DvS.cells T
        by_cases hlt : q < rs.length
        · obtain ⟨b, off, rfl, -, c0, c1, c2⟩ := (DvS.n T).2.at_ hlt
          obtain ⟨⟨f0, f1⟩, ⟨t0, t1⟩, hft, l0, l1⟩ := HA.out _ (arg_mem hlt)
          have HX := Lib.hid (HR.out _ (arg_mem hlt))
          generalize arg rs q = a at c0 c1 c2 f0 f1 t0 t1 hft l0 l1 HX
          obtain ⟨f, t, L⟩ := a
          obtain ⟨F, rfl⟩ : ∃ F : Nat, f = (F : Int) := ⟨f.toNat, by simp at f0; omega⟩
          obtain ⟨U, rfl⟩ : ∃ U : Nat, t = (U : Int) := ⟨t.toNat, by simp at t0; omega⟩
          simp only at c0 c1 c2 f0 f1 t0 t1 hft l0 l1
          have hF : F < ps.length := by omega
          have hU : U < ps.length := by omega
          have hx := HV.out F hF
          have hy := HV.out U hU
          have k1 := below1 wr (.cells #[.int .i64 (F : Int), .int .i64 (U : Int), .int .i64 L] 34)
          have Y : ArcBox (wr.alloc (.cells #[.int .i64 (F : Int), .int .i64 (U : Int), .int .i64 L] 34)) wr.heap.size F U L := arc_new wr F U L _
          have T1 := DvS.under k1 T
          obtain ⟨b1, o1, e1, -, dF⟩ := (DvS.d T1).at_ (k := F) (by rw [HL.out]; exact hF)
          cases e1
          obtain ⟨b2, o2, e2, -, dU⟩ := (DvS.d T1).at_ (k := U) (by rw [HL.out]; exact hU)
          cases e2
          rw [Nat.zero_add] at dF dU
          obtain ⟨y0, y1, y2⟩ := Y.cells
          clear T k1 f0 f1 t0 t1 hft Y
          by_cases h1 : zg d F = -1
          · rw [h1] at dF
            go_wp2_with fail
            go_quiet (fail)
            clear x0 x1 c0 c1 c2 dF dU y0 y1 y2
            go_wp2
            go_roundw
            case rel => exact ⟨q + 1, by omega, by go_num, DvS.under (below_drewN (Below.refl _ _) _) T1⟩
            case measure => simp [intOf]; omega
          · have HNX : Hid (¬ (zg d U = -1 ∨ zg d F + L < zg d U)) := Lib.hid (fun hh => by have := rlx_iff.2 (show zg d ((F : Int), (U : Int), L).1.toNat ≠ -1 ∧ (zg d ((F : Int), (U : Int), L).2.1.toNat = -1 ∨ zg d ((F : Int), (U : Int), L).1.toNat + ((F : Int), (U : Int), L).2.2 < zg d ((F : Int), (U : Int), L).2.1.toNat) from ⟨h1, hh⟩); rw [HX.out] at this; cases this)
            have h1' : (zg d F != -1) = true := by simpa using h1
            have h2' : (zg d U == -1) = false := beq_eq_false_iff_ne.2 (fun e => HNX.out (.inl e))
            have h3 : ¬ zg d F + L < zg d U := fun e => HNX.out (.inr e)
            generalize zg d F = x at dF h1' hx h3
            generalize zg d U = y at dU h2' hy h3
            have h3' : decide (x + L < y) = false := decide_eq_false h3
            clear h1 HNX HX
            go_wp2_with fail
            go_quiet (fail)
            clear x0 x1 c0 c1 c2 dF dU y0 y1 y2
            go_wp2
            go_roundw
            case rel => exact ⟨q + 1, by omega, by go_num, DvS.under (below_drewN (Below.refl _ _) _) T1⟩
            case measure => simp [intOf]; omega
        · obtain rfl : q = rs.length := by omega
          clear hlt hq
          go_wp2
          clear x0 x1
          go_loopw [8] (fun i wr => ∃ v : Nat, v ≤ ps.length ∧ i = .int .i64 v ∧ DvS w w1.heap.size (some ad) B ca cb ps rs (some ⟨g, 0, none⟩) d wr) (fun i _ => ps.length - (intOf i).toNat)
          case atStart => exact ⟨0, by omega, rfl, T⟩
          case round =>
            clear T
            obtain ⟨v, hv, rfl, T⟩ := hrel
            by_cases hlt : v < ps.length
            · have HBE1 := Lib.hid (HBE.out v hlt)
              have HDT1 := Lib.hid (HDT.out v hlt)
              have HBT1 := Lib.hid (HBT.out v hlt)
              obtain ⟨b1, o1, e1, -, dV⟩ := (DvS.d T).at_ (k := v) (by rw [HL.out]; exact hlt)
              cases e1
              rw [Nat.zero_add] at dV
              have C : DvC w w1.heap.size (some ad) B ca cb ps rs (some ⟨g, 0, none⟩) d g v (zg d v) wr := ⟨T, dV⟩
              have hne : (zg d v != zg d v) = false := by simp
              clear T dV
              go_wp2_with fail
              -- REGION BEGINS
              refine wp_region_held_drew (S := (fun w' => DvC w w1.heap.size (some ad) B ca cb ps rs (some ⟨g, 0, none⟩) d g v (zg d v) w')) (by kernel_rfl) ?_ (fun hHeld => ?_)
              · exact DvC.drew C
              clear C
              refine wpAnyH_take (i := 0) (oi := ⟨some 79, _, _, _, _, _⟩) (v := .slice (some ⟨g, 0, none⟩) ps.length ps.length) rfl (by kernel_rfl) (by kernel_rfl) (by kernel_rfl) (fun _ _ _ h => h) (Or.inl ⟨by rfl, fun w' hw => ?hy⟩) hHeld ?_
              case hy => (try dsimp only at hw); go_simp
              simp only [Act.put, List.setIfInBounds_toArray, List.set_cons_zero, List.set_cons_succ]
              refine wpAnyH_take (i := 1) (oi := ⟨some 80, _, _, _, _, _⟩) (v := .int .i64 (v : Int)) rfl (by kernel_rfl) (by kernel_rfl) (by kernel_rfl) (fun _ _ _ h => h) (Or.inl ⟨by rfl, fun w' hw => ?hy⟩) hHeld ?_
              case hy => (try dsimp only at hw); go_simp
              simp only [Act.put, List.setIfInBounds_toArray, List.set_cons_zero, List.set_cons_succ]
              refine wpAnyH_take (i := 2) (oi := ⟨some 81, _, _, _, _, _⟩) (v := .pointer (some ⟨g, v, none⟩)) rfl (by kernel_rfl) (by kernel_rfl) (by kernel_rfl) (fun _ _ _ h => h) (Or.inl ⟨by rfl, fun w' hw => ?hy⟩) hHeld ?_
              case hy => (try dsimp only at hw); go_simp
              simp only [Act.put, List.setIfInBounds_toArray, List.set_cons_zero, List.set_cons_succ]
              refine wpAnyH_take (i := 3) (oi := ⟨some 82, _, _, _, _, _⟩) (v := .int .i64 (zg d v)) rfl (by kernel_rfl) (by kernel_rfl) (by kernel_rfl) (fun _ _ _ h => h) (Or.inl ⟨by rfl, fun w' hw => ?hy⟩) hHeld ?_
              case hy => (try dsimp only at hw); go_simp
              simp only [Act.put, List.setIfInBounds_toArray, List.set_cons_zero, List.set_cons_succ]
              refine wpAnyH_take (i := 4) (oi := ⟨some 83, _, _, _, _, _⟩) (v := .agg #[.slice (some ad) ps.length ca, .slice B rs.length cb]) rfl (by kernel_rfl) (by kernel_rfl) (by kernel_rfl) (fun _ _ _ h => h) (Or.inl ⟨by rfl, fun w' hw => ?hy⟩) hHeld ?_
              case hy => (try dsimp only at hw); go_simp
              simp only [Act.put, List.setIfInBounds_toArray, List.set_cons_zero, List.set_cons_succ]
              refine wpAnyH_take (i := 5) (oi := ⟨some 84, _, _, _, _, _⟩) (v := .int .i64 (S : Int)) rfl (by kernel_rfl) (by kernel_rfl) (by kernel_rfl) (fun _ _ _ h => h) (Or.inl ⟨by rfl, fun w' hw => ?hy⟩) hHeld ?_
              case hy => (try dsimp only at hw); go_simp
              simp only [Act.put, List.setIfInBounds_toArray, List.set_cons_zero, List.set_cons_succ]
              refine wpAnyH_take (i := 6) (oi := ⟨some 85, _, _, _, _, _⟩) (v := .int .i64 (v : Int)) rfl (by kernel_rfl) (by kernel_rfl) (by kernel_rfl) (fun _ _ _ h => h) (Or.inl ⟨by rfl, fun w' hw => ?hy⟩) hHeld ?_
              case hy => (try dsimp only at hw); go_simp
              simp only [Act.put, List.setIfInBounds_toArray, List.set_cons_zero, List.set_cons_succ]
              refine wpAnyH_ready (rs := [7]) (by kernel_rfl) (by simp) ?_
              refine AllReadyH.cons (o := ⟨some 86, _, _, _, _, _⟩) rfl (fun K hK => ?_) AllReadyH.nil
              go_simp
              refine (HBE1.out _ _ _ _ _ (DvC.n hHeld).1 (DvC.n hHeld).2).mono ?_; rintro e w5 ⟨rfl, b5⟩
              go_wp2_with fail
              refine hK.out _ _ ?_ (fun hHeld => ?_)
              · exact DvC.under b5 hHeld
              clear hK K
              try simp only [Act.put, List.setIfInBounds_toArray, List.set_cons_zero, List.set_cons_succ]
              clear b5
              refine wpAnyH_take (i := 8) (oi := ⟨some 87, _, _, _, _, _⟩) (v := .bool false) rfl (by kernel_rfl) (by kernel_rfl) (by kernel_rfl) (fun _ _ _ h => h) (Or.inl ⟨by rfl, fun w' hw => ?hy⟩) hHeld ?_
              case hy => (try dsimp only at hw); go_simp
              simp only [Act.put, List.setIfInBounds_toArray, List.set_cons_zero, List.set_cons_succ]
              refine wpAnyH_take (i := 9) (oi := ⟨some 88, _, _, _, _, _⟩) (v := .bool false) rfl (by kernel_rfl) (by kernel_rfl) (by kernel_rfl) (fun _ _ _ h => h) (Or.inl ⟨by rfl, fun w' hw => ?hy⟩) hHeld ?_
              case hy => (try dsimp only at hw); go_simp
              simp only [Act.put, List.setIfInBounds_toArray, List.set_cons_zero, List.set_cons_succ]
              refine wpAnyH_take (i := 10) (oi := ⟨some 89, _, _, _, _, _⟩) (v := .slice (some ⟨g, 0, none⟩) ps.length ps.length) rfl (by kernel_rfl) (by kernel_rfl) (by kernel_rfl) (fun _ _ _ h => h) (Or.inl ⟨by rfl, fun w' hw => ?hy⟩) hHeld ?_
              case hy => (try dsimp only at hw); go_simp
              simp only [Act.put, List.setIfInBounds_toArray, List.set_cons_zero, List.set_cons_succ]
              refine wpAnyH_take (i := 11) (oi := ⟨some 90, _, _, _, _, _⟩) (v := .int .i64 (v : Int)) rfl (by kernel_rfl) (by kernel_rfl) (by kernel_rfl) (fun _ _ _ h => h) (Or.inl ⟨by rfl, fun w' hw => ?hy⟩) hHeld ?_
              case hy => (try dsimp only at hw); go_simp
              simp only [Act.put, List.setIfInBounds_toArray, List.set_cons_zero, List.set_cons_succ]
              refine wpAnyH_take (i := 12) (oi := ⟨some 91, _, _, _, _, _⟩) (v := .pointer (some ⟨g, v, none⟩)) rfl (by kernel_rfl) (by kernel_rfl) (by kernel_rfl) (fun _ _ _ h => h) (Or.inl ⟨by rfl, fun w' hw => ?hy⟩) hHeld ?_
              case hy => (try dsimp only at hw); go_simp
              simp only [Act.put, List.setIfInBounds_toArray, List.set_cons_zero, List.set_cons_succ]
              refine wpAnyH_take (i := 13) (oi := ⟨some 92, _, _, _, _, _⟩) (v := .int .i64 (zg d v)) rfl (by kernel_rfl) (by kernel_rfl) (by kernel_rfl) (fun _ _ _ h => h) (Or.inl ⟨by rfl, fun w' hw => ?hy⟩) hHeld ?_
              case hy => (try dsimp only at hw); go_simp
              simp only [Act.put, List.setIfInBounds_toArray, List.set_cons_zero, List.set_cons_succ]
              refine wpAnyH_take (i := 14) (oi := ⟨some 93, _, _, _, _, _⟩) (v := .agg #[.slice (some ad) ps.length ca, .slice B rs.length cb]) rfl (by kernel_rfl) (by kernel_rfl) (by kernel_rfl) (fun _ _ _ h => h) (Or.inl ⟨by rfl, fun w' hw => ?hy⟩) hHeld ?_
              case hy => (try dsimp only at hw); go_simp
              simp only [Act.put, List.setIfInBounds_toArray, List.set_cons_zero, List.set_cons_succ]
              refine wpAnyH_take (i := 15) (oi := ⟨some 94, _, _, _, _, _⟩) (v := .int .i64 (v : Int)) rfl (by kernel_rfl) (by kernel_rfl) (by kernel_rfl) (fun _ _ _ h => h) (Or.inl ⟨by rfl, fun w' hw => ?hy⟩) hHeld ?_
              case hy => (try dsimp only at hw); go_simp
              simp only [Act.put, List.setIfInBounds_toArray, List.set_cons_zero, List.set_cons_succ]
              refine wpAnyH_take (i := 17) (oi := ⟨some 96, _, _, _, _, _⟩) (v := .int .i64 (S : Int)) rfl (by kernel_rfl) (by kernel_rfl) (by kernel_rfl) (fun _ _ _ h => h) (Or.inl ⟨by rfl, fun w' hw => ?hy⟩) hHeld ?_
              case hy => (try dsimp only at hw); go_simp
              simp only [Act.put, List.setIfInBounds_toArray, List.set_cons_zero, List.set_cons_succ]
              refine wpAnyH_ready (rs := [16]) (by kernel_rfl) (by simp) ?_
              refine AllReadyH.cons (o := ⟨some 95, _, _, _, _, _⟩) rfl (fun K hK => ?_) AllReadyH.nil
              go_simp
              refine (HDT1.out _ _ _ _ _ (DvC.n hHeld).1 (DvC.n hHeld).2).mono ?_; rintro e w6 ⟨b6', o6, c6, rfl, cS, b6⟩
              go_wp2_with fail
              refine hK.out _ _ ?_ (fun hHeld => ?_)
              · exact DvC.under b6 hHeld
              clear hK K
              try simp only [Act.put, List.setIfInBounds_toArray, List.set_cons_zero, List.set_cons_succ]
              clear b6
              refine wpAnyH_mono (S' := fun w' => DvC w w1.heap.size (some ad) B ca cb ps rs (some ⟨g, 0, none⟩) d g v (zg d v) w' ∧ w'.cell? ⟨b6', o6 + S, none⟩ = some (.int .i64 (zg d v))) (fun _ h => h.1) _ _ _ _ ?_
              replace hHeld : DvC w w1.heap.size (some ad) B ca cb ps rs (some ⟨g, 0, none⟩) d g v (zg d v) w6 ∧ w6.cell? ⟨b6', o6 + S, none⟩ = some (.int .i64 (zg d v)) := ⟨hHeld, cS⟩
              clear cS
              refine wpAnyH_take (i := 18) (oi := ⟨some 97, _, _, _, _, _⟩) (v := .pointer (some ⟨b6', o6 + S, none⟩)) rfl (by kernel_rfl) (by kernel_rfl) (by kernel_rfl) (fun _ _ _ h => h) (Or.inl ⟨by rfl, fun w' hw => ?hy⟩) hHeld ?_
              case hy => (try dsimp only at hw); go_simp
              simp only [Act.put, List.setIfInBounds_toArray, List.set_cons_zero, List.set_cons_succ]
              refine wpAnyH_take (i := 19) (oi := ⟨some 98, _, _, _, _, _⟩) (v := .int .i64 (zg d v)) rfl (by kernel_rfl) (by kernel_rfl) (by kernel_rfl) (fun _ _ _ h => h) (Or.inl ⟨by rfl, fun w' hw => ?hy⟩) hHeld ?_
              case hy => (try dsimp only at hw); go_simp
              simp only [Act.put, List.setIfInBounds_toArray, List.set_cons_zero, List.set_cons_succ]
              refine wpAnyH_take (i := 20) (oi := ⟨some 99, _, _, _, _, _⟩) (v := .bool false) rfl (by kernel_rfl) (by kernel_rfl) (by kernel_rfl) (fun _ _ _ h => h) (Or.inl ⟨by rfl, fun w' hw => ?hy⟩) hHeld ?_
              case hy => (try dsimp only at hw); go_simp
              simp only [Act.put, List.setIfInBounds_toArray, List.set_cons_zero, List.set_cons_succ]
              refine wpAnyH_take (i := 21) (oi := ⟨some 100, _, _, _, _, _⟩) (v := .bool false) rfl (by kernel_rfl) (by kernel_rfl) (by kernel_rfl) (fun _ _ _ h => h) (Or.inl ⟨by rfl, fun w' hw => ?hy⟩) hHeld ?_
              case hy => (try dsimp only at hw); go_simp
              simp only [Act.put, List.setIfInBounds_toArray, List.set_cons_zero, List.set_cons_succ]
              refine wpAnyH_take (i := 22) (oi := ⟨some 101, _, _, _, _, _⟩) (v := .bool false) rfl (by kernel_rfl) (by kernel_rfl) (by kernel_rfl) (fun _ _ _ h => h) (Or.inl ⟨by rfl, fun w' hw => ?hy⟩) hHeld ?_
              case hy => (try dsimp only at hw); go_simp
              simp only [Act.put, List.setIfInBounds_toArray, List.set_cons_zero, List.set_cons_succ]
              refine wpAnyH_take (i := 23) (oi := ⟨some 102, _, _, _, _, _⟩) (v := .slice (some ⟨g, 0, none⟩) ps.length ps.length) rfl (by kernel_rfl) (by kernel_rfl) (by kernel_rfl) (fun _ _ _ h => h) (Or.inl ⟨by rfl, fun w' hw => ?hy⟩) hHeld ?_
              case hy => (try dsimp only at hw); go_simp
              simp only [Act.put, List.setIfInBounds_toArray, List.set_cons_zero, List.set_cons_succ]
              refine wpAnyH_take (i := 24) (oi := ⟨some 103, _, _, _, _, _⟩) (v := .int .i64 (v : Int)) rfl (by kernel_rfl) (by kernel_rfl) (by kernel_rfl) (fun _ _ _ h => h) (Or.inl ⟨by rfl, fun w' hw => ?hy⟩) hHeld ?_
              case hy => (try dsimp only at hw); go_simp
              simp only [Act.put, List.setIfInBounds_toArray, List.set_cons_zero, List.set_cons_succ]
              refine wpAnyH_take (i := 25) (oi := ⟨some 104, _, _, _, _, _⟩) (v := .pointer (some ⟨g, v, none⟩)) rfl (by kernel_rfl) (by kernel_rfl) (by kernel_rfl) (fun _ _ _ h => h) (Or.inl ⟨by rfl, fun w' hw => ?hy⟩) hHeld ?_
              case hy => (try dsimp only at hw); go_simp
              simp only [Act.put, List.setIfInBounds_toArray, List.set_cons_zero, List.set_cons_succ]
              refine wpAnyH_take (i := 26) (oi := ⟨some 105, _, _, _, _, _⟩) (v := .int .i64 (zg d v)) rfl (by kernel_rfl) (by kernel_rfl) (by kernel_rfl) (fun _ _ _ h => h) (Or.inl ⟨by rfl, fun w' hw => ?hy⟩) hHeld ?_
              case hy => (try dsimp only at hw); go_simp
              simp only [Act.put, List.setIfInBounds_toArray, List.set_cons_zero, List.set_cons_succ]
              refine wpAnyH_take (i := 27) (oi := ⟨some 106, _, _, _, _, _⟩) (v := .agg #[.slice (some ad) ps.length ca, .slice B rs.length cb]) rfl (by kernel_rfl) (by kernel_rfl) (by kernel_rfl) (fun _ _ _ h => h) (Or.inl ⟨by rfl, fun w' hw => ?hy⟩) hHeld ?_
              case hy => (try dsimp only at hw); go_simp
              simp only [Act.put, List.setIfInBounds_toArray, List.set_cons_zero, List.set_cons_succ]
              refine wpAnyH_take (i := 29) (oi := ⟨some 108, _, _, _, _, _⟩) (v := .int .i64 (v : Int)) rfl (by kernel_rfl) (by kernel_rfl) (by kernel_rfl) (fun _ _ _ h => h) (Or.inl ⟨by rfl, fun w' hw => ?hy⟩) hHeld ?_
              case hy => (try dsimp only at hw); go_simp
              simp only [Act.put, List.setIfInBounds_toArray, List.set_cons_zero, List.set_cons_succ]
              refine wpAnyH_take (i := 30) (oi := ⟨some 109, _, _, _, _, _⟩) (v := .int .i64 (S : Int)) rfl (by kernel_rfl) (by kernel_rfl) (by kernel_rfl) (fun _ _ _ h => h) (Or.inl ⟨by rfl, fun w' hw => ?hy⟩) hHeld ?_
              case hy => (try dsimp only at hw); go_simp
              simp only [Act.put, List.setIfInBounds_toArray, List.set_cons_zero, List.set_cons_succ]
              refine wpAnyH_ready (rs := [28]) (by kernel_rfl) (by simp) ?_
              refine AllReadyH.cons (o := ⟨some 107, _, _, _, _, _⟩) rfl (fun K hK => ?_) AllReadyH.nil
              go_simp
              refine (HTU.out _ _ _ _ _ (DvC.n hHeld.1).1 (DvC.n hHeld.1).2).mono ?_; rintro e w7 ⟨A7, B7, ca7, cb7, rfl, OP7, OR7, -, b7⟩
              go_wp2_with fail
              refine hK.out _ _ ?_ (fun hHeld => ?_)
              · exact ⟨DvC.under b7 hHeld.1, cell_under b7 hHeld.2⟩
              clear hK K
              try simp only [Act.put, List.setIfInBounds_toArray, List.set_cons_zero, List.set_cons_succ]
              have P7 := own_pts OP7
              have R7 := own_arcs OR7
              clear b7 OP7 OR7
              refine wpAnyH_ready (rs := [31]) (by kernel_rfl) (by simp) ?_
              refine AllReadyH.cons (o := ⟨some 110, _, _, _, _, _⟩) rfl (fun K hK => ?_) AllReadyH.nil
              go_simp
              refine (HBT1.out _ _ _ _ _ P7 R7).mono ?_; rintro e w8 ⟨rfl, b8⟩
              go_wp2_with fail
              refine hK.out _ _ ?_ (fun hHeld => ?_)
              · exact ⟨DvC.under b8 hHeld.1, cell_under b8 hHeld.2⟩
              clear hK K
              try simp only [Act.put, List.setIfInBounds_toArray, List.set_cons_zero, List.set_cons_succ]
              clear b8 P7 R7
              refine wpAnyH_take (i := 32) (oi := ⟨some 111, _, _, _, _, _⟩) (v := .bool false) rfl (by kernel_rfl) (by kernel_rfl) (by kernel_rfl) (fun _ _ _ h => h) (Or.inl ⟨by rfl, fun w' hw => ?hy⟩) hHeld ?_
              case hy => (try dsimp only at hw); go_simp
              simp only [Act.put, List.setIfInBounds_toArray, List.set_cons_zero, List.set_cons_succ]
              refine wpAnyH_take (i := 33) (oi := ⟨some 112, _, _, _, _, _⟩) (v := .bool false) rfl (by kernel_rfl) (by kernel_rfl) (by kernel_rfl) (fun _ _ _ h => h) (Or.inl ⟨by rfl, fun w' hw => ?hy⟩) hHeld ?_
              case hy => (try dsimp only at hw); go_simp
              simp only [Act.put, List.setIfInBounds_toArray, List.set_cons_zero, List.set_cons_succ]
              refine wpAnyH_done (by kernel_rfl) ?_ _
              -- REGION ENDS
              replace hHeld := hHeld.1
              clear HBE1 HDT1 HBT1 hne
              obtain ⟨T, dV⟩ := hHeld
              have hdv := HV.out v hlt
              by_cases h1 : zg d v = -1
              · rw [h1] at dV
                go_wp2
                clear dV
                go_roundw
                case rel => exact ⟨v + 1, by omega, by go_num, T⟩
                case measure => simp [intOf]; omega
              · have h1' : (zg d v == -1) = false := beq_eq_false_iff_ne.2 h1
                by_cases h2 : v = S
                · subst h2
                  go_wp2
                  clear dV
                  go_roundw
                  case rel => exact ⟨v + 1, by omega, by go_num, T⟩
                  case measure => simp [intOf]; omega
                · have h2' : (((v : Nat) : Int) == ((S : Nat) : Int)) = false := beq_eq_false_iff_ne.2 (by omega)
                  have HAK := Lib.hid (alongK_all (HAL.out v hlt h2 h1))
                  go_wp2
                  clear dV
                  go_loopw [9, 10] (fun b i wr => ∃ q : Nat, q ≤ rs.length ∧ i = .int .i64 q ∧ b = .bool (alongK rs d v q) ∧ DvS w w1.heap.size (some ad) B ca cb ps rs (some ⟨g, 0, none⟩) d wr) (fun _ i _ => rs.length - (intOf i).toNat)
                  case atStart => exact ⟨0, by omega, rfl, rfl, T⟩
                  case round =>
                    clear T
                    obtain ⟨q, hq, rfl, rfl, T⟩ := hrel
                    obtain ⟨x0, x1⟩ := DvS.cells T
                    by_cases hlq : q < rs.length
                    · obtain ⟨b, off, rfl, -, c0, c1, c2⟩ := (DvS.n T).2.at_ hlq
                      obtain ⟨⟨f0, f1⟩, ⟨t0, t1⟩, hft, l0, l1⟩ := HA.out _ (arg_mem hlq)
                      have HK1 := Lib.hid (show alongK rs d v (q + 1) = (alongK rs d v q || alongB d v (arg rs q)) from rfl)
                      generalize arg rs q = a at c0 c1 c2 f0 f1 t0 t1 hft l0 l1 HK1
                      obtain ⟨f, t, L⟩ := a
                      obtain ⟨F, rfl⟩ : ∃ F : Nat, f = (F : Int) := ⟨f.toNat, by simp at f0; omega⟩
                      obtain ⟨U, rfl⟩ : ∃ U : Nat, t = (U : Int) := ⟨t.toNat, by simp at t0; omega⟩
                      simp only at c0 c1 c2 f0 f1 t0 t1 hft l0 l1
                      have hF : F < ps.length := by omega
                      have hx := HV.out F hF
                      have k1 := below1 wr (.cells #[.int .i64 (F : Int), .int .i64 (U : Int), .int .i64 L] 34)
                      have Y : ArcBox (wr.alloc (.cells #[.int .i64 (F : Int), .int .i64 (U : Int), .int .i64 L] 34)) wr.heap.size F U L := arc_new wr F U L _
                      have T1 := DvS.under k1 T
                      obtain ⟨b1, o1, e1, -, dF⟩ := (DvS.d T1).at_ (k := F) (by rw [HL.out]; exact hF)
                      cases e1
                      obtain ⟨b2, o2, e2, -, dV⟩ := (DvS.d T1).at_ (k := v) (by rw [HL.out]; exact hlt)
                      cases e2
                      rw [Nat.zero_add] at dF dV
                      obtain ⟨y0, y1, y2⟩ := Y.cells
                      clear T k1 f0 f1 t0 t1 hft Y
                      have HDEF := Lib.hid (show alongB d v ((F : Int), (U : Int), L) = decide (((U : Nat) : Int) = (v : Int) ∧ zg d F ≠ -1 ∧ zg d F + L = zg d v) from rfl)
                      cases hak : alongK rs d v q with
                      | true =>
                        have HB := Lib.hid (show (alongK rs d v q || alongB d v ((F : Int), (U : Int), L)) = true by rw [hak]; rfl)
                        go_wp2_with fail
                        go_quiet (fail)
                        clear x0 x1 c0 c1 c2 dF y0 y1 y2 dV
                        go_wp2
                        go_roundw
                        case rel => exact ⟨q + 1, by omega, by go_num, by rw [HK1.out, HB.out]; try rfl, DvS.under (below_drewN (Below.refl _ _) _) T1⟩
                        case measure => simp [intOf]; omega
                      | false =>
                        by_cases h3 : U = v
                        · subst h3
                          have h3' : (((U : Nat) : Int) == ((U : Nat) : Int)) = true := by simp
                          by_cases h4 : zg d F = -1
                          · have HB := Lib.hid (show (alongK rs d U q || alongB d U ((F : Int), (U : Int), L)) = false by rw [hak, HDEF.out]; exact decide_eq_false (fun h => h.2.1 h4))
                            rw [h4] at dF
                            go_wp2_with fail
                            go_quiet (fail)
                            clear x0 x1 c0 c1 c2 dF y0 y1 y2 dV
                            go_wp2
                            go_roundw
                            case rel => exact ⟨q + 1, by omega, by go_num, by rw [HK1.out, HB.out]; try rfl, DvS.under (below_drewN (Below.refl _ _) _) T1⟩
                            case measure => simp [intOf]; omega
                          · have h4' : (zg d F != -1) = true := by simpa using h4
                            have hwr : IntKind.i64.wrap (zg d F + L) = zg d F + L := by rw [IntWalk.i64_left]; unfold wrap64; omega
                            cases h5 : (zg d F + L == zg d U) with
                            | true =>
                              have HB := Lib.hid (show (alongK rs d U q || alongB d U ((F : Int), (U : Int), L)) = true by rw [hak, HDEF.out]; exact decide_eq_true ⟨rfl, h4, eq_of_beq h5⟩)
                              clear h4
                              generalize zg d F = x at dF h4' h5 hwr hx HDEF
                              go_wp2_with fail
                              go_quiet (fail)
                              clear x0 x1 c0 c1 c2 dF y0 y1 y2 dV
                              go_wp2
                              go_roundw
                              case rel => exact ⟨q + 1, by omega, by go_num, by rw [HK1.out, HB.out]; try rfl, DvS.under (below_drewN (Below.refl _ _) _) T1⟩
                              case measure => simp [intOf]; omega
                            | false =>
                              have HB := Lib.hid (show (alongK rs d U q || alongB d U ((F : Int), (U : Int), L)) = false by rw [hak, HDEF.out]; exact decide_eq_false (fun h => by rw [h.2.2] at h5; simp at h5))
                              clear h4
                              generalize zg d F = x at dF h4' h5 hwr hx HDEF
                              go_wp2_with fail
                              go_quiet (fail)
                              clear x0 x1 c0 c1 c2 dF y0 y1 y2 dV
                              go_wp2
                              go_roundw
                              case rel => exact ⟨q + 1, by omega, by go_num, by rw [HK1.out, HB.out]; try rfl, DvS.under (below_drewN (Below.refl _ _) _) T1⟩
                              case measure => simp [intOf]; omega
                        · have h3' : (((U : Nat) : Int) == ((v : Nat) : Int)) = false := beq_eq_false_iff_ne.2 (by omega)
                          have HB := Lib.hid (show (alongK rs d v q || alongB d v ((F : Int), (U : Int), L)) = false by rw [hak, HDEF.out]; exact decide_eq_false (fun h => h3 (by have := h.1; omega)))
                          go_wp2_with fail
                          go_quiet (fail)
                          clear x0 x1 c0 c1 c2 dF y0 y1 y2 dV
                          go_wp2
                          go_roundw
                          case rel => exact ⟨q + 1, by omega, by go_num, by rw [HK1.out, HB.out]; try rfl, DvS.under (below_drewN (Below.refl _ _) _) T1⟩
                          case measure => simp [intOf]; omega
                    · obtain rfl : q = rs.length := by omega
                      rw [HAK.out]
                      go_wp2
                      clear x0 x1
                      go_roundw
                      case rel => exact ⟨v + 1, by omega, by go_num, T⟩
                      case measure => simp [intOf]; omega
            · obtain rfl : v = ps.length := by omega
              obtain ⟨b1, o1, e1, -, dS⟩ := (DvS.d T).at_ (k := S) (by rw [HL.out]; exact hS)
              cases e1
              rw [Nat.zero_add, HSR.out] at dS
              obtain ⟨x0, x1⟩ := DvS.cells T
              go_wp2_with fail
              clear x0 x1 dS
              refine (HSD.out _ _ _ _ _ (DvS.n T).1 (DvS.n T).2).mono ?_; rintro e w9 ⟨rfl, b9⟩
              have kk := DvS.bel (DvS.under b9 T)
              clear T b9
              go_wp2
              go_ret
              exact ⟨rfl, kk⟩

/-! ### THE ROW's STEP: WRITTEN OUT: LEAVE IT -/
set_option maxRecDepth 100000 in
theorem lifted (os : Os) (started : os.Started) (H : Type) (enc : TypeId × Value → H) :
    ReturnsInHanded {} Try.checked os 3 .any (Rows.fnDistancesSpec.pre6 enc Try.prog Try.f3 Rows.fnDistancesRow.domain false) (Rows.fnDistancesSpec.post enc Try.prog Try.f3 false true false false) := by
  refine returnsInHanded_of_change (C := Try.checked) own started (by kernel_rfl) Try.func3
    (ChangeSpec.witness6 (enc := enc) (C := Try.checked) false ⟨#[], #[.slice none 0 0], []⟩ 8 (by kernel_rfl) (by kernel_rfl) (by kernel_rfl) (by kernel_rfl)) ?_
  intro W base args ds gs before hval0 hW hcnd _
  have hval : ∀ (j : Nat) t v, Try.f3.params[j]? = some t → args[j]? = some v → Value.okWide Try.prog W .any base t v := hval0
  have hW' := hW
  obtain ⟨p, q, hA0, hV, rfl, hfz, hnd⟩ := hW
  have hA : DataW.TrodAll enc Try.prog W 0 (fun _ => true) true Try.f3.params.toList args.toList ds p := hA0
  rw [Try.params3] at hA hval
  obtain ⟨v0, vs0, d0, ds0, p0, q0, hargs, rfl, rfl, h0, r0⟩ := trodAll_cons hA
  obtain ⟨rfl, rfl, rfl⟩ := trodAll_nil r0
  obtain rfl : args = #[v0] := by cases args; simp_all
  obtain ⟨rfl, rfl⟩ := trodVars_none hV
  obtain ⟨a0, len0, cap0, rfl⟩ := okWide_slice Try.underlying22 (hval 0 22 v0 rfl rfl)
  have k0 := h0
  have lt0 : ∀ x ∈ p0, x.block < W.heap.size := by obtain ⟨m, hm⟩ := k0; exact DataW.trod_lt m _ _ _ hm
  obtain ⟨z0, w0⟩ : ∃ zs, IsRow .u8 W a0 len0 cap0 zs := by
    obtain ⟨fuel, hf⟩ := h0
    rcases open_ints Try.underlying22 Try.underlying5 (by kernel_rfl) hf with ⟨hcs, _⟩ | ⟨x, l, c, zs, hcs, _, hl, hm, hz, _, hcell, hwz⟩
    · simp [Value.cells] at hcs
      obtain ⟨rfl, rfl, rfl⟩ := hcs
      exact ⟨[], .inl ⟨rfl, rfl, rfl, rfl⟩⟩
    · simp [Value.cells] at hcs
      obtain ⟨rfl, rfl, rfl⟩ := hcs
      exact ⟨zs, .inr ⟨_, rfl, hl, hm, by simpa using hz, hcell, hwz⟩⟩
  clear hA0 hval0
  refine (walk a0 len0 cap0 z0 W w0).mono fun e W' ⟨he, bel⟩ => ?_
  subst he
  exact ⟨_, rfl, _, _, _, [], _, [], hW', trodAll_mk1 (shut_bool Try.underlying4 _), (trodAll_cons_mk (Below.trod laidOut (by kernel_rfl) (of_decide_eq_true (by kernel_rfl)) k0 bel lt0) trodAll_mk0), rfl, bel.frame _, fun h => by cases h⟩

theorem over : Rows.fnDistancesRow.holds Try.pinned (OpenSpec.ofChange Rows.fnDistancesSpec) :=
  OpenClaim.holds_of_wide 3 Try.f3 rfl rfl rfl rfl rfl rfl rfl ⟨rfl, rfl, rfl, rfl, rfl⟩ rfl rfl rfl rfl rfl (by kernel_rfl) Try.func3 (by kernel_rfl)
    (of_decide_eq_true (by kernel_rfl)) (by unfold Func.isWrapper; first | (rw [if_pos (by decide +kernel)]; kernel_rfl) | (rw [if_neg (by decide +kernel)]; exact ⟨rfl, rfl⟩))
    (fun os started H enc _ => lifted os started H enc)

/-- ████ THE STATEMENT ████ -/
theorem proved : Rows.FnDistancesSaid := over
#print axioms proved
end Go.Proofs.Ytjaifbbkfgfdeaa.fnDistances
