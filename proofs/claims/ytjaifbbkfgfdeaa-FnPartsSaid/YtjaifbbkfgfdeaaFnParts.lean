/-
  For every slice of bytes the law FnParts returns true: of the network drawn from it the program's Parts is the specification's, and exactly the nodes of one component can reach each other (no condition).
-/
import Derived.Test.YtjaifbbkfgfdeaaRows
import Derived.WalkKit
import Derived.ProofKit
import Derived.OpenShut
import Derived.ShutString
import Derived.ChangeOld
import Derived.Below
import Derived.Test.YtjaifbbkfgfdeaaDistLaw
import Derived.Test.YtjaifbbkfgfdeaaPartsIm
namespace Go.Proofs.Ytjaifbbkfgfdeaa.fnParts
open Go.ChangeShapes Go.WideShapes Go.ChangeAt Go.RowKit
open Go.ChangeMaps (open_string shut_string)
set_option linter.unusedVariables false

theorem own : ownKnob Try.prog.godebug = none := by kernel_rfl
theorem laidOut : laidOutB Try.prog = true := by kernel_rfl

/-- WHAT THE WALK IS TOLD OF A SLICE OF INTEGERS THAT CAME IN: it is nil; or it leads to a row of 'cap' cells, the numbers 'zs' (the first 'len' are its elements, the rest its spare room), each fitting its kind. -/
def IsRow (k : IntKind) (w : World) (a : Option Addr) (len cap : Nat) (zs : List Int) : Prop :=
  (a = none ∧ len = 0 ∧ cap = 0 ∧ zs = []) ∨
  ∃ x, a = some x ∧ len ≤ cap ∧ cap ≤ maxLen ∧ zs.length = cap ∧ (∀ i, i < zs.length → w.cell? (x.add i) = some (.int k (zs.getD i 0))) ∧ ∀ n ∈ zs, (Lit.int k n).wf = true

theorem zg_prtL {n : Nat} {rs : List A3} {u : Nat} (hu : u < n) : zg (prtL n rs n) u = (prt n rs u : Int) := by unfold prtL zg; rw [List.getD_eq_getElem?_getD]; simp [hu]
/-- What the inner round reads: the network's box, two numbers of the list. -/
abbrev PvS (base : World) (x : Nat) (A B : Option Addr) (ca cb : Nat) (ps : List (Int × Int)) (rs : List A3) (D : Option Addr) (zs : List Int) (b o1 o2 : Nat) (z1 z2 : Int) (w : World) : Prop :=
  DvS base x A B ca cb ps rs D zs w ∧ w.cell? ⟨b, o1, none⟩ = some (.int .i64 z1) ∧ w.cell? ⟨b, o2, none⟩ = some (.int .i64 z2)
section
variable {base w w' : World} {x : Nat} {A B : Option Addr} {ca cb : Nat} {ps : List (Int × Int)} {rs : List A3} {D : Option Addr} {zs : List Int} {b o1 o2 : Nat} {z1 z2 : Int}
theorem PvS.under (hb : Below w.heap.size w w') (h : PvS base x A B ca cb ps rs D zs b o1 o2 z1 z2 w) : PvS base x A B ca cb ps rs D zs b o1 o2 z1 z2 w' := ⟨DvS.under hb h.1, cell_under hb h.2.1, cell_under hb h.2.2⟩
theorem PvS.drew (h : PvS base x A B ca cb ps rs D zs b o1 o2 z1 z2 w) : PvS base x A B ca cb ps rs D zs b o1 o2 z1 z2 w.drew := ⟨DvS.drew h.1, h.2⟩
theorem PvS.n (h : PvS base x A B ca cb ps rs D zs b o1 o2 z1 z2 w) : IsPts w A ps ∧ IsArcs w B rs := DvS.n h.1
end

/-! ### STEP 1: THE WALK: the Go text returns true, AND WRITES NOTHING THAT WAS THERE: 'Below w.heap.size w w'' (Derived/Below.lean: '.refl', '.alloc', '.drew', '.setCell' at a new block, '.trans'). Open each 'IsRow' by 'rcases' AHEAD of 'go_enter'; part every test ahead of the walk. -/
set_option maxHeartbeats 4000000 in
set_option maxRecDepth 100000 in
theorem walk (a0 : Option Addr) (len0 cap0 : Nat) (z0 : List Int) (w : World) (w0 : IsRow .u8 w a0 len0 cap0 z0) :
    Calls Try.prog 4 #[.slice a0 len0 cap0] w fun e w' => e = .returned (.bool true) ∧ Below w.heap.size w w' := by
  have hcode := codeIn_of w0
  clear w0
  by_cases hbig : 1048576 < len0
  · have hd : decide ((1048576 : Int) < len0) = true := by simp; omega
    go_enter Try.func4, Try.ntmps4
    go_wp2_with (go_at_call 10; refine (big_any _ _ _ _).mono ?_; rintro e w' ⟨rfl, rfl⟩)
    go_ret
    exact ⟨rfl, Below.refl _ _⟩
  · have hd : decide ((1048576 : Int) < len0) = false := by simp; omega
    go_enter Try.func4, Try.ntmps4
    go_wp2_with fail
    refine (big_any _ _ _ _).mono ?_; rintro e w' ⟨rfl, rfl⟩
    go_wp2_with fail
    refine (drawParts_any w a0 len0 cap0 hcode (by omega)).mono ?_
    rintro e w1 ⟨ad, B, ca, cb, ps, rs, rfl, h2, h21, h100, IP, IA, b1⟩
    have X := Pair.new w1 27 (.slice (some ad) ps.length ca) (.slice B rs.length cb)
    have k1 := below1 w1 (.cells #[.slice (some ad) ps.length ca, .slice B rs.length cb] 27)
    replace IP := IP.below k1
    replace IA := IA.below k1
    replace b1 := b1.trans (k1.mono b1.size)
    clear k1
    cases hok : netB ps rs with
    | false =>
      have HS : Hid (∀ (A B : Option Addr) (ca cb : Nat) (w : World), IsPts w A ps → IsArcs w B rs → Calls Try.prog 21 #[.agg #[.slice A ps.length ca, .slice B rs.length cb]] w (fun e w' => ∃ A c, e = .returned (.slice A 0 c) ∧ Below w.heap.size w w')) := Lib.hid (fun A B ca cb w g1 g2 => (specParts_no A B ca cb ps rs w (by omega) (by omega) g1 g2 hok).mono fun e w' ⟨A, c, he, _, _, b⟩ => ⟨A, c, he, b⟩)
      have HI : Hid (∀ (A B : Option Addr) (ca cb : Nat) (w : World), IsPts w A ps → IsArcs w B rs → Calls Try.prog 20 #[.agg #[.slice A ps.length ca, .slice B rs.length cb]] w (fun e w' => ∃ A c, e = .returned (.slice A 0 c) ∧ Below w.heap.size w w')) := Lib.hid (fun A B ca cb w g1 g2 => (implParts_no A B ca cb ps rs w (by omega) (by omega) g1 g2 hok).mono fun e w' ⟨A, c, he, _, _, b⟩ => ⟨A, c, he, b⟩)
      clear hok
      go_wp2_with fail
      refine (HI.out _ _ _ _ _ IP IA).mono ?_; rintro e w2 ⟨A2, c2, rfl, b2⟩
      have T : DvS w w1.heap.size (some ad) B ca cb ps rs A2 [] w2 := ⟨(X.below b2).cells.1, (X.below b2).cells.2.1, IP.below b2, IA.below b2, fun h => by simp at h, b1.trans (b2.mono b1.size)⟩
      clear IP IA X b1 b2 HI
      obtain ⟨x0, x1⟩ := DvS.cells T
      go_wp2_with fail
      clear x0 x1
      refine (HS.out _ _ _ _ _ (DvS.n T).1 (DvS.n T).2).mono ?_; rintro e w3 ⟨A3', c3, rfl, b3⟩
      replace T := DvS.under b3 T
      clear b3 HS
      go_wp2_with fail
      refine (same_bel A2 A3' c2 c3 0 [] _ (by omega) rfl (fun h => by simp at h) (fun h => by simp at h)).mono ?_; rintro e w4 ⟨rfl, b4⟩
      replace T := DvS.under b4 T
      clear b4
      obtain ⟨x0, x1⟩ := DvS.cells T
      have kk := DvS.bel T
      have hl0 : ((0 : Int) == ((ps.length : Nat) : Int)) = false := beq_eq_false_iff_ne.2 (by omega)
      go_wp2
      refine wp_loop_rounds 1 ?_; rw [rounds_succ]
      go_wp2
      go_ret
      exact ⟨rfl, kk⟩
    | true =>
      obtain ⟨h20, h70, -, -⟩ := netB_iff.1 hok
      have hr := arcsIn_net hok
      have HSP : Hid (∀ (A B : Option Addr) (ca cb : Nat) (w : World), IsPts w A ps → IsArcs w B rs → Calls Try.prog 21 #[.agg #[.slice A ps.length ca, .slice B rs.length cb]] w (fun e w' => ∃ A c, e = .returned (.slice A ps.length c) ∧ IsInts w' A (prtL ps.length rs ps.length) ∧ Below w.heap.size w w')) := Lib.hid (fun A B ca cb w g1 g2 => (specParts_yes A B ca cb ps rs w g1 g2 hok).mono fun e w' ⟨A, c, he, _, o, b⟩ => ⟨A, c, by rw [he, prtL_len], o.ints, b⟩)
      have HIM : Hid (∀ (ad : Addr) (B : Option Addr) (ca cb : Nat) (w : World), IsPts w (some ad) ps → IsArcs w B rs → Calls Try.prog 20 #[.agg #[.slice (some ad) ps.length ca, .slice B rs.length cb]] w (fun e w' => ∃ g c, e = .returned (.slice (some g) ps.length c) ∧ IsInts w' (some g) (prtL ps.length rs ps.length) ∧ Below w.heap.size w w')) := Lib.hid (fun ad B ca cb w g1 g2 => (implParts_yes ad B ca cb ps rs w g1 g2 hok).mono fun e w' ⟨A, c, he, _, o, b⟩ => by
        obtain ⟨g, off, rfl, -, -⟩ := o (by rw [prtL_len]; omega)
        exact ⟨_, c, by rw [he, prtL_len], o.ints, b⟩)
      have HBE : Hid (∀ u v : Nat, u < ps.length → v < ps.length → ∀ (A B : Option Addr) (ca cb : Nat) (w : World), IsPts w A ps → IsArcs w B rs → Calls Try.prog 15 #[.agg #[.slice A ps.length ca, .slice B rs.length cb], .int .i64 (u : Int), .int .i64 (v : Int)] w (fun e w' => e = .returned (.int .i64 (zg (dst ps.length rs u) v)) ∧ Below w.heap.size w w')) := Lib.hid (fun u v hu hv A B ca cb w g1 g2 => by
        have h := implBetween_any A B ca cb ps rs u v w (by omega) (by omega) g1 g2
        rw [dB_yes hok hu hv] at h
        exact h)
      have HL := Lib.hid (prtL_len ps.length rs ps.length)
      have HZ := Lib.hid (fun u hu => zg_prtL (n := ps.length) (rs := rs) (u := u) hu)
      have HPL := Lib.hid (fun u hu => (prt_spec h20 hr (u := u) hu).1)
      have HPP := Lib.hid (fun u hu => prt_prt h20 hr (u := u) hu)
      have HSM := Lib.hid (fun u v hu hv => prt_same h20 hr (u := u) (v := v) hu hv)
      clear hok hr
      go_wp2_with fail
      refine (HIM.out _ _ _ _ _ IP IA).mono ?_; rintro e w2 ⟨g, c2, rfl, I2, b2⟩
      have T : DvS w w1.heap.size (some ad) B ca cb ps rs (some g) (prtL ps.length rs ps.length) w2 := ⟨(X.below b2).cells.1, (X.below b2).cells.2.1, IP.below b2, IA.below b2, I2, b1.trans (b2.mono b1.size)⟩
      clear IP IA X b1 b2 I2 HIM
      obtain ⟨x0, x1⟩ := DvS.cells T
      go_wp2_with fail
      clear x0 x1
      refine (HSP.out _ _ _ _ _ (DvS.n T).1 (DvS.n T).2).mono ?_; rintro e w3 ⟨A3', c3, rfl, I3, b3⟩
      replace T := DvS.under b3 T
      clear b3 HSP
      go_wp2_with fail
      refine (same_bel (some g) A3' _ c3 ps.length (prtL ps.length rs ps.length) _ (by omega) HL.out (DvS.d T) I3).mono ?_; rintro e w4 ⟨rfl, b4⟩
      replace T := DvS.under b4 T
      clear b4 I3
      obtain ⟨gb, go, eg, -, -⟩ := (DvS.d T).at_ (k := 0) (by rw [HL.out]; omega)
      injection eg with eg
      subst eg
      go_wp2
      go_loopw [5] (fun i wr => ∃ u : Nat, u ≤ ps.length ∧ i = .int .i64 u ∧ DvS w w1.heap.size (some ad) B ca cb ps rs (some ⟨gb, go, none⟩) (prtL ps.length rs ps.length) wr) (fun i _ => ps.length - (intOf i).toNat)
      case atStart => exact ⟨0, by omega, rfl, T⟩
      case round =>
        clear T
        obtain ⟨u, hu, rfl, T⟩ := hrel
        by_cases hlt : u < ps.length
        · have hpu := HPL.out u hlt
          have HPPu := Lib.hid (HPP.out u hlt)
          go_wp2
          go_loopw [6] (fun i wr => ∃ v : Nat, v ≤ ps.length ∧ i = .int .i64 v ∧ DvS w w1.heap.size (some ad) B ca cb ps rs (some ⟨gb, go, none⟩) (prtL ps.length rs ps.length) wr) (fun i _ => ps.length - (intOf i).toNat)
          case atStart => exact ⟨0, by omega, rfl, T⟩
          case round =>
            clear T
            obtain ⟨v, hv, rfl, T⟩ := hrel
            by_cases hlv : v < ps.length
            · have HB1 := Lib.hid (HBE.out u v hlt hlv)
              have HB2 := Lib.hid (HBE.out v u hlv hlt)
              have HSMv := Lib.hid (HSM.out u v hlt hlv)
              obtain ⟨b1, o1, e1, -, d1⟩ := (DvS.d T).at_ (k := u) (by rw [HL.out]; exact hlt)
              cases e1
              obtain ⟨b2, o2, e2, -, d2⟩ := (DvS.d T).at_ (k := v) (by rw [HL.out]; exact hlv)
              cases e2
              rw [HZ.out u hlt] at d1
              rw [HZ.out v hlv] at d2
              have C : PvS w w1.heap.size (some ad) B ca cb ps rs (some ⟨gb, go, none⟩) (prtL ps.length rs ps.length) gb (go + u) (go + v) (prt ps.length rs u) (prt ps.length rs v) wr := ⟨T, d1, d2⟩
              clear T d1 d2
              -- REGION BEGINS
              by_cases h1 : zg (dst ps.length rs u) v = -1
              · have hb : ((prt ps.length rs u : Int) == (prt ps.length rs v : Int)) = false := beq_eq_false_iff_ne.2 (fun e => by have := of_decide_eq_true ((HSMv.out).1 (by omega)); exact this.1 h1)
                rw [h1] at HB1
                generalize (prt ps.length rs u : Int) = pu at C hb
                generalize (prt ps.length rs v : Int) = pv at C hb
                go_wp2_with fail
                refine wp_region_held_drew (S := (fun w' => PvS w w1.heap.size (some ad) B ca cb ps rs (some ⟨gb, go, none⟩) (prtL ps.length rs ps.length) gb (go + u) (go + v) pu pv w')) (by kernel_rfl) ?_ (fun hHeld => ?_)
                · exact PvS.drew C
                clear C
                refine wpAnyH_take (i := 0) (oi := ⟨some 30, _, _, _, _, _⟩) (v := .slice (some ⟨gb, go, none⟩) ps.length c2) rfl (by kernel_rfl) (by kernel_rfl) (by kernel_rfl) (fun _ _ _ h => h) (Or.inl ⟨by rfl, fun w' hw => ?hy⟩) hHeld ?_
                case hy => (try dsimp only at hw); go_simp
                simp only [Act.put, List.setIfInBounds_toArray, List.set_cons_zero, List.set_cons_succ]
                refine wpAnyH_take (i := 1) (oi := ⟨some 31, _, _, _, _, _⟩) (v := .int .i64 (u : Int)) rfl (by kernel_rfl) (by kernel_rfl) (by kernel_rfl) (fun _ _ _ h => h) (Or.inl ⟨by rfl, fun w' hw => ?hy⟩) hHeld ?_
                case hy => (try dsimp only at hw); go_simp
                simp only [Act.put, List.setIfInBounds_toArray, List.set_cons_zero, List.set_cons_succ]
                refine wpAnyH_take (i := 2) (oi := ⟨some 32, _, _, _, _, _⟩) (v := .pointer (some ⟨gb, go + u, none⟩)) rfl (by kernel_rfl) (by kernel_rfl) (by kernel_rfl) (fun _ _ _ h => h) (Or.inl ⟨by rfl, fun w' hw => ?hy⟩) hHeld ?_
                case hy => (try dsimp only at hw); go_simp
                simp only [Act.put, List.setIfInBounds_toArray, List.set_cons_zero, List.set_cons_succ]
                refine wpAnyH_take (i := 3) (oi := ⟨some 33, _, _, _, _, _⟩) (v := .int .i64 pu) rfl (by kernel_rfl) (by kernel_rfl) (by kernel_rfl) (fun _ _ _ h => h) (Or.inl ⟨by rfl, fun w' hw => ?hy⟩) hHeld ?_
                case hy => (try dsimp only at hw); go_simp
                simp only [Act.put, List.setIfInBounds_toArray, List.set_cons_zero, List.set_cons_succ]
                refine wpAnyH_take (i := 4) (oi := ⟨some 34, _, _, _, _, _⟩) (v := .slice (some ⟨gb, go, none⟩) ps.length c2) rfl (by kernel_rfl) (by kernel_rfl) (by kernel_rfl) (fun _ _ _ h => h) (Or.inl ⟨by rfl, fun w' hw => ?hy⟩) hHeld ?_
                case hy => (try dsimp only at hw); go_simp
                simp only [Act.put, List.setIfInBounds_toArray, List.set_cons_zero, List.set_cons_succ]
                refine wpAnyH_take (i := 5) (oi := ⟨some 35, _, _, _, _, _⟩) (v := .int .i64 (v : Int)) rfl (by kernel_rfl) (by kernel_rfl) (by kernel_rfl) (fun _ _ _ h => h) (Or.inl ⟨by rfl, fun w' hw => ?hy⟩) hHeld ?_
                case hy => (try dsimp only at hw); go_simp
                simp only [Act.put, List.setIfInBounds_toArray, List.set_cons_zero, List.set_cons_succ]
                refine wpAnyH_take (i := 6) (oi := ⟨some 36, _, _, _, _, _⟩) (v := .pointer (some ⟨gb, go + v, none⟩)) rfl (by kernel_rfl) (by kernel_rfl) (by kernel_rfl) (fun _ _ _ h => h) (Or.inl ⟨by rfl, fun w' hw => ?hy⟩) hHeld ?_
                case hy => (try dsimp only at hw); go_simp
                simp only [Act.put, List.setIfInBounds_toArray, List.set_cons_zero, List.set_cons_succ]
                refine wpAnyH_take (i := 7) (oi := ⟨some 37, _, _, _, _, _⟩) (v := .int .i64 pv) rfl (by kernel_rfl) (by kernel_rfl) (by kernel_rfl) (fun _ _ _ h => h) (Or.inl ⟨by rfl, fun w' hw => ?hy⟩) hHeld ?_
                case hy => (try dsimp only at hw); go_simp
                simp only [Act.put, List.setIfInBounds_toArray, List.set_cons_zero, List.set_cons_succ]
                refine wpAnyH_take (i := 8) (oi := ⟨some 38, _, _, _, _, _⟩) (v := .bool false) rfl (by kernel_rfl) (by kernel_rfl) (by kernel_rfl) (fun _ _ _ h => h) (Or.inl ⟨by rfl, fun w' hw => ?hy⟩) hHeld ?_
                case hy => (try dsimp only at hw); go_simp
                simp only [Act.put, List.setIfInBounds_toArray, List.set_cons_zero, List.set_cons_succ]
                refine wpAnyH_take (i := 9) (oi := ⟨some 39, _, _, _, _, _⟩) (v := .agg #[.slice (some ad) ps.length ca, .slice B rs.length cb]) rfl (by kernel_rfl) (by kernel_rfl) (by kernel_rfl) (fun _ _ _ h => h) (Or.inl ⟨by rfl, fun w' hw => ?hy⟩) hHeld ?_
                case hy => (try dsimp only at hw); go_simp
                simp only [Act.put, List.setIfInBounds_toArray, List.set_cons_zero, List.set_cons_succ]
                refine wpAnyH_take (i := 10) (oi := ⟨some 40, _, _, _, _, _⟩) (v := .int .i64 (u : Int)) rfl (by kernel_rfl) (by kernel_rfl) (by kernel_rfl) (fun _ _ _ h => h) (Or.inl ⟨by rfl, fun w' hw => ?hy⟩) hHeld ?_
                case hy => (try dsimp only at hw); go_simp
                simp only [Act.put, List.setIfInBounds_toArray, List.set_cons_zero, List.set_cons_succ]
                refine wpAnyH_take (i := 11) (oi := ⟨some 41, _, _, _, _, _⟩) (v := .int .i64 (v : Int)) rfl (by kernel_rfl) (by kernel_rfl) (by kernel_rfl) (fun _ _ _ h => h) (Or.inl ⟨by rfl, fun w' hw => ?hy⟩) hHeld ?_
                case hy => (try dsimp only at hw); go_simp
                simp only [Act.put, List.setIfInBounds_toArray, List.set_cons_zero, List.set_cons_succ]
                refine wpAnyH_ready (rs := [12]) (by kernel_rfl) (by simp) ?_
                refine AllReadyH.cons (o := ⟨some 42, _, _, _, _, _⟩) rfl (fun K hK => ?_) AllReadyH.nil
                go_simp
                refine (HB1.out _ _ _ _ _ (PvS.n hHeld).1 (PvS.n hHeld).2).mono ?_; rintro e w5 ⟨rfl, b5⟩
                go_wp2_with fail
                refine hK.out _ _ ?_ (fun hHeld => ?_)
                · exact PvS.under b5 hHeld
                clear hK K
                try simp only [Act.put, List.setIfInBounds_toArray, List.set_cons_zero, List.set_cons_succ]
                clear b5
                refine wpAnyH_take (i := 13) (oi := ⟨some 43, _, _, _, _, _⟩) (v := .bool false) rfl (by kernel_rfl) (by kernel_rfl) (by kernel_rfl) (fun _ _ _ h => h) (Or.inl ⟨by rfl, fun w' hw => ?hy⟩) hHeld ?_
                case hy => (try dsimp only at hw); go_simp
                simp only [Act.put, List.setIfInBounds_toArray, List.set_cons_zero, List.set_cons_succ]
                refine wpAnyH_take (i := 14) (oi := ⟨some 44, _, _, _, _, _⟩) (v := .bool false) rfl (by kernel_rfl) (by kernel_rfl) (by kernel_rfl) (fun _ _ _ h => h) (Or.inl ⟨by rfl, fun w' hw => ?hy⟩) hHeld ?_
                case hy => (try dsimp only at hw); go_simp
                simp only [Act.put, List.setIfInBounds_toArray, List.set_cons_zero, List.set_cons_succ]
                refine wpAnyH_take (i := 15) (oi := ⟨some 45, _, _, _, _, _⟩) (v := undef) rfl (by kernel_rfl) (by kernel_rfl) (by kernel_rfl) (fun _ _ _ h => h) (Or.inr ⟨by rfl, rfl⟩) hHeld ?_
                simp only [Act.put, List.setIfInBounds_toArray, List.set_cons_zero, List.set_cons_succ]
                refine wpAnyH_take (i := 16) (oi := ⟨some 46, _, _, _, _, _⟩) (v := undef) rfl (by kernel_rfl) (by kernel_rfl) (by kernel_rfl) (fun _ _ _ h => h) (Or.inr ⟨by rfl, rfl⟩) hHeld ?_
                simp only [Act.put, List.setIfInBounds_toArray, List.set_cons_zero, List.set_cons_succ]
                refine wpAnyH_take (i := 17) (oi := ⟨some 47, _, _, _, _, _⟩) (v := undef) rfl (by kernel_rfl) (by kernel_rfl) (by kernel_rfl) (fun _ _ _ h => h) (Or.inr ⟨by rfl, rfl⟩) hHeld ?_
                simp only [Act.put, List.setIfInBounds_toArray, List.set_cons_zero, List.set_cons_succ]
                refine wpAnyH_take (i := 18) (oi := ⟨some 48, _, _, _, _, _⟩) (v := undef) rfl (by kernel_rfl) (by kernel_rfl) (by kernel_rfl) (fun _ _ _ h => h) (Or.inr ⟨by rfl, rfl⟩) hHeld ?_
                simp only [Act.put, List.setIfInBounds_toArray, List.set_cons_zero, List.set_cons_succ]
                refine wpAnyH_take (i := 19) (oi := ⟨some 49, _, _, _, _, _⟩) (v := undef) rfl (by kernel_rfl) (by kernel_rfl) (by kernel_rfl) (fun _ _ _ h => h) (Or.inr ⟨by rfl, rfl⟩) hHeld ?_
                simp only [Act.put, List.setIfInBounds_toArray, List.set_cons_zero, List.set_cons_succ]
                refine wpAnyH_take (i := 20) (oi := ⟨some 50, _, _, _, _, _⟩) (v := .bool false) rfl (by kernel_rfl) (by kernel_rfl) (by kernel_rfl) (fun _ _ _ h => h) (Or.inl ⟨by rfl, fun w' hw => ?hy⟩) hHeld ?_
                case hy => (try dsimp only at hw); go_simp
                simp only [Act.put, List.setIfInBounds_toArray, List.set_cons_zero, List.set_cons_succ]
                refine wpAnyH_take (i := 21) (oi := ⟨some 51, _, _, _, _, _⟩) (v := .bool false) rfl (by kernel_rfl) (by kernel_rfl) (by kernel_rfl) (fun _ _ _ h => h) (Or.inl ⟨by rfl, fun w' hw => ?hy⟩) hHeld ?_
                case hy => (try dsimp only at hw); go_simp
                simp only [Act.put, List.setIfInBounds_toArray, List.set_cons_zero, List.set_cons_succ]
                refine wpAnyH_done (by kernel_rfl) ?_ _
                obtain ⟨T, -, -⟩ := hHeld
                go_wp2
                go_roundw
                case rel => exact ⟨v + 1, by omega, by go_num, T⟩
                case measure => simp [intOf]; omega
              · have h1' : (zg (dst ps.length rs u) v != -1) = true := by simpa using h1
                by_cases h2 : zg (dst ps.length rs v) u = -1
                · have hb : ((prt ps.length rs u : Int) == (prt ps.length rs v : Int)) = false := beq_eq_false_iff_ne.2 (fun e => by have := of_decide_eq_true ((HSMv.out).1 (by omega)); exact this.2 h2)
                  rw [h2] at HB2
                  generalize (prt ps.length rs u : Int) = pu at C hb
                  generalize (prt ps.length rs v : Int) = pv at C hb
                  generalize zg (dst ps.length rs u) v = x at HB1 h1'
                  clear h1
                  go_wp2_with fail
                  refine wp_region_held_drew (S := (fun w' => PvS w w1.heap.size (some ad) B ca cb ps rs (some ⟨gb, go, none⟩) (prtL ps.length rs ps.length) gb (go + u) (go + v) pu pv w')) (by kernel_rfl) ?_ (fun hHeld => ?_)
                  · exact PvS.drew C
                  clear C
                  refine wpAnyH_take (i := 0) (oi := ⟨some 30, _, _, _, _, _⟩) (v := .slice (some ⟨gb, go, none⟩) ps.length c2) rfl (by kernel_rfl) (by kernel_rfl) (by kernel_rfl) (fun _ _ _ h => h) (Or.inl ⟨by rfl, fun w' hw => ?hy⟩) hHeld ?_
                  case hy => (try dsimp only at hw); go_simp
                  simp only [Act.put, List.setIfInBounds_toArray, List.set_cons_zero, List.set_cons_succ]
                  refine wpAnyH_take (i := 1) (oi := ⟨some 31, _, _, _, _, _⟩) (v := .int .i64 (u : Int)) rfl (by kernel_rfl) (by kernel_rfl) (by kernel_rfl) (fun _ _ _ h => h) (Or.inl ⟨by rfl, fun w' hw => ?hy⟩) hHeld ?_
                  case hy => (try dsimp only at hw); go_simp
                  simp only [Act.put, List.setIfInBounds_toArray, List.set_cons_zero, List.set_cons_succ]
                  refine wpAnyH_take (i := 2) (oi := ⟨some 32, _, _, _, _, _⟩) (v := .pointer (some ⟨gb, go + u, none⟩)) rfl (by kernel_rfl) (by kernel_rfl) (by kernel_rfl) (fun _ _ _ h => h) (Or.inl ⟨by rfl, fun w' hw => ?hy⟩) hHeld ?_
                  case hy => (try dsimp only at hw); go_simp
                  simp only [Act.put, List.setIfInBounds_toArray, List.set_cons_zero, List.set_cons_succ]
                  refine wpAnyH_take (i := 3) (oi := ⟨some 33, _, _, _, _, _⟩) (v := .int .i64 pu) rfl (by kernel_rfl) (by kernel_rfl) (by kernel_rfl) (fun _ _ _ h => h) (Or.inl ⟨by rfl, fun w' hw => ?hy⟩) hHeld ?_
                  case hy => (try dsimp only at hw); go_simp
                  simp only [Act.put, List.setIfInBounds_toArray, List.set_cons_zero, List.set_cons_succ]
                  refine wpAnyH_take (i := 4) (oi := ⟨some 34, _, _, _, _, _⟩) (v := .slice (some ⟨gb, go, none⟩) ps.length c2) rfl (by kernel_rfl) (by kernel_rfl) (by kernel_rfl) (fun _ _ _ h => h) (Or.inl ⟨by rfl, fun w' hw => ?hy⟩) hHeld ?_
                  case hy => (try dsimp only at hw); go_simp
                  simp only [Act.put, List.setIfInBounds_toArray, List.set_cons_zero, List.set_cons_succ]
                  refine wpAnyH_take (i := 5) (oi := ⟨some 35, _, _, _, _, _⟩) (v := .int .i64 (v : Int)) rfl (by kernel_rfl) (by kernel_rfl) (by kernel_rfl) (fun _ _ _ h => h) (Or.inl ⟨by rfl, fun w' hw => ?hy⟩) hHeld ?_
                  case hy => (try dsimp only at hw); go_simp
                  simp only [Act.put, List.setIfInBounds_toArray, List.set_cons_zero, List.set_cons_succ]
                  refine wpAnyH_take (i := 6) (oi := ⟨some 36, _, _, _, _, _⟩) (v := .pointer (some ⟨gb, go + v, none⟩)) rfl (by kernel_rfl) (by kernel_rfl) (by kernel_rfl) (fun _ _ _ h => h) (Or.inl ⟨by rfl, fun w' hw => ?hy⟩) hHeld ?_
                  case hy => (try dsimp only at hw); go_simp
                  simp only [Act.put, List.setIfInBounds_toArray, List.set_cons_zero, List.set_cons_succ]
                  refine wpAnyH_take (i := 7) (oi := ⟨some 37, _, _, _, _, _⟩) (v := .int .i64 pv) rfl (by kernel_rfl) (by kernel_rfl) (by kernel_rfl) (fun _ _ _ h => h) (Or.inl ⟨by rfl, fun w' hw => ?hy⟩) hHeld ?_
                  case hy => (try dsimp only at hw); go_simp
                  simp only [Act.put, List.setIfInBounds_toArray, List.set_cons_zero, List.set_cons_succ]
                  refine wpAnyH_take (i := 8) (oi := ⟨some 38, _, _, _, _, _⟩) (v := .bool false) rfl (by kernel_rfl) (by kernel_rfl) (by kernel_rfl) (fun _ _ _ h => h) (Or.inl ⟨by rfl, fun w' hw => ?hy⟩) hHeld ?_
                  case hy => (try dsimp only at hw); go_simp
                  simp only [Act.put, List.setIfInBounds_toArray, List.set_cons_zero, List.set_cons_succ]
                  refine wpAnyH_take (i := 9) (oi := ⟨some 39, _, _, _, _, _⟩) (v := .agg #[.slice (some ad) ps.length ca, .slice B rs.length cb]) rfl (by kernel_rfl) (by kernel_rfl) (by kernel_rfl) (fun _ _ _ h => h) (Or.inl ⟨by rfl, fun w' hw => ?hy⟩) hHeld ?_
                  case hy => (try dsimp only at hw); go_simp
                  simp only [Act.put, List.setIfInBounds_toArray, List.set_cons_zero, List.set_cons_succ]
                  refine wpAnyH_take (i := 10) (oi := ⟨some 40, _, _, _, _, _⟩) (v := .int .i64 (u : Int)) rfl (by kernel_rfl) (by kernel_rfl) (by kernel_rfl) (fun _ _ _ h => h) (Or.inl ⟨by rfl, fun w' hw => ?hy⟩) hHeld ?_
                  case hy => (try dsimp only at hw); go_simp
                  simp only [Act.put, List.setIfInBounds_toArray, List.set_cons_zero, List.set_cons_succ]
                  refine wpAnyH_take (i := 11) (oi := ⟨some 41, _, _, _, _, _⟩) (v := .int .i64 (v : Int)) rfl (by kernel_rfl) (by kernel_rfl) (by kernel_rfl) (fun _ _ _ h => h) (Or.inl ⟨by rfl, fun w' hw => ?hy⟩) hHeld ?_
                  case hy => (try dsimp only at hw); go_simp
                  simp only [Act.put, List.setIfInBounds_toArray, List.set_cons_zero, List.set_cons_succ]
                  refine wpAnyH_ready (rs := [12]) (by kernel_rfl) (by simp) ?_
                  refine AllReadyH.cons (o := ⟨some 42, _, _, _, _, _⟩) rfl (fun K hK => ?_) AllReadyH.nil
                  go_simp
                  refine (HB1.out _ _ _ _ _ (PvS.n hHeld).1 (PvS.n hHeld).2).mono ?_; rintro e w5 ⟨rfl, b5⟩
                  go_wp2_with fail
                  refine hK.out _ _ ?_ (fun hHeld => ?_)
                  · exact PvS.under b5 hHeld
                  clear hK K
                  try simp only [Act.put, List.setIfInBounds_toArray, List.set_cons_zero, List.set_cons_succ]
                  clear b5
                  refine wpAnyH_take (i := 13) (oi := ⟨some 43, _, _, _, _, _⟩) (v := .bool true) rfl (by kernel_rfl) (by kernel_rfl) (by kernel_rfl) (fun _ _ _ h => h) (Or.inl ⟨by rfl, fun w' hw => ?hy⟩) hHeld ?_
                  case hy => (try dsimp only at hw); go_simp
                  simp only [Act.put, List.setIfInBounds_toArray, List.set_cons_zero, List.set_cons_succ]
                  refine wpAnyH_take (i := 14) (oi := ⟨some 44, _, _, _, _, _⟩) (v := .bool true) rfl (by kernel_rfl) (by kernel_rfl) (by kernel_rfl) (fun _ _ _ h => h) (Or.inl ⟨by rfl, fun w' hw => ?hy⟩) hHeld ?_
                  case hy => (try dsimp only at hw); go_simp
                  simp only [Act.put, List.setIfInBounds_toArray, List.set_cons_zero, List.set_cons_succ]
                  refine wpAnyH_take (i := 15) (oi := ⟨some 45, _, _, _, _, _⟩) (v := .agg #[.slice (some ad) ps.length ca, .slice B rs.length cb]) rfl (by kernel_rfl) (by kernel_rfl) (by kernel_rfl) (fun _ _ _ h => h) (Or.inl ⟨by rfl, fun w' hw => ?hy⟩) hHeld ?_
                  case hy => (try dsimp only at hw); go_simp
                  simp only [Act.put, List.setIfInBounds_toArray, List.set_cons_zero, List.set_cons_succ]
                  refine wpAnyH_take (i := 16) (oi := ⟨some 46, _, _, _, _, _⟩) (v := .int .i64 (v : Int)) rfl (by kernel_rfl) (by kernel_rfl) (by kernel_rfl) (fun _ _ _ h => h) (Or.inl ⟨by rfl, fun w' hw => ?hy⟩) hHeld ?_
                  case hy => (try dsimp only at hw); go_simp
                  simp only [Act.put, List.setIfInBounds_toArray, List.set_cons_zero, List.set_cons_succ]
                  refine wpAnyH_take (i := 17) (oi := ⟨some 47, _, _, _, _, _⟩) (v := .int .i64 (u : Int)) rfl (by kernel_rfl) (by kernel_rfl) (by kernel_rfl) (fun _ _ _ h => h) (Or.inl ⟨by rfl, fun w' hw => ?hy⟩) hHeld ?_
                  case hy => (try dsimp only at hw); go_simp
                  simp only [Act.put, List.setIfInBounds_toArray, List.set_cons_zero, List.set_cons_succ]
                  refine wpAnyH_ready (rs := [18]) (by kernel_rfl) (by simp) ?_
                  refine AllReadyH.cons (o := ⟨some 48, _, _, _, _, _⟩) rfl (fun K hK => ?_) AllReadyH.nil
                  go_simp
                  refine (HB2.out _ _ _ _ _ (PvS.n hHeld).1 (PvS.n hHeld).2).mono ?_; rintro e w6 ⟨rfl, b6⟩
                  go_wp2_with fail
                  refine hK.out _ _ ?_ (fun hHeld => ?_)
                  · exact PvS.under b6 hHeld
                  clear hK K
                  try simp only [Act.put, List.setIfInBounds_toArray, List.set_cons_zero, List.set_cons_succ]
                  clear b6
                  refine wpAnyH_take (i := 19) (oi := ⟨some 49, _, _, _, _, _⟩) (v := .bool false) rfl (by kernel_rfl) (by kernel_rfl) (by kernel_rfl) (fun _ _ _ h => h) (Or.inl ⟨by rfl, fun w' hw => ?hy⟩) hHeld ?_
                  case hy => (try dsimp only at hw); go_simp
                  simp only [Act.put, List.setIfInBounds_toArray, List.set_cons_zero, List.set_cons_succ]
                  refine wpAnyH_take (i := 20) (oi := ⟨some 50, _, _, _, _, _⟩) (v := .bool false) rfl (by kernel_rfl) (by kernel_rfl) (by kernel_rfl) (fun _ _ _ h => h) (Or.inl ⟨by rfl, fun w' hw => ?hy⟩) hHeld ?_
                  case hy => (try dsimp only at hw); go_simp
                  simp only [Act.put, List.setIfInBounds_toArray, List.set_cons_zero, List.set_cons_succ]
                  refine wpAnyH_take (i := 21) (oi := ⟨some 51, _, _, _, _, _⟩) (v := .bool false) rfl (by kernel_rfl) (by kernel_rfl) (by kernel_rfl) (fun _ _ _ h => h) (Or.inl ⟨by rfl, fun w' hw => ?hy⟩) hHeld ?_
                  case hy => (try dsimp only at hw); go_simp
                  simp only [Act.put, List.setIfInBounds_toArray, List.set_cons_zero, List.set_cons_succ]
                  refine wpAnyH_done (by kernel_rfl) ?_ _
                  obtain ⟨T, -, -⟩ := hHeld
                  go_wp2
                  go_roundw
                  case rel => exact ⟨v + 1, by omega, by go_num, T⟩
                  case measure => simp [intOf]; omega
                · have h2' : (zg (dst ps.length rs v) u != -1) = true := by simpa using h2
                  have hb : ((prt ps.length rs u : Int) == (prt ps.length rs v : Int)) = true := beq_iff_eq.2 (by have := (HSMv.out).2 (decide_eq_true ⟨h1, h2⟩); omega)
                  generalize (prt ps.length rs u : Int) = pu at C hb
                  generalize (prt ps.length rs v : Int) = pv at C hb
                  generalize zg (dst ps.length rs u) v = x at HB1 h1'
                  generalize zg (dst ps.length rs v) u = y at HB2 h2'
                  clear h1 h2
                  go_wp2_with fail
                  refine wp_region_held_drew (S := (fun w' => PvS w w1.heap.size (some ad) B ca cb ps rs (some ⟨gb, go, none⟩) (prtL ps.length rs ps.length) gb (go + u) (go + v) pu pv w')) (by kernel_rfl) ?_ (fun hHeld => ?_)
                  · exact PvS.drew C
                  clear C
                  refine wpAnyH_take (i := 0) (oi := ⟨some 30, _, _, _, _, _⟩) (v := .slice (some ⟨gb, go, none⟩) ps.length c2) rfl (by kernel_rfl) (by kernel_rfl) (by kernel_rfl) (fun _ _ _ h => h) (Or.inl ⟨by rfl, fun w' hw => ?hy⟩) hHeld ?_
                  case hy => (try dsimp only at hw); go_simp
                  simp only [Act.put, List.setIfInBounds_toArray, List.set_cons_zero, List.set_cons_succ]
                  refine wpAnyH_take (i := 1) (oi := ⟨some 31, _, _, _, _, _⟩) (v := .int .i64 (u : Int)) rfl (by kernel_rfl) (by kernel_rfl) (by kernel_rfl) (fun _ _ _ h => h) (Or.inl ⟨by rfl, fun w' hw => ?hy⟩) hHeld ?_
                  case hy => (try dsimp only at hw); go_simp
                  simp only [Act.put, List.setIfInBounds_toArray, List.set_cons_zero, List.set_cons_succ]
                  refine wpAnyH_take (i := 2) (oi := ⟨some 32, _, _, _, _, _⟩) (v := .pointer (some ⟨gb, go + u, none⟩)) rfl (by kernel_rfl) (by kernel_rfl) (by kernel_rfl) (fun _ _ _ h => h) (Or.inl ⟨by rfl, fun w' hw => ?hy⟩) hHeld ?_
                  case hy => (try dsimp only at hw); go_simp
                  simp only [Act.put, List.setIfInBounds_toArray, List.set_cons_zero, List.set_cons_succ]
                  refine wpAnyH_take (i := 3) (oi := ⟨some 33, _, _, _, _, _⟩) (v := .int .i64 pu) rfl (by kernel_rfl) (by kernel_rfl) (by kernel_rfl) (fun _ _ _ h => h) (Or.inl ⟨by rfl, fun w' hw => ?hy⟩) hHeld ?_
                  case hy => (try dsimp only at hw); go_simp
                  simp only [Act.put, List.setIfInBounds_toArray, List.set_cons_zero, List.set_cons_succ]
                  refine wpAnyH_take (i := 4) (oi := ⟨some 34, _, _, _, _, _⟩) (v := .slice (some ⟨gb, go, none⟩) ps.length c2) rfl (by kernel_rfl) (by kernel_rfl) (by kernel_rfl) (fun _ _ _ h => h) (Or.inl ⟨by rfl, fun w' hw => ?hy⟩) hHeld ?_
                  case hy => (try dsimp only at hw); go_simp
                  simp only [Act.put, List.setIfInBounds_toArray, List.set_cons_zero, List.set_cons_succ]
                  refine wpAnyH_take (i := 5) (oi := ⟨some 35, _, _, _, _, _⟩) (v := .int .i64 (v : Int)) rfl (by kernel_rfl) (by kernel_rfl) (by kernel_rfl) (fun _ _ _ h => h) (Or.inl ⟨by rfl, fun w' hw => ?hy⟩) hHeld ?_
                  case hy => (try dsimp only at hw); go_simp
                  simp only [Act.put, List.setIfInBounds_toArray, List.set_cons_zero, List.set_cons_succ]
                  refine wpAnyH_take (i := 6) (oi := ⟨some 36, _, _, _, _, _⟩) (v := .pointer (some ⟨gb, go + v, none⟩)) rfl (by kernel_rfl) (by kernel_rfl) (by kernel_rfl) (fun _ _ _ h => h) (Or.inl ⟨by rfl, fun w' hw => ?hy⟩) hHeld ?_
                  case hy => (try dsimp only at hw); go_simp
                  simp only [Act.put, List.setIfInBounds_toArray, List.set_cons_zero, List.set_cons_succ]
                  refine wpAnyH_take (i := 7) (oi := ⟨some 37, _, _, _, _, _⟩) (v := .int .i64 pv) rfl (by kernel_rfl) (by kernel_rfl) (by kernel_rfl) (fun _ _ _ h => h) (Or.inl ⟨by rfl, fun w' hw => ?hy⟩) hHeld ?_
                  case hy => (try dsimp only at hw); go_simp
                  simp only [Act.put, List.setIfInBounds_toArray, List.set_cons_zero, List.set_cons_succ]
                  refine wpAnyH_take (i := 8) (oi := ⟨some 38, _, _, _, _, _⟩) (v := .bool true) rfl (by kernel_rfl) (by kernel_rfl) (by kernel_rfl) (fun _ _ _ h => h) (Or.inl ⟨by rfl, fun w' hw => ?hy⟩) hHeld ?_
                  case hy => (try dsimp only at hw); go_simp
                  simp only [Act.put, List.setIfInBounds_toArray, List.set_cons_zero, List.set_cons_succ]
                  refine wpAnyH_take (i := 9) (oi := ⟨some 39, _, _, _, _, _⟩) (v := .agg #[.slice (some ad) ps.length ca, .slice B rs.length cb]) rfl (by kernel_rfl) (by kernel_rfl) (by kernel_rfl) (fun _ _ _ h => h) (Or.inl ⟨by rfl, fun w' hw => ?hy⟩) hHeld ?_
                  case hy => (try dsimp only at hw); go_simp
                  simp only [Act.put, List.setIfInBounds_toArray, List.set_cons_zero, List.set_cons_succ]
                  refine wpAnyH_take (i := 10) (oi := ⟨some 40, _, _, _, _, _⟩) (v := .int .i64 (u : Int)) rfl (by kernel_rfl) (by kernel_rfl) (by kernel_rfl) (fun _ _ _ h => h) (Or.inl ⟨by rfl, fun w' hw => ?hy⟩) hHeld ?_
                  case hy => (try dsimp only at hw); go_simp
                  simp only [Act.put, List.setIfInBounds_toArray, List.set_cons_zero, List.set_cons_succ]
                  refine wpAnyH_take (i := 11) (oi := ⟨some 41, _, _, _, _, _⟩) (v := .int .i64 (v : Int)) rfl (by kernel_rfl) (by kernel_rfl) (by kernel_rfl) (fun _ _ _ h => h) (Or.inl ⟨by rfl, fun w' hw => ?hy⟩) hHeld ?_
                  case hy => (try dsimp only at hw); go_simp
                  simp only [Act.put, List.setIfInBounds_toArray, List.set_cons_zero, List.set_cons_succ]
                  refine wpAnyH_ready (rs := [12]) (by kernel_rfl) (by simp) ?_
                  refine AllReadyH.cons (o := ⟨some 42, _, _, _, _, _⟩) rfl (fun K hK => ?_) AllReadyH.nil
                  go_simp
                  refine (HB1.out _ _ _ _ _ (PvS.n hHeld).1 (PvS.n hHeld).2).mono ?_; rintro e w5 ⟨rfl, b5⟩
                  go_wp2_with fail
                  refine hK.out _ _ ?_ (fun hHeld => ?_)
                  · exact PvS.under b5 hHeld
                  clear hK K
                  try simp only [Act.put, List.setIfInBounds_toArray, List.set_cons_zero, List.set_cons_succ]
                  clear b5
                  refine wpAnyH_take (i := 13) (oi := ⟨some 43, _, _, _, _, _⟩) (v := .bool true) rfl (by kernel_rfl) (by kernel_rfl) (by kernel_rfl) (fun _ _ _ h => h) (Or.inl ⟨by rfl, fun w' hw => ?hy⟩) hHeld ?_
                  case hy => (try dsimp only at hw); go_simp
                  simp only [Act.put, List.setIfInBounds_toArray, List.set_cons_zero, List.set_cons_succ]
                  refine wpAnyH_take (i := 14) (oi := ⟨some 44, _, _, _, _, _⟩) (v := .bool true) rfl (by kernel_rfl) (by kernel_rfl) (by kernel_rfl) (fun _ _ _ h => h) (Or.inl ⟨by rfl, fun w' hw => ?hy⟩) hHeld ?_
                  case hy => (try dsimp only at hw); go_simp
                  simp only [Act.put, List.setIfInBounds_toArray, List.set_cons_zero, List.set_cons_succ]
                  refine wpAnyH_take (i := 15) (oi := ⟨some 45, _, _, _, _, _⟩) (v := .agg #[.slice (some ad) ps.length ca, .slice B rs.length cb]) rfl (by kernel_rfl) (by kernel_rfl) (by kernel_rfl) (fun _ _ _ h => h) (Or.inl ⟨by rfl, fun w' hw => ?hy⟩) hHeld ?_
                  case hy => (try dsimp only at hw); go_simp
                  simp only [Act.put, List.setIfInBounds_toArray, List.set_cons_zero, List.set_cons_succ]
                  refine wpAnyH_take (i := 16) (oi := ⟨some 46, _, _, _, _, _⟩) (v := .int .i64 (v : Int)) rfl (by kernel_rfl) (by kernel_rfl) (by kernel_rfl) (fun _ _ _ h => h) (Or.inl ⟨by rfl, fun w' hw => ?hy⟩) hHeld ?_
                  case hy => (try dsimp only at hw); go_simp
                  simp only [Act.put, List.setIfInBounds_toArray, List.set_cons_zero, List.set_cons_succ]
                  refine wpAnyH_take (i := 17) (oi := ⟨some 47, _, _, _, _, _⟩) (v := .int .i64 (u : Int)) rfl (by kernel_rfl) (by kernel_rfl) (by kernel_rfl) (fun _ _ _ h => h) (Or.inl ⟨by rfl, fun w' hw => ?hy⟩) hHeld ?_
                  case hy => (try dsimp only at hw); go_simp
                  simp only [Act.put, List.setIfInBounds_toArray, List.set_cons_zero, List.set_cons_succ]
                  refine wpAnyH_ready (rs := [18]) (by kernel_rfl) (by simp) ?_
                  refine AllReadyH.cons (o := ⟨some 48, _, _, _, _, _⟩) rfl (fun K hK => ?_) AllReadyH.nil
                  go_simp
                  refine (HB2.out _ _ _ _ _ (PvS.n hHeld).1 (PvS.n hHeld).2).mono ?_; rintro e w6 ⟨rfl, b6⟩
                  go_wp2_with fail
                  refine hK.out _ _ ?_ (fun hHeld => ?_)
                  · exact PvS.under b6 hHeld
                  clear hK K
                  try simp only [Act.put, List.setIfInBounds_toArray, List.set_cons_zero, List.set_cons_succ]
                  clear b6
                  refine wpAnyH_take (i := 19) (oi := ⟨some 49, _, _, _, _, _⟩) (v := .bool true) rfl (by kernel_rfl) (by kernel_rfl) (by kernel_rfl) (fun _ _ _ h => h) (Or.inl ⟨by rfl, fun w' hw => ?hy⟩) hHeld ?_
                  case hy => (try dsimp only at hw); go_simp
                  simp only [Act.put, List.setIfInBounds_toArray, List.set_cons_zero, List.set_cons_succ]
                  refine wpAnyH_take (i := 20) (oi := ⟨some 50, _, _, _, _, _⟩) (v := .bool true) rfl (by kernel_rfl) (by kernel_rfl) (by kernel_rfl) (fun _ _ _ h => h) (Or.inl ⟨by rfl, fun w' hw => ?hy⟩) hHeld ?_
                  case hy => (try dsimp only at hw); go_simp
                  simp only [Act.put, List.setIfInBounds_toArray, List.set_cons_zero, List.set_cons_succ]
                  refine wpAnyH_take (i := 21) (oi := ⟨some 51, _, _, _, _, _⟩) (v := .bool false) rfl (by kernel_rfl) (by kernel_rfl) (by kernel_rfl) (fun _ _ _ h => h) (Or.inl ⟨by rfl, fun w' hw => ?hy⟩) hHeld ?_
                  case hy => (try dsimp only at hw); go_simp
                  simp only [Act.put, List.setIfInBounds_toArray, List.set_cons_zero, List.set_cons_succ]
                  refine wpAnyH_done (by kernel_rfl) ?_ _
                  obtain ⟨T, -, -⟩ := hHeld
                  go_wp2
                  go_roundw
                  case rel => exact ⟨v + 1, by omega, by go_num, T⟩
                  case measure => simp [intOf]; omega
              -- REGION ENDS
            · obtain rfl : v = ps.length := by omega
              obtain ⟨b1, o1, e1, -, d1⟩ := (DvS.d T).at_ (k := u) (by rw [HL.out]; exact hlt)
              cases e1
              have hpn : prt ps.length rs u < ps.length := by omega
              obtain ⟨b2, o2, e2, -, d2⟩ := (DvS.d T).at_ (k := prt ps.length rs u) (by rw [HL.out]; exact hpn)
              cases e2
              rw [HZ.out u hlt] at d1
              rw [HZ.out _ hpn, HPPu.out] at d2
              generalize prt ps.length rs u = pu at d1 d2 hpu hpn
              have hg1 : decide (((u : Nat) : Int) < ((pu : Nat) : Int)) = false := decide_eq_false (by omega)
              have hg2 : decide (u < pu) = false := decide_eq_false (by omega)
              have hg3 : decide (pu < ps.length) = true := decide_eq_true hpn
              have hg4 : ((pu : Nat) : Int) < ((ps.length : Nat) : Int) := by omega
              have hne : (((pu : Nat) : Int) != ((pu : Nat) : Int)) = false := by simp
              go_wp2_with fail
              go_quiet (fail)
              clear d1 d2 hg1 hg2 hg3 hg4 hne
              go_wp2
              go_roundw
              case rel => exact ⟨u + 1, by omega, by go_num, DvS.under (below_drewN (Below.refl _ _) _) T⟩
              case measure => simp [intOf]; omega
        · obtain rfl : u = ps.length := by omega
          obtain ⟨x0, x1⟩ := DvS.cells T
          have kk := DvS.bel T
          have hl0 : (((ps.length : Nat) : Int) == ((ps.length : Nat) : Int)) = true := by simp
          go_wp2
          go_ret
          exact ⟨rfl, kk⟩

/-! ### THE ROW's STEP: WRITTEN OUT: LEAVE IT -/
set_option maxRecDepth 100000 in
theorem lifted (os : Os) (started : os.Started) (H : Type) (enc : TypeId × Value → H) :
    ReturnsInHanded {} Try.checked os 4 .any (Rows.fnPartsSpec.pre6 enc Try.prog Try.f4 Rows.fnPartsRow.domain false) (Rows.fnPartsSpec.post enc Try.prog Try.f4 false true false false) := by
  refine returnsInHanded_of_change (C := Try.checked) own started (by kernel_rfl) Try.func4
    (ChangeSpec.witness6 (enc := enc) (C := Try.checked) false ⟨#[], #[.slice none 0 0], []⟩ 8 (by kernel_rfl) (by kernel_rfl) (by kernel_rfl) (by kernel_rfl)) ?_
  intro W base args ds gs before hval0 hW hcnd _
  have hval : ∀ (j : Nat) t v, Try.f4.params[j]? = some t → args[j]? = some v → Value.okWide Try.prog W .any base t v := hval0
  have hW' := hW
  obtain ⟨p, q, hA0, hV, rfl, hfz, hnd⟩ := hW
  have hA : DataW.TrodAll enc Try.prog W 0 (fun _ => true) true Try.f4.params.toList args.toList ds p := hA0
  rw [Try.params4] at hA hval
  obtain ⟨v0, vs0, d0, ds0, p0, q0, hargs, rfl, rfl, h0, r0⟩ := trodAll_cons hA
  obtain ⟨rfl, rfl, rfl⟩ := trodAll_nil r0
  obtain rfl : args = #[v0] := by cases args; simp_all
  obtain ⟨rfl, rfl⟩ := trodVars_none hV
  obtain ⟨a0, len0, cap0, rfl⟩ := okWide_slice Try.underlying22 (hval 0 22 v0 rfl rfl)
  have k0 := h0
  have lt0 : ∀ x ∈ p0, x.block < W.heap.size := by obtain ⟨m, hm⟩ := k0; exact DataW.trod_lt m _ _ _ hm
  obtain ⟨z0, w0⟩ : ∃ zs, IsRow .u8 W a0 len0 cap0 zs := by
    obtain ⟨fuel, hf⟩ := h0
    rcases open_ints Try.underlying22 Try.underlying5 (by kernel_rfl) hf with ⟨hcs, _⟩ | ⟨x, l, c, zs, hcs, _, hl, hm, hz, _, hcell, hwz⟩
    · simp [Value.cells] at hcs
      obtain ⟨rfl, rfl, rfl⟩ := hcs
      exact ⟨[], .inl ⟨rfl, rfl, rfl, rfl⟩⟩
    · simp [Value.cells] at hcs
      obtain ⟨rfl, rfl, rfl⟩ := hcs
      exact ⟨zs, .inr ⟨_, rfl, hl, hm, by simpa using hz, hcell, hwz⟩⟩
  clear hA0 hval0
  refine (walk a0 len0 cap0 z0 W w0).mono fun e W' ⟨he, bel⟩ => ?_
  subst he
  exact ⟨_, rfl, _, _, _, [], _, [], hW', trodAll_mk1 (shut_bool Try.underlying4 _), (trodAll_cons_mk (Below.trod laidOut (by kernel_rfl) (of_decide_eq_true (by kernel_rfl)) k0 bel lt0) trodAll_mk0), rfl, bel.frame _, fun h => by cases h⟩

theorem over : Rows.fnPartsRow.holds Try.pinned (OpenSpec.ofChange Rows.fnPartsSpec) :=
  OpenClaim.holds_of_wide 4 Try.f4 rfl rfl rfl rfl rfl rfl rfl ⟨rfl, rfl, rfl, rfl, rfl⟩ rfl rfl rfl rfl rfl (by kernel_rfl) Try.func4 (by kernel_rfl)
    (of_decide_eq_true (by kernel_rfl)) (by unfold Func.isWrapper; first | (rw [if_pos (by decide +kernel)]; kernel_rfl) | (rw [if_neg (by decide +kernel)]; exact ⟨rfl, rfl⟩))
    (fun os started H enc _ => lifted os started H enc)

/-- ████ THE STATEMENT ████ -/
theorem proved : Rows.FnPartsSaid := over
#print axioms proved
end Go.Proofs.Ytjaifbbkfgfdeaa.fnParts
