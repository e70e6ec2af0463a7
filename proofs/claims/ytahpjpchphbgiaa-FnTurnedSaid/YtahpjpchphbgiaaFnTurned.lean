/-
  For every slice of bytes the law FnTurned returns true: of the network drawn from it the program's Turned is the specification's; reversed twice it is as it was; outgoing arcs become incoming ones (no condition).
-/
import Derived.Test.YtahpjpchphbgiaaRows
import Derived.WalkKit
import Derived.ProofKit
import Derived.OpenShut
import Derived.ShutString
import Derived.ChangeOld
import Derived.Below
import Derived.Test.YtahpjpchphbgiaaDrawTurn
import Derived.Test.YtahpjpchphbgiaaTurnLaw
import Derived.Test.YtahpjpchphbgiaaSameNet
import Derived.Test.YtahpjpchphbgiaaDrawLeast
namespace Go.Proofs.Ytahpjpchphbgiaa.fnTurned
open Go.ChangeShapes Go.WideShapes Go.ChangeAt Go.RowKit
open Go.ChangeMaps (open_string shut_string)
set_option linter.unusedVariables false

theorem own : ownKnob Try.prog.godebug = none := by kernel_rfl
theorem laidOut : laidOutB Try.prog = true := by kernel_rfl

/-- WHAT THE WALK IS TOLD OF A SLICE OF INTEGERS THAT CAME IN: it is nil; or it leads to a row of 'cap' cells, the numbers 'zs' (the first 'len' are its elements, the rest its spare room), each fitting its kind. -/
def IsRow (k : IntKind) (w : World) (a : Option Addr) (len cap : Nat) (zs : List Int) : Prop :=
  (a = none ∧ len = 0 ∧ cap = 0 ∧ zs = []) ∨
  ∃ x, a = some x ∧ len ≤ cap ∧ cap ≤ maxLen ∧ zs.length = cap ∧ (∀ i, i < zs.length → w.cell? (x.add i) = some (.int k (zs.getD i 0))) ∧ ∀ n ∈ zs, (Lit.int k n).wf = true

theorem OwnSl.ptsT {w : World} {base : Nat} {A : Option Addr} {ps : List (Int × Int)} (h : OwnSl w base 59 A (ps.length * 2) (flatP ps)) : IsPts w A ps := fun hp => by
  obtain ⟨g, off, rfl, -, ho⟩ := h (by omega)
  exact ⟨g, off, rfl, ho.lt, fun i hi => ⟨by rw [ho.cell (i := i * 2) (by omega), flatP_0], by rw [show off + i * 2 + 1 = off + (i * 2 + 1) by omega, ho.cell (i := i * 2 + 1) (by omega), flatP_1]⟩⟩
theorem OwnSl.arcsT {w : World} {base : Nat} {B : Option Addr} {rs : List A3} (h : OwnSl w base 36 B (rs.length * 3) (flatA rs)) : IsArcs w B rs := fun hp => by
  obtain ⟨g, off, rfl, -, ho⟩ := h (by omega)
  exact ⟨g, off, rfl, ho.lt, fun i hi => ⟨by rw [ho.cell (i := i * 3) (by omega), flatA_0], by rw [show off + i * 3 + 1 = off + (i * 3 + 1) by omega, ho.cell (i := i * 3 + 1) (by omega), flatA_1], by rw [show off + i * 3 + 2 = off + (i * 3 + 2) by omega, ho.cell (i := i * 3 + 2) (by omega), flatA_2]⟩⟩
/-- What holds between the calls: the drawn network in block x, the reversed one in block y. -/
abbrev TwoS (base : World) (x y : Nat) (A B : Option Addr) (ca cb : Nat) (ps : List (Int × Int)) (rs : List A3) (A2 B2 : Option Addr) (ca2 cb2 : Nat) (qs : List (Int × Int)) (ts : List A3) (w : World) : Prop :=
  w.cell? ⟨x, 0, none⟩ = some (.slice A ps.length ca) ∧ w.cell? ⟨x, 1, none⟩ = some (.slice B rs.length cb) ∧ w.cell? ⟨y, 0, none⟩ = some (.slice A2 qs.length ca2) ∧ w.cell? ⟨y, 1, none⟩ = some (.slice B2 ts.length cb2) ∧
  IsPts w A ps ∧ IsArcs w B rs ∧ IsPts w A2 qs ∧ IsArcs w B2 ts ∧ Below base.heap.size base w
section
variable {base w w' : World} {x y : Nat} {A B : Option Addr} {ca cb : Nat} {ps : List (Int × Int)} {rs : List A3} {A2 B2 : Option Addr} {ca2 cb2 : Nat} {qs : List (Int × Int)} {ts : List A3}
theorem TwoS.under (hb : Below w.heap.size w w') (h : TwoS base x y A B ca cb ps rs A2 B2 ca2 cb2 qs ts w) : TwoS base x y A B ca cb ps rs A2 B2 ca2 cb2 qs ts w' := by
  obtain ⟨h1, h2, h3, h4, h5, h6, h7, h8, h9⟩ := h
  exact ⟨cell_under hb h1, cell_under hb h2, cell_under hb h3, cell_under hb h4, h5.below hb, h6.below hb, h7.below hb, h8.below hb, h9.trans (hb.mono h9.size)⟩
theorem drewB (w : World) : Below w.heap.size w w.drew := (Below.refl _ w).drew
theorem TwoS.drew (h : TwoS base x y A B ca cb ps rs A2 B2 ca2 cb2 qs ts w) : TwoS base x y A B ca cb ps rs A2 B2 ca2 cb2 qs ts w.drew := TwoS.under (drewB w) h
theorem TwoS.n (h : TwoS base x y A B ca cb ps rs A2 B2 ca2 cb2 qs ts w) : IsPts w A ps ∧ IsArcs w B rs := ⟨h.2.2.2.2.1, h.2.2.2.2.2.1⟩
theorem TwoS.m (h : TwoS base x y A B ca cb ps rs A2 B2 ca2 cb2 qs ts w) : IsPts w A2 qs ∧ IsArcs w B2 ts := ⟨h.2.2.2.2.2.2.1, h.2.2.2.2.2.2.2.1⟩
theorem TwoS.cells (h : TwoS base x y A B ca cb ps rs A2 B2 ca2 cb2 qs ts w) : w.cell? ⟨x, 0, none⟩ = some (.slice A ps.length ca) ∧ w.cell? ⟨x, 1, none⟩ = some (.slice B rs.length cb) ∧ w.cell? ⟨y, 0, none⟩ = some (.slice A2 qs.length ca2) ∧ w.cell? ⟨y, 1, none⟩ = some (.slice B2 ts.length cb2) := ⟨h.1, h.2.1, h.2.2.1, h.2.2.2.1⟩
theorem TwoS.bel (h : TwoS base x y A B ca cb ps rs A2 B2 ca2 cb2 qs ts w) : Below base.heap.size base w := h.2.2.2.2.2.2.2.2
end
theorem outs_at {ps : List (Int × Int)} {rs : List A3} (hok : netB ps rs = true) (u : Int) {j : Nat} (hj : j < (outs ps rs u).length) : ∃ i : Nat, i < rs.length ∧ zg (outs ps rs u) j = i ∧ (arg rs i).1 = u := by
  have e : outs ps rs u = outL rs u rs.length := by unfold outs; rw [hok]; rfl
  rw [e] at hj ⊢
  exact outL_at hj
theorem outs_len (ps : List (Int × Int)) (rs : List A3) (u : Int) : (outs ps rs u).length ≤ rs.length := by
  unfold outs; split
  · exact outL_len _ _ _
  · simp
theorem ins_len (ps : List (Int × Int)) (rs : List A3) (u : Int) : (ins ps rs u).length ≤ rs.length := by
  unfold ins; split
  · exact inL_len _ _ _
  · simp

/-! ### STEP 1: THE WALK: the Go text returns true, AND WRITES NOTHING THAT WAS THERE: 'Below w.heap.size w w'' (Derived/Below.lean: '.refl', '.alloc', '.drew', '.setCell' at a new block, '.trans'). Open each 'IsRow' by 'rcases' AHEAD of 'go_enter'; part every test ahead of the walk. -/
set_option maxHeartbeats 4000000 in
set_option maxRecDepth 100000 in
theorem walk (a0 : Option Addr) (len0 cap0 : Nat) (z0 : List Int) (w : World) (w0 : IsRow .u8 w a0 len0 cap0 z0) :
    Calls Try.prog 3 #[.slice a0 len0 cap0] w fun e w' => e = .returned (.bool true) ∧ Below w.heap.size w w' := by
  have hcode := codeIn_of w0
  clear w0
  by_cases hbig : 1048576 < len0
  · have hd : decide ((1048576 : Int) < len0) = true := by simp; omega
    go_enter Try.func3, Try.ntmps3
    go_wp2_with (go_at_call 9; refine (big_any _ _ _ _).mono ?_; rintro e w' ⟨rfl, rfl⟩)
    go_ret
    exact ⟨rfl, Below.refl _ _⟩
  · have hd : decide ((1048576 : Int) < len0) = false := by simp; omega
    go_enter Try.func3, Try.ntmps3
    go_wp2_with fail
    refine (big_any _ _ _ _).mono ?_; rintro e w' ⟨rfl, rfl⟩
    go_wp2_with fail
    refine (drawTurned_any w a0 len0 cap0 hcode (by omega)).mono ?_
    rintro e w1 ⟨ad, B, ca, cb, ps, rs, rfl, h2, h21, h100, IP, IA, b1⟩
    have X := Pair.new w1 27 (.slice (some ad) ps.length ca) (.slice B rs.length cb)
    have k1 := below1 w1 (.cells #[.slice (some ad) ps.length ca, .slice B rs.length cb] 27)
    replace IP := IP.below k1
    replace IA := IA.below k1
    replace b1 := b1.trans (k1.mono b1.size)
    clear k1
    cases hok : netB ps rs with
    | false =>
      have HT := Lib.hid (fun ad B ca cb w hn hm ha hb => implTurned_no (some ad) B ca cb ps rs w hn hm ha hb hok)
      have HS := Lib.hid (fun ad B ca cb w hn hm ha hb => specTurned_no (some ad) B ca cb ps rs w hn hm ha hb hok)
      go_wp2_with fail
      refine (HT.out _ _ _ _ _ (by omega) (by omega) IP IA).mono ?_; rintro e w2 ⟨A2, B2, ca2, cb2, rfl, OP2, OR2, -, b2⟩
      have k2 := below1 w2 (.cells #[.slice A2 ([] : List (Int × Int)).length ca2, .slice B2 ([] : List A3).length cb2] 27)
      have b3 := b2.trans (k2.mono b2.size)
      have T : TwoS w w1.heap.size w2.heap.size (some ad) B ca cb ps rs A2 B2 ca2 cb2 [] [] (w2.alloc (.cells #[.slice A2 ([] : List (Int × Int)).length ca2, .slice B2 ([] : List A3).length cb2] 27)) :=
        ⟨(X.below b3).cells.1, (X.below b3).cells.2.1, (Pair.new w2 27 _ _).cells.1, (Pair.new w2 27 _ _).cells.2.1, IP.below b3, IA.below b3, fun h => by simp at h, fun h => by simp at h, b1.trans (b3.mono b1.size)⟩
      clear IP IA OP2 OR2 X b1 b2 b3 k2
      go_wp2_with fail
      go_region_held3 (fun w' => TwoS w w1.heap.size w2.heap.size (some ad) B ca cb ps rs A2 B2 ca2 cb2 [] [] w')
        (first | exact TwoS.drew T | assumption | (refine TwoS.under (by assumption) ?_; assumption))
        (first
          | (go_at_call 13; refine (HS.out _ _ _ _ _ (by omega) (by omega) (TwoS.n (by assumption)).1 (TwoS.n (by assumption)).2).mono ?_; rintro e w4 ⟨A3', B3', ca3, cb3, rfl, OP3, OR3, -, b4⟩)
          | (go_at_call 12; refine (sameNet_same _ _ _ _ _ _ _ _ [] [] _ (by simp) (by simp) (fun h => by simp at h) (fun h => by simp at h) (fun h => by simp at h) (fun h => by simp at h)).mono ?_; rintro e w5 ⟨rfl, b5⟩))
      rename_i hU
      clear T OP3 OR3 b4 b5
      obtain ⟨x0, x1, y0, y1⟩ := TwoS.cells hU
      go_wp2_with fail
      clear x0 x1 y0 y1
      refine (specNetOk_any (some ad) B ca cb ps rs _ (by omega) (by omega) (TwoS.n hU).1 (TwoS.n hU).2).mono ?_; rintro e w6 ⟨rfl, b6⟩
      have hV := TwoS.under b6 hU
      clear hU b6
      obtain ⟨x0, x1, y0, y1⟩ := TwoS.cells hV
      have kk := TwoS.bel hV
      go_wp2
      go_ret
      exact ⟨rfl, kk⟩
    | true =>
      obtain ⟨ts, hts⟩ : ∃ ts, ts = turnL rs := ⟨_, rfl⟩
      have hrise := netB_rise hok
      have htl : ts.length ≤ 100 := by rw [hts, turn_len hrise]; exact h100
      have HV := Lib.hid (show netB ps ts = true by rw [hts]; exact turn_valid hok)
      have HTT := Lib.hid (show turnL ts = rs by rw [hts]; exact turnL_turnL hrise)
      have HOI := Lib.hid (show ∀ u : Int, (outs ps rs u).length = (ins ps ts u).length from fun u => by unfold outs ins; rw [hok, HV.out, if_pos rfl, if_pos rfl, hts]; exact out_in hrise u)
      have HZ := Lib.hid (fun (u : Int) j hj => outs_at hok u (j := j) hj)
      have HF := Lib.hid (show ∀ i, i < rs.length → ∃ k : Nat, k < ts.length ∧ arcAt ps ts (arg rs i).2.1 (arg rs i).1 = k ∧ (k : Int) ∈ ins ps ts (arg rs i).1 ∧ (arg ts k).2.2 = (arg rs i).2.2 from fun i hi => by unfold arcAt ins; rw [HV.out, if_pos rfl, if_pos rfl, hts]; exact out_found hrise hi)
      have HT := Lib.hid (show ∀ (ad : Addr) (B : Option Addr) (ca cb : Nat) (w : World), IsPts w (some ad) ps → IsArcs w B rs → Calls Try.prog 11 #[.agg #[.slice (some ad) ps.length ca, .slice B rs.length cb]] w (NetOwned w ps ts) from fun ad B ca cb w h1 h2 => by rw [hts]; exact implTurned_yes ad B ca cb ps rs w (by omega) (by omega) h1 h2 hok)
      have HS := Lib.hid (show ∀ (ad : Addr) (B : Option Addr) (ca cb : Nat) (w : World), IsPts w (some ad) ps → IsArcs w B rs → Calls Try.prog 13 #[.agg #[.slice (some ad) ps.length ca, .slice B rs.length cb]] w (NetOwned w ps ts) from fun ad B ca cb w h1 h2 => by rw [hts]; exact specTurned_yes ad B ca cb ps rs w (by omega) (by omega) h1 h2 hok)
      have HTM := Lib.hid (show ∀ (ad : Addr) (B : Option Addr) (ca cb : Nat) (w : World), IsPts w (some ad) ps → IsArcs w B ts → Calls Try.prog 11 #[.agg #[.slice (some ad) ps.length ca, .slice B ts.length cb]] w (NetOwned w ps rs) from fun ad B ca cb w h1 h2 => by have := implTurned_yes ad B ca cb ps ts w (by omega) (by omega) h1 h2 HV.out; rwa [HTT.out] at this)
      have HNM := Lib.hid (show ∀ (A B : Option Addr) (ca cb : Nat) (w : World), IsPts w A ps → IsArcs w B ts → Calls Try.prog 19 #[.agg #[.slice A ps.length ca, .slice B ts.length cb]] w (fun e w' => e = .returned (.bool true) ∧ Below w.heap.size w w') from fun A B ca cb w h1 h2 => by have := implNetOk_any A B ca cb ps ts w (by omega) (by omega) h1 h2; rwa [HV.out] at this)
      clear hts hrise
      go_wp2_with fail
      refine (HT.out _ _ _ _ _ IP IA).mono ?_; rintro e w2 ⟨A2, B2, ca2, cb2, rfl, OP2, OR2, -, b2⟩
      obtain ⟨g2, o2, rfl, -, -⟩ := OP2 (by omega)
      have k2 := below1 w2 (.cells #[.slice (some ⟨g2, o2, none⟩) ps.length ca2, .slice B2 ts.length cb2] 27)
      have b3 := b2.trans (k2.mono b2.size)
      have T : TwoS w w1.heap.size w2.heap.size (some ad) B ca cb ps rs (some ⟨g2, o2, none⟩) B2 ca2 cb2 ps ts (w2.alloc (.cells #[.slice (some ⟨g2, o2, none⟩) ps.length ca2, .slice B2 ts.length cb2] 27)) :=
        ⟨(X.below b3).cells.1, (X.below b3).cells.2.1, (Pair.new w2 27 _ _).cells.1, (Pair.new w2 27 _ _).cells.2.1, IP.below b3, IA.below b3, (OwnSl.ptsT OP2).below k2, (OwnSl.arcsT OR2).below k2, b1.trans (b3.mono b1.size)⟩
      obtain ⟨yb, hyb⟩ : ∃ yb, yb = w2.heap.size := ⟨_, rfl⟩
      rw [← hyb] at T
      have HYB := Lib.hid hyb
      clear IP IA OP2 OR2 X b1 b2 b3 k2 hyb HT
      go_wp2_with fail
      rw [← HYB.out]
      clear HYB
      go_region_held3 (fun w' => TwoS w w1.heap.size yb (some ad) B ca cb ps rs (some ⟨g2, o2, none⟩) B2 ca2 cb2 ps ts w')
        (first | exact TwoS.drew T | assumption | (refine TwoS.under (by assumption) ?_; assumption))
        (first
          | (go_at_call 13; refine (HS.out _ _ _ _ _ (TwoS.n (by assumption)).1 (TwoS.n (by assumption)).2).mono ?_; rintro e w4 ⟨A4, B4, ca4, cb4, rfl, OP4, OR4, -, b4⟩)
          | (go_at_call 12; refine (sameNet_same _ _ _ _ _ _ _ _ ps ts _ (by omega) (by omega) (TwoS.m (by assumption)).1 (TwoS.m (by assumption)).2 (OwnSl.ptsT OP4) (OwnSl.arcsT OR4)).mono ?_; rintro e w5 ⟨rfl, b5⟩))
      rename_i hU
      clear T OP4 OR4 b4 b5 HS
      obtain ⟨x0, x1, y0, y1⟩ := TwoS.cells hU
      go_wp2_with fail
      clear x0 x1 y0 y1
      refine (specNetOk_any (some ad) B ca cb ps rs _ (by omega) (by omega) (TwoS.n hU).1 (TwoS.n hU).2).mono ?_; rintro e w6 ⟨rfl, b6⟩
      have T := TwoS.under b6 hU
      clear hU b6
      go_wp2
      go_loopw [5] (fun i wr => ∃ u : Nat, u ≤ ps.length ∧ i = .int .i64 u ∧ TwoS w w1.heap.size yb (some ad) B ca cb ps rs (some ⟨g2, o2, none⟩) B2 ca2 cb2 ps ts wr) (fun i _ => ps.length - (intOf i).toNat)
      case atStart => exact ⟨0, by omega, rfl, T⟩
      case round =>
        clear T
        obtain ⟨u, hu, rfl, T⟩ := hrel
        obtain ⟨x0, x1, y0, y1⟩ := TwoS.cells T
        by_cases hlt : u < ps.length
        · have hoi := HOI.out (u : Int)
          have hne : ((outs ps rs u).length : Int) = (ins ps ts u).length → True := fun _ => trivial
          have HZu := Lib.hid (HZ.out (u : Int))
          have HOIu := Lib.hid hoi
          clear hoi hne
          go_wp2_with fail
          go_region_held3 (fun w' => TwoS w w1.heap.size yb (some ad) B ca cb ps rs (some ⟨g2, o2, none⟩) B2 ca2 cb2 ps ts w')
            (first | exact TwoS.drew T | assumption | (refine TwoS.under (by assumption) ?_; assumption))
            (first
              | (go_at_call 15; refine (implOuts_any _ _ _ _ ps rs _ _ (by omega) (by omega) (TwoS.n (by assumption)).1 (TwoS.n (by assumption)).2).mono ?_; rintro e w7 ⟨A7, c7, rfl, -, O7, b7⟩)
              | (go_at_call 16; refine (implIns_any _ _ _ _ ps ts _ _ (by omega) (by omega) (TwoS.m (by assumption)).1 (TwoS.m (by assumption)).2).mono ?_; rintro e w8 ⟨A8, c8, rfl, -, O8, b8⟩; have O7' := O7.below b8))
          rename_i hU
          have I7 := O7'.ints
          have I8 := O8.ints
          clear O7 O7' O8 b7 b8 T x0 x1 y0 y1
          have hne : (((outs ps rs (u : Int)).length : Int) != ((ins ps ts (u : Int)).length : Int)) = false := by rw [HOIu.out]; simp
          have hzl := outs_len ps rs (u : Int)
          have hyl := ins_len ps ts (u : Int)
          clear HOIu
          go_wp2
          go_loopw [8] (fun i wr => ∃ j : Nat, j ≤ (outs ps rs (u : Int)).length ∧ i = .int .i64 j ∧ TwoS w w1.heap.size yb (some ad) B ca cb ps rs (some ⟨g2, o2, none⟩) B2 ca2 cb2 ps ts wr ∧ IsInts wr A7 (outs ps rs (u : Int)) ∧ IsInts wr A8 (ins ps ts (u : Int))) (fun i _ => (outs ps rs (u : Int)).length - (intOf i).toNat)
          case atStart => exact ⟨0, by omega, rfl, hU, I7, I8⟩
          case round =>
            clear hU I7 I8 hne
            obtain ⟨j, hj, rfl, T, I7, I8⟩ := hrel
            by_cases hjl : j < (outs ps rs (u : Int)).length
            · obtain ⟨i, hil, hzi, hiu⟩ := HZu.out j hjl
              obtain ⟨k, hkl, hka, hkm, hke⟩ := HF.out i hil
              rw [hiu] at hka hkm
              have HARC := Lib.hid (show ∀ (w : World), IsPts w (some ⟨g2, o2, none⟩) ps → IsArcs w B2 ts → Calls Try.prog 17 #[.agg #[.slice (some ⟨g2, o2, none⟩) ps.length ca2, .slice B2 ts.length cb2], .int .i64 (arg rs i).2.1, .int .i64 (u : Int)] w (fun e w' => e = .returned (.int .i64 (k : Int)) ∧ Below w.heap.size w w') from fun w h1 h2 => by have := implArcAt_any (some ⟨g2, o2, none⟩) B2 ca2 cb2 ps ts (arg rs i).2.1 (u : Int) w (by omega) (by omega) h1 h2; rwa [hka] at this)
              have HIN := Lib.hid (show ∀ (w : World), IsInts w A8 (ins ps ts (u : Int)) → Calls Try.prog 18 #[.slice A8 (ins ps ts (u : Int)).length c8, .int .i64 (k : Int)] w (fun e w' => e = .returned (.bool true) ∧ w = w') from fun w h1 => in_yes A8 c8 _ _ w (by omega) h1 hkm)
              have hke' : ((arg ts k).2.2 != (arg rs i).2.2) = false := by rw [hke]; simp
              have hk0 : decide ((k : Int) < 0) = false := decide_eq_false (by omega)
              obtain ⟨zb, zo, rfl, -, cz⟩ := I7.at_ hjl
              rw [hzi] at cz
              obtain ⟨b, off, rfl, -, c0, c1, c2⟩ := (TwoS.n T).2.at_ hil
              clear hzi hiu hka hkm hke c0
              have S18 : TwoS w w1.heap.size yb (some ad) (some ⟨b, off, none⟩) ca cb ps rs (some ⟨g2, o2, none⟩) B2 ca2 cb2 ps ts wr ∧ wr.cell? ⟨zb, zo + j, none⟩ = some (.int .i64 (i : Int)) ∧ wr.cell? ⟨b, off + i * 3 + 1, none⟩ = some (.int .i64 (arg rs i).2.1) ∧ wr.cell? ⟨b, off + i * 3 + 2, none⟩ = some (.int .i64 (arg rs i).2.2) := ⟨T, cz, c1, c2⟩
              clear T cz c1 c2
              go_wp2_with fail
              go_region_held3 (fun w' => TwoS w w1.heap.size yb (some ad) (some ⟨b, off, none⟩) ca cb ps rs (some ⟨g2, o2, none⟩) B2 ca2 cb2 ps ts w' ∧ w'.cell? ⟨zb, zo + j, none⟩ = some (.int .i64 (i : Int)) ∧ w'.cell? ⟨b, off + i * 3 + 1, none⟩ = some (.int .i64 (arg rs i).2.1) ∧ w'.cell? ⟨b, off + i * 3 + 2, none⟩ = some (.int .i64 (arg rs i).2.2))
                (first | exact ⟨TwoS.drew S18.1, S18.2.1, S18.2.2.1, S18.2.2.2⟩ | assumption)
                ((go_at_call 17; refine (HARC.out _ (TwoS.m (TwoS.drew S18.1)).1 (TwoS.m (TwoS.drew S18.1)).2).mono ?_; rintro e w9 ⟨rfl, b9⟩; have S9 : TwoS w w1.heap.size yb (some ad) (some ⟨b, off, none⟩) ca cb ps rs (some ⟨g2, o2, none⟩) B2 ca2 cb2 ps ts w9 ∧ w9.cell? ⟨zb, zo + j, none⟩ = some (.int .i64 (i : Int)) ∧ w9.cell? ⟨b, off + i * 3 + 1, none⟩ = some (.int .i64 (arg rs i).2.1) ∧ w9.cell? ⟨b, off + i * 3 + 2, none⟩ = some (.int .i64 (arg rs i).2.2) := ⟨TwoS.under b9 (TwoS.drew S18.1), cell_under b9 S18.2.1, cell_under b9 S18.2.2.1, cell_under b9 S18.2.2.2⟩))
              have b9d : Below wr.heap.size wr w9 := (drewB wr).trans b9
              replace I7 := I7.below b9d
              replace I8 := I8.below b9d
              clear HARC b9 b9d S18
              obtain ⟨T, cz, -, c2⟩ := S9
              obtain ⟨b2, off2, rfl, -, -, -, d2⟩ := (TwoS.m T).2.at_ hkl
              have S19 : TwoS w w1.heap.size yb (some ad) (some ⟨b, off, none⟩) ca cb ps rs (some ⟨g2, o2, none⟩) (some ⟨b2, off2, none⟩) ca2 cb2 ps ts w9 ∧ w9.cell? ⟨zb, zo + j, none⟩ = some (.int .i64 (i : Int)) ∧ w9.cell? ⟨b, off + i * 3 + 2, none⟩ = some (.int .i64 (arg rs i).2.2) ∧ w9.cell? ⟨b2, off2 + k * 3 + 2, none⟩ = some (.int .i64 (arg ts k).2.2) := ⟨T, cz, c2, d2⟩
              have I8d : IsInts w9.drew A8 (ins ps ts (u : Int)) := I8.below (drewB w9)
              have I7d : IsInts w9.drew (some ⟨zb, zo, none⟩) (outs ps rs (u : Int)) := I7.below (drewB w9)
              have Td := TwoS.drew T
              clear T cz c2 d2
              have hkd : decide (k < ts.length) = true := decide_eq_true hkl
              have hki : (k : Int) < ts.length := by omega
              have hid_ : decide (i < rs.length) = true := decide_eq_true hil
              have hii : (i : Int) < rs.length := by omega
              go_wp2_with fail
              go_region_held3 (fun w' => TwoS w w1.heap.size yb (some ad) (some ⟨b, off, none⟩) ca cb ps rs (some ⟨g2, o2, none⟩) (some ⟨b2, off2, none⟩) ca2 cb2 ps ts w' ∧ w'.cell? ⟨zb, zo + j, none⟩ = some (.int .i64 (i : Int)) ∧ w'.cell? ⟨b, off + i * 3 + 2, none⟩ = some (.int .i64 (arg rs i).2.2) ∧ w'.cell? ⟨b2, off2 + k * 3 + 2, none⟩ = some (.int .i64 (arg ts k).2.2))
                (first | exact ⟨TwoS.drew S19.1, S19.2.1, S19.2.2.1, S19.2.2.2⟩ | assumption)
                ((go_at_call 18; refine (HIN.out _ I8d).mono ?_; rintro e w' ⟨rfl, rfl⟩))
              clear S19 I7 I8 HIN hke' hk0 hkd hki hid_ hii hkl hil
              go_wp2
              go_roundw
              case rel => exact ⟨j + 1, by omega, by go_num, Td, I7d, I8d⟩
              case measure => simp [intOf]; omega
            · clear I7 I8 HZu hzl hyl
              go_wp2
              go_roundw
              case rel => exact ⟨u + 1, by omega, by go_num, T⟩
              case measure => simp [intOf]; omega
        · obtain rfl : u = ps.length := by omega
          clear hlt hu HOI HZ HF HTT HV
          go_wp2_with fail
          clear x0 x1 y0 y1
          go_region_held3 (fun w' => TwoS w w1.heap.size yb (some ad) B ca cb ps rs (some ⟨g2, o2, none⟩) B2 ca2 cb2 ps ts w')
            (first | exact TwoS.drew T | assumption | (refine TwoS.under (by assumption) ?_; assumption))
            (first
              | (go_at_call 19; refine (HNM.out _ _ _ _ _ (TwoS.m (by assumption)).1 (TwoS.m (by assumption)).2).mono ?_; rintro e w7 ⟨rfl, b7⟩)
              | (go_at_call 11; refine (HTM.out _ _ _ _ _ (TwoS.m (by assumption)).1 (TwoS.m (by assumption)).2).mono ?_; rintro e w8 ⟨A8, B8, ca8, cb8, rfl, OP8, OR8, -, b8⟩)
              | (go_at_call 12; refine (sameNet_same _ _ _ _ _ _ _ _ ps rs _ (by omega) (by omega) (OwnSl.ptsT OP8) (OwnSl.arcsT OR8) (TwoS.n (by assumption)).1 (TwoS.n (by assumption)).2).mono ?_; rintro e w9 ⟨rfl, b9⟩))
          rename_i hU
          have kk := TwoS.bel hU
          clear T hU OP8 OR8 b7 b8 b9
          go_wp2
          go_ret
          exact ⟨rfl, kk⟩

/-! ### THE ROW's STEP: WRITTEN OUT: LEAVE IT -/
set_option maxRecDepth 100000 in
theorem lifted (os : Os) (started : os.Started) (H : Type) (enc : TypeId × Value → H) :
    ReturnsInHanded {} Try.checked os 3 .any (Rows.fnTurnedSpec.pre6 enc Try.prog Try.f3 Rows.fnTurnedRow.domain false) (Rows.fnTurnedSpec.post enc Try.prog Try.f3 false true false false) := by
  refine returnsInHanded_of_change (C := Try.checked) own started (by kernel_rfl) Try.func3
    (ChangeSpec.witness6 (enc := enc) (C := Try.checked) false ⟨#[], #[.slice none 0 0], []⟩ 8 (by kernel_rfl) (by kernel_rfl) (by kernel_rfl) (by kernel_rfl)) ?_
  intro W base args ds gs before hval0 hW hcnd _
  have hval : ∀ (j : Nat) t v, Try.f3.params[j]? = some t → args[j]? = some v → Value.okWide Try.prog W .any base t v := hval0
  have hW' := hW
  obtain ⟨p, q, hA0, hV, rfl, hfz, hnd⟩ := hW
  have hA : DataW.TrodAll enc Try.prog W 0 (fun _ => true) true Try.f3.params.toList args.toList ds p := hA0
  rw [Try.params3] at hA hval
  obtain ⟨v0, vs0, d0, ds0, p0, q0, hargs, rfl, rfl, h0, r0⟩ := trodAll_cons hA
  obtain ⟨rfl, rfl, rfl⟩ := trodAll_nil r0
  obtain rfl : args = #[v0] := by cases args; simp_all
  obtain ⟨rfl, rfl⟩ := trodVars_none hV
  obtain ⟨a0, len0, cap0, rfl⟩ := okWide_slice Try.underlying22 (hval 0 22 v0 rfl rfl)
  have k0 := h0
  have lt0 : ∀ x ∈ p0, x.block < W.heap.size := by obtain ⟨m, hm⟩ := k0; exact DataW.trod_lt m _ _ _ hm
  obtain ⟨z0, w0⟩ : ∃ zs, IsRow .u8 W a0 len0 cap0 zs := by
    obtain ⟨fuel, hf⟩ := h0
    rcases open_ints Try.underlying22 Try.underlying5 (by kernel_rfl) hf with ⟨hcs, _⟩ | ⟨x, l, c, zs, hcs, _, hl, hm, hz, _, hcell, hwz⟩
    · simp [Value.cells] at hcs
      obtain ⟨rfl, rfl, rfl⟩ := hcs
      exact ⟨[], .inl ⟨rfl, rfl, rfl, rfl⟩⟩
    · simp [Value.cells] at hcs
      obtain ⟨rfl, rfl, rfl⟩ := hcs
      exact ⟨zs, .inr ⟨_, rfl, hl, hm, by simpa using hz, hcell, hwz⟩⟩
  clear hA0 hval0
  refine (walk a0 len0 cap0 z0 W w0).mono fun e W' ⟨he, bel⟩ => ?_
  subst he
  exact ⟨_, rfl, _, _, _, [], _, [], hW', trodAll_mk1 (shut_bool Try.underlying4 _), (trodAll_cons_mk (Below.trod laidOut (by kernel_rfl) (of_decide_eq_true (by kernel_rfl)) k0 bel lt0) trodAll_mk0), rfl, bel.frame _, fun h => by cases h⟩

theorem over : Rows.fnTurnedRow.holds Try.pinned (OpenSpec.ofChange Rows.fnTurnedSpec) :=
  OpenClaim.holds_of_wide 3 Try.f3 rfl rfl rfl rfl rfl rfl rfl ⟨rfl, rfl, rfl, rfl, rfl⟩ rfl rfl rfl rfl rfl (by kernel_rfl) Try.func3 (by kernel_rfl)
    (of_decide_eq_true (by kernel_rfl)) (by unfold Func.isWrapper; first | (rw [if_pos (by decide +kernel)]; kernel_rfl) | (rw [if_neg (by decide +kernel)]; exact ⟨rfl, rfl⟩))
    (fun os started H enc _ => lifted os started H enc)

/-- ████ THE STATEMENT ████ -/
theorem proved : Rows.FnTurnedSaid := over
#print axioms proved
end Go.Proofs.Ytahpjpchphbgiaa.fnTurned
