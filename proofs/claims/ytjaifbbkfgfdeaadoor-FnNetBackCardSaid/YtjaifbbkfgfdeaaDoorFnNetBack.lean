/-
  For every slice of bytes the law FnNetBack returns true: the network drawn from it is read back from its text, and what is read of the text drawn from it has just that text; its condition, that the library's tables and errors read as their initialisers lay them, is tied to the program's text by the card.
-/
import Derived.Test.YtjaifbbkfgfdeaaDoorRows
import Derived.WalkKit
import Derived.ProofKit
import Derived.OpenShut
import Derived.ShutString
import Derived.ChangeOld
import Derived.Below
import Derived.Test.YtjaifbbkfgfdeaaDoorReadIm
import Derived.Test.YtjaifbbkfgfdeaaDoorShape
import Derived.Test.YtjaifbbkfgfdeaaDoorBackMath
import Derived.Test.YtjaifbbkfgfdeaaDoorDrawNetTx
import Derived.Test.YtjaifbbkfgfdeaaDoorSameNet
import Derived.Test.YtjaifbbkfgfdeaaDoorTie
import Derived.Test.YtjaifbbkfgfdeaaDoorCards
import Derived.LaidMore
import Derived.Lay
import Derived.Stop.Joined
import Derived.SevenTiedAt
import Derived.MakeChecks
namespace Go.Proofs.YtjaifbbkfgfdeaaDoor.fnNetBack
open Go.ChangeShapes Go.WideShapes Go.ChangeAt Go.RowKit
open Go.ChangeMaps (open_string shut_string)
set_option linter.unusedVariables false

theorem own : ownKnob Tryd.prog.godebug = none := by kernel_rfl
theorem laidOut : laidOutB Tryd.prog = true := by kernel_rfl

/-- WHAT THE WALK IS TOLD OF A SLICE OF INTEGERS THAT CAME IN: it is nil; or it leads to a row of 'cap' cells, the numbers 'zs' (the first 'len' are its elements, the rest its spare room), each fitting its kind. -/
def IsRow (k : IntKind) (w : World) (a : Option Addr) (len cap : Nat) (zs : List Int) : Prop :=
  (a = none ∧ len = 0 ∧ cap = 0 ∧ zs = []) ∨
  ∃ x, a = some x ∧ len ≤ cap ∧ cap ≤ maxLen ∧ zs.length = cap ∧ (∀ i, i < zs.length → w.cell? (x.add i) = some (.int k (zs.getD i 0))) ∧ ∀ n ∈ zs, (Lit.int k n).wf = true

theorem OwnSl.ptsT {w : World} {base : Nat} {A : Option Addr} {ps : List (Int × Int)} (h : OwnSl w base 44 A (ps.length * 2) (flatP ps)) : IsPts w A ps := fun hp => by
  obtain ⟨g, off, rfl, -, ho⟩ := h (by omega)
  exact ⟨g, off, rfl, ho.lt, fun i hi => ⟨by rw [ho.cell (i := i * 2) (by omega), flatP_0], by rw [show off + i * 2 + 1 = off + (i * 2 + 1) by omega, ho.cell (i := i * 2 + 1) (by omega), flatP_1]⟩⟩
theorem OwnSl.arcsT {w : World} {base : Nat} {B : Option Addr} {rs : List A3} (h : OwnSl w base 51 B (rs.length * 3) (flatA rs)) : IsArcs w B rs := fun hp => by
  obtain ⟨g, off, rfl, -, ho⟩ := h (by omega)
  exact ⟨g, off, rfl, ho.lt, fun i hi => ⟨by rw [ho.cell (i := i * 3) (by omega), flatA_0], by rw [show off + i * 3 + 1 = off + (i * 3 + 1) by omega, ho.cell (i := i * 3 + 1) (by omega), flatA_1], by rw [show off + i * 3 + 2 = off + (i * 3 + 2) by omega, ho.cell (i := i * 3 + 2) (by omega), flatA_2]⟩⟩
theorem cell_underB {w w' : World} {b i : Nat} {v : Value} (hb : Below w.heap.size w w') (h : w.cell? ⟨b, i, none⟩ = some v) : w'.cell? ⟨b, i, none⟩ = some v := by
  have hl : b < w.heap.size := by simpa using World.block_lt_of_cell? w _ h
  exact (World.cell?_of_block (w := w) (a := ⟨b, i, none⟩) (hb.block b hl)).trans h
/-- A network in a box of the law's. -/
def NS (base : World) (x : Nat) (A B : Option Addr) (ca cb : Nat) (ps : List (Int × Int)) (rs : List A3) (w : World) : Prop :=
  (w.cell? ⟨x, 0, none⟩ = some (.slice A ps.length ca) ∧ w.cell? ⟨x, 1, none⟩ = some (.slice B rs.length cb)) ∧ IsPts w A ps ∧ IsArcs w B rs ∧ Below base.heap.size base w
section
variable {base w w' : World} {x : Nat} {A B : Option Addr} {ca cb : Nat} {ps : List (Int × Int)} {rs : List A3}
theorem NS.under (hb : Below w.heap.size w w') (h : NS base x A B ca cb ps rs w) : NS base x A B ca cb ps rs w' := ⟨⟨cell_underB hb h.1.1, cell_underB hb h.1.2⟩, h.2.1.below hb, h.2.2.1.below hb, h.2.2.2.trans (hb.mono h.2.2.2.size)⟩
theorem NS.cells (h : NS base x A B ca cb ps rs w) : w.cell? ⟨x, 0, none⟩ = some (.slice A ps.length ca) ∧ w.cell? ⟨x, 1, none⟩ = some (.slice B rs.length cb) := h.1
theorem NS.pts (h : NS base x A B ca cb ps rs w) : IsPts w A ps := h.2.1
theorem NS.arcs (h : NS base x A B ca cb ps rs w) : IsArcs w B rs := h.2.2.1
theorem NS.bel (h : NS base x A B ca cb ps rs w) : Below base.heap.size base w := h.2.2.2
theorem NS.new (base : World) (t : TypeId) (A B : Option Addr) (ca cb : Nat) (ps : List (Int × Int)) (rs : List A3) (w : World) (ha : IsPts w A ps) (hb : IsArcs w B rs) (hk : Below base.heap.size base w) : NS base w.heap.size A B ca cb ps rs (w.alloc (.cells #[.slice A ps.length ca, .slice B rs.length cb] t)) :=
  have k := below1 w (.cells #[.slice A ps.length ca, .slice B rs.length cb] t)
  ⟨⟨(Pair.new w t _ _).cells.1, (Pair.new w t _ _).cells.2.1⟩, ha.below k, hb.below k, hk.trans (k.mono hk.size)⟩
end
theorem txB (s : ByteArray) : tx s.data.toList = s := by
  apply ByteArray.ext; simp [tx]
theorem rd_lenB (s : List UInt8) : (rdNet s).1.length ≤ 1048576 ∧ (rdNet s).2.1.length ≤ 1048576 := by
  unfold rdNet
  split
  · simp
  · split
    · simp
    · split
      · rename_i hok
        have := netB_iff.1 hok
        exact ⟨Nat.le_trans this.1 (by decide), Nat.le_trans this.2.1 (by decide)⟩
      · simp

/-! ### STEP 1: THE WALK: the Go text returns true, AND WRITES NOTHING THAT WAS THERE: 'Below w.heap.size w w'' (Derived/Below.lean: '.refl', '.alloc', '.drew', '.setCell' at a new block, '.trans'). Open each 'IsRow' by 'rcases' AHEAD of 'go_enter'; part every test ahead of the walk. -/
set_option maxHeartbeats 4000000 in
set_option maxRecDepth 100000 in
theorem walk (a0 : Option Addr) (len0 cap0 : Nat) (z0 : List Int) (w : World) (w0 : IsRow .u8 w a0 len0 cap0 z0) (hL : laidMetH Tryd.prog Rows.fnNetBackRow.laid w) (hSH : w.ShapedOpen Tryd.prog) :
    Calls Tryd.prog 3 #[.slice a0 len0 cap0] w fun e w' => e = .returned (.bool true) ∧ Below w.heap.size w w' := by
  have hcode := codeIn_of w0
  clear w0
  rw [MakeChecks.laidMetH_plain _ _ _ (by kernel_rfl)] at hL
  have hv := Lib.hid (libVars_of7 hL)
  have hm := Lib.hid (maxV_of hSH)
  clear hL hSH
  by_cases hbig : 1048576 < len0
  · have hd : decide ((1048576 : Int) < len0) = true := by simp; omega
    go_enter Tryd.func3, Tryd.ntmps3
    go_wp2_with (go_at_call 5; refine (big_any _ _ _ _).mono ?_; rintro e w' ⟨rfl, rfl⟩)
    go_ret
    exact ⟨rfl, Below.refl _ _⟩
  · have hd : decide ((1048576 : Int) < len0) = false := by simp; omega
    have HRD : Hid (∀ (s : ByteArray) w, s.size ≤ 1048576 → MaxV w → LibVars w → Calls Tryd.prog 10 #[.string s] w (RdMade w (rdNet s.data.toList))) := Lib.hid (fun s w h h1 h2 => by have := implNetRead_any s.data.toList w (by rw [Array.length_toList]; exact h) h1 h2; rwa [txB] at this)
    go_enter Tryd.func3, Tryd.ntmps3
    go_wp2_with fail
    refine (big_any _ _ _ _).mono ?_; rintro e w' ⟨rfl, rfl⟩
    go_wp2_with fail
    refine (drawNetText_any w a0 len0 cap0 hcode (by omega)).mono ?_
    rintro e w1 ⟨ad, B, ca, cb, ps, rs, rfl, h2, h21, h100, IP, IA, b1⟩
    have T := NS.new w 27 (some ad) B ca cb ps rs w1 IP IA b1
    obtain ⟨W1, hW1⟩ : ∃ W1, W1 = w1.alloc (.cells #[.slice (some ad) ps.length ca, .slice B rs.length cb] 27) := ⟨_, rfl⟩
    rw [← hW1] at T
    have HW1 := Lib.hid hW1
    clear hW1 IP IA b1
    go_wp2_with fail
    rw [← HW1.out]
    clear HW1
    generalize w1.heap.size = x at T ⊢
    refine (implNetText_any (some ad) B ca cb ps rs _ (by omega) (by omega) T.pts T.arcs (hv.out.below T.bel).1).mono ?_; rintro e w2 ⟨rfl, b2⟩
    replace T := T.under b2
    clear b2
    obtain ⟨x0, x1⟩ := T.cells
    go_wp2_with fail
    clear x0 x1
    refine (specNetText_any (some ad) B ca cb ps rs _ (by omega) (by omega) T.pts T.arcs).mono ?_; rintro e w3 ⟨rfl, b3⟩
    replace T := T.under b3
    clear b3
    have hsz : (tx (netTx ps rs)).size ≤ 6400 := by rw [tx_size]; exact netTx_len ps rs
    have HB : Hid (netB ps rs = true → (tx (netTx ps rs)).size ≤ 4000 → rdNet (tx (netTx ps rs)).data.toList = (ps, rs, 0)) := Lib.hid (fun h h' => by
      rw [tx_data]; rw [tx_size] at h'
      have e : netTx ps rs = netL ps rs := by unfold netTx; rw [if_pos h]
      rw [e] at h' ⊢
      exact rd_back h h')
    generalize tx (netTx ps rs) = s at hsz HB ⊢
    obtain ⟨x0, x1⟩ := T.cells
    go_wp2_with fail
    clear x0 x1
    refine (specNetOk_any (some ad) B ca cb ps rs _ (by omega) (by omega) T.pts T.arcs).mono ?_; rintro e w4 ⟨rfl, b4⟩
    replace T := T.under b4
    clear b4
    obtain ⟨b, hb⟩ : ∃ b, b = netB ps rs := ⟨_, rfl⟩
    rw [← hb] at HB ⊢
    clear hb
    obtain ⟨x0, x1⟩ := T.cells
    have K := T.bel
    cases b with
    | false =>
      clear HB
      go_wp2_with fail
      clear x0 x1 T
      refine (drawNetRead_any _ a0 len0 cap0 (hcode.below K) (by omega)).mono ?_
      rintro e w7 ⟨t, rfl, ht, b7⟩
      replace K := K.trans (b7.mono K.size)
      clear b7
      obtain ⟨hl1, hl2⟩ := rd_lenB t.data.toList
      have HT0 : Hid (∀ qs ts, rdNet t.data.toList = (qs, ts, 0) → netB qs ts = true ∧ tx (netTx qs ts) = t) := Lib.hid (fun qs ts h => by
        obtain ⟨h1, h2⟩ := rd_text h
        refine ⟨h1, ?_⟩
        unfold netTx
        rw [if_pos h1, h2, txB])
      have HC0 : Hid (∀ qs ts cc, rdNet t.data.toList = (qs, ts, cc) → cc ≠ 0 → qs = [] ∧ ts = []) := Lib.hid (fun qs ts cc h hc => rd_code h hc)
      have HSR := Lib.hid (fun w => specNetRead_any t w (by omega))
      have HIR := Lib.hid (fun w => HRD.out t w (by omega))
      generalize rdNet t.data.toList = rr at HT0 HC0 HSR HIR hl1 hl2
      obtain ⟨qs, ts, cc⟩ := rr
      simp only at hl1 hl2
      go_wp2_with fail
      refine (HIR.out _ (hm.out.below K) (hv.out.below K)).mono ?_
      rintro e w8 ⟨A3, B3, ca3, cb3, rfl, OP, OR, -, b8⟩
      replace OP := OwnSl.ptsT OP
      replace OR := OwnSl.arcsT OR
      replace K := K.trans (b8.mono K.size)
      have V := NS.new w 27 A3 B3 ca3 cb3 qs ts w8 OP OR K
      clear OP OR b8 K HRD HIR
      obtain ⟨W8, hW8⟩ : ∃ W8, W8 = w8.alloc (.cells #[.slice A3 qs.length ca3, .slice B3 ts.length cb3] 27) := ⟨_, rfl⟩
      rw [← hW8] at V
      have HW8 := Lib.hid hW8
      clear hW8
      go_wp2_with fail
      rw [← HW8.out]
      clear HW8
      refine (HSR.out _).mono ?_
      rintro e w9 ⟨A4, B4, ca4, cb4, rfl, -, -, -, b9⟩
      replace V := (V.under b9).under (below1 w9 (.cells #[.slice A4 qs.length ca4, .slice B4 ts.length cb4] 27))
      clear b9 HSR
      obtain ⟨v0, v1⟩ := V.cells
      have e1 : (cc == cc) = true := by simp
      by_cases hcc : cc = 0
      · subst hcc
        obtain ⟨hok, htx⟩ := HT0.out qs ts rfl
        have HTX := Lib.hid htx
        have HOK := Lib.hid (implNetOk_any A3 B3 ca3 cb3 qs ts _ hl1 hl2 V.pts V.arcs)
        rw [hok] at HOK
        clear HT0 HC0 hok htx
        go_wp2_with fail
        clear v0 v1
        refine HOK.out.mono ?_; rintro e w10 ⟨rfl, b10⟩
        replace V := V.under b10
        clear b10 HOK
        obtain ⟨v0, v1⟩ := V.cells
        have HTT := Lib.hid (implNetText_any A3 B3 ca3 cb3 qs ts w10 hl1 hl2 V.pts V.arcs (hv.out.below V.bel).1)
        rw [HTX.out] at HTT
        clear HTX
        go_wp2_with fail
        clear v0 v1
        refine HTT.out.mono ?_; rintro e w11 ⟨rfl, b11⟩
        have K := (V.under b11).bel
        clear V HTT b11
        go_wp2
        go_ret
        exact ⟨rfl, K⟩
      · have hq : qs.length = 0 := by rw [(HC0.out qs ts cc rfl hcc).1]; rfl
        have e4 : ((qs.length : Int) == 0) = true := by rw [hq]; rfl
        have e2 : (cc != 0) = true := by simp [hcc]
        have e3 : (cc == 0) = false := by simp [hcc]
        have K := V.bel
        clear HT0 HC0 hq
        go_wp2
        go_ret
        exact ⟨rfl, K⟩
    | true =>
      by_cases h4 : s.size ≤ 4000
      · have hd4 : decide ((s.size : Int) ≤ 4000) = true := decide_eq_true (by omega)
        have HQ := Lib.hid (HB.out rfl h4)
        clear HB K
        go_wp2_with fail
        clear x0 x1
        have HRS := HRD.out s w4 (by omega) (hm.out.below T.bel) (hv.out.below T.bel)
        rw [HQ.out] at HRS
        clear HQ
        refine HRS.mono ?_
        clear HRS
        rintro e w5 ⟨A2, B2, ca2, cb2, rfl, OP, OR, -, b5⟩
        replace OP := OwnSl.ptsT OP
        replace OR := OwnSl.arcsT OR
        replace T := T.under b5
        have U := NS.new w 27 A2 B2 ca2 cb2 ps rs w5 OP OR T.bel
        replace T := T.under (below1 w5 (.cells #[.slice A2 ps.length ca2, .slice B2 rs.length cb2] 27))
        clear OP OR b5
        obtain ⟨W5, hW5⟩ : ∃ W5, W5 = w5.alloc (.cells #[.slice A2 ps.length ca2, .slice B2 rs.length cb2] 27) := ⟨_, rfl⟩
        rw [← hW5] at T U
        obtain ⟨x0, x1⟩ := T.cells
        obtain ⟨u0, u1⟩ := U.cells
        rw [hW5] at x0 x1 u0 u1
        have HW5 := Lib.hid hW5
        clear hW5
        go_wp2_with fail
        clear x0 x1 u0 u1
        rw [← HW5.out]
        clear HW5
        refine (sameNet_same A2 B2 (some ad) B ca2 cb2 ca cb ps rs _ (by omega) (by omega) U.pts U.arcs T.pts T.arcs).mono ?_; rintro e w6 ⟨rfl, b6⟩
        have K := (T.under b6).bel
        clear T U b6
        go_wp2_with fail
        refine (drawNetRead_any _ a0 len0 cap0 (hcode.below K) (by omega)).mono ?_
        rintro e w7 ⟨t, rfl, ht, b7⟩
        replace K := K.trans (b7.mono K.size)
        clear b7
        obtain ⟨hl1, hl2⟩ := rd_lenB t.data.toList
        have HT0 : Hid (∀ qs ts, rdNet t.data.toList = (qs, ts, 0) → netB qs ts = true ∧ tx (netTx qs ts) = t) := Lib.hid (fun qs ts h => by
          obtain ⟨h1, h2⟩ := rd_text h
          refine ⟨h1, ?_⟩
          unfold netTx
          rw [if_pos h1, h2, txB])
        have HC0 : Hid (∀ qs ts cc, rdNet t.data.toList = (qs, ts, cc) → cc ≠ 0 → qs = [] ∧ ts = []) := Lib.hid (fun qs ts cc h hc => rd_code h hc)
        have HSR := Lib.hid (fun w => specNetRead_any t w (by omega))
        have HIR := Lib.hid (fun w => HRD.out t w (by omega))
        generalize rdNet t.data.toList = rr at HT0 HC0 HSR HIR hl1 hl2
        obtain ⟨qs, ts, cc⟩ := rr
        simp only at hl1 hl2
        go_wp2_with fail
        refine (HIR.out _ (hm.out.below K) (hv.out.below K)).mono ?_
        rintro e w8 ⟨A3, B3, ca3, cb3, rfl, OP, OR, -, b8⟩
        replace OP := OwnSl.ptsT OP
        replace OR := OwnSl.arcsT OR
        replace K := K.trans (b8.mono K.size)
        have V := NS.new w 27 A3 B3 ca3 cb3 qs ts w8 OP OR K
        clear OP OR b8 K HRD HIR
        obtain ⟨W8, hW8⟩ : ∃ W8, W8 = w8.alloc (.cells #[.slice A3 qs.length ca3, .slice B3 ts.length cb3] 27) := ⟨_, rfl⟩
        rw [← hW8] at V
        have HW8 := Lib.hid hW8
        clear hW8
        go_wp2_with fail
        rw [← HW8.out]
        clear HW8
        refine (HSR.out _).mono ?_
        rintro e w9 ⟨A4, B4, ca4, cb4, rfl, -, -, -, b9⟩
        replace V := (V.under b9).under (below1 w9 (.cells #[.slice A4 qs.length ca4, .slice B4 ts.length cb4] 27))
        clear b9 HSR
        obtain ⟨v0, v1⟩ := V.cells
        have e1 : (cc == cc) = true := by simp
        by_cases hcc : cc = 0
        · subst hcc
          obtain ⟨hok, htx⟩ := HT0.out qs ts rfl
          have HTX := Lib.hid htx
          have HOK := Lib.hid (implNetOk_any A3 B3 ca3 cb3 qs ts _ hl1 hl2 V.pts V.arcs)
          rw [hok] at HOK
          clear HT0 HC0 hok htx
          go_wp2_with fail
          clear v0 v1
          refine HOK.out.mono ?_; rintro e w10 ⟨rfl, b10⟩
          replace V := V.under b10
          clear b10 HOK
          obtain ⟨v0, v1⟩ := V.cells
          have HTT := Lib.hid (implNetText_any A3 B3 ca3 cb3 qs ts w10 hl1 hl2 V.pts V.arcs (hv.out.below V.bel).1)
          rw [HTX.out] at HTT
          clear HTX
          go_wp2_with fail
          clear v0 v1
          refine HTT.out.mono ?_; rintro e w11 ⟨rfl, b11⟩
          have K := (V.under b11).bel
          clear V HTT b11
          go_wp2
          go_ret
          exact ⟨rfl, K⟩
        · have hq : qs.length = 0 := by rw [(HC0.out qs ts cc rfl hcc).1]; rfl
          have e4 : ((qs.length : Int) == 0) = true := by rw [hq]; rfl
          have e2 : (cc != 0) = true := by simp [hcc]
          have e3 : (cc == 0) = false := by simp [hcc]
          have K := V.bel
          clear HT0 HC0 hq
          go_wp2
          go_ret
          exact ⟨rfl, K⟩
      · have hd4 : decide ((s.size : Int) ≤ 4000) = false := decide_eq_false (by omega)
        clear HB
        go_wp2_with fail
        clear x0 x1 T
        refine (drawNetRead_any _ a0 len0 cap0 (hcode.below K) (by omega)).mono ?_
        rintro e w7 ⟨t, rfl, ht, b7⟩
        replace K := K.trans (b7.mono K.size)
        clear b7
        obtain ⟨hl1, hl2⟩ := rd_lenB t.data.toList
        have HT0 : Hid (∀ qs ts, rdNet t.data.toList = (qs, ts, 0) → netB qs ts = true ∧ tx (netTx qs ts) = t) := Lib.hid (fun qs ts h => by
          obtain ⟨h1, h2⟩ := rd_text h
          refine ⟨h1, ?_⟩
          unfold netTx
          rw [if_pos h1, h2, txB])
        have HC0 : Hid (∀ qs ts cc, rdNet t.data.toList = (qs, ts, cc) → cc ≠ 0 → qs = [] ∧ ts = []) := Lib.hid (fun qs ts cc h hc => rd_code h hc)
        have HSR := Lib.hid (fun w => specNetRead_any t w (by omega))
        have HIR := Lib.hid (fun w => HRD.out t w (by omega))
        generalize rdNet t.data.toList = rr at HT0 HC0 HSR HIR hl1 hl2
        obtain ⟨qs, ts, cc⟩ := rr
        simp only at hl1 hl2
        go_wp2_with fail
        refine (HIR.out _ (hm.out.below K) (hv.out.below K)).mono ?_
        rintro e w8 ⟨A3, B3, ca3, cb3, rfl, OP, OR, -, b8⟩
        replace OP := OwnSl.ptsT OP
        replace OR := OwnSl.arcsT OR
        replace K := K.trans (b8.mono K.size)
        have V := NS.new w 27 A3 B3 ca3 cb3 qs ts w8 OP OR K
        clear OP OR b8 K HRD HIR
        obtain ⟨W8, hW8⟩ : ∃ W8, W8 = w8.alloc (.cells #[.slice A3 qs.length ca3, .slice B3 ts.length cb3] 27) := ⟨_, rfl⟩
        rw [← hW8] at V
        have HW8 := Lib.hid hW8
        clear hW8
        go_wp2_with fail
        rw [← HW8.out]
        clear HW8
        refine (HSR.out _).mono ?_
        rintro e w9 ⟨A4, B4, ca4, cb4, rfl, -, -, -, b9⟩
        replace V := (V.under b9).under (below1 w9 (.cells #[.slice A4 qs.length ca4, .slice B4 ts.length cb4] 27))
        clear b9 HSR
        obtain ⟨v0, v1⟩ := V.cells
        have e1 : (cc == cc) = true := by simp
        by_cases hcc : cc = 0
        · subst hcc
          obtain ⟨hok, htx⟩ := HT0.out qs ts rfl
          have HTX := Lib.hid htx
          have HOK := Lib.hid (implNetOk_any A3 B3 ca3 cb3 qs ts _ hl1 hl2 V.pts V.arcs)
          rw [hok] at HOK
          clear HT0 HC0 hok htx
          go_wp2_with fail
          clear v0 v1
          refine HOK.out.mono ?_; rintro e w10 ⟨rfl, b10⟩
          replace V := V.under b10
          clear b10 HOK
          obtain ⟨v0, v1⟩ := V.cells
          have HTT := Lib.hid (implNetText_any A3 B3 ca3 cb3 qs ts w10 hl1 hl2 V.pts V.arcs (hv.out.below V.bel).1)
          rw [HTX.out] at HTT
          clear HTX
          go_wp2_with fail
          clear v0 v1
          refine HTT.out.mono ?_; rintro e w11 ⟨rfl, b11⟩
          have K := (V.under b11).bel
          clear V HTT b11
          go_wp2
          go_ret
          exact ⟨rfl, K⟩
        · have hq : qs.length = 0 := by rw [(HC0.out qs ts cc rfl hcc).1]; rfl
          have e4 : ((qs.length : Int) == 0) = true := by rw [hq]; rfl
          have e2 : (cc != 0) = true := by simp [hcc]
          have e3 : (cc == 0) = false := by simp [hcc]
          have K := V.bel
          clear HT0 HC0 hq
          go_wp2
          go_ret
          exact ⟨rfl, K⟩

/-! ### THE ROW's STEP: WRITTEN OUT: LEAVE IT -/
theorem door_met (os : Os) (args : Array Value) : laidMetH Tryd.prog Rows.fnNetBackRow.laid ((World.laidAll Tryd.prog os Rows.fnNetBackRow.laid).forCall (fun _ _ => 0) ⟨#[], args, []⟩).memory := by
  rw [MakeChecks.laidMetH_plain _ _ _ (by kernel_rfl)]; exact laidMet_laidAll _ (by kernel_rfl) (by kernel_rfl)

set_option maxRecDepth 100000 in
theorem lifted (os : Os) (started : os.Started) (H : Type) (enc : TypeId × Value → H) :
    ReturnsInHanded {} Tryd.checked os 3 .any (fun w args => (Rows.fnNetBackSpec.pre enc Tryd.prog Tryd.f3 [] false w args ∧ laidMetH Tryd.prog Rows.fnNetBackRow.laid w) ∧ sizedMet enc Tryd.prog Tryd.f3 (OpenSpec.ofChange Rows.fnNetBackSpec) false w args) (Rows.fnNetBackSpec.post enc Tryd.prog Tryd.f3 false true false false) := by
  refine handed_shaped (C := Tryd.checked) (X := fun w _ => laidMetH Tryd.prog Rows.fnNetBackRow.laid w) (fun _ _ _ hh h => h.of_heap hh) own started (by kernel_rfl) Tryd.func3
    (ChangeSpec.witness_shaped (enc := enc) (C := Tryd.checked) (os := os) (X := fun w _ => laidMetH Tryd.prog Rows.fnNetBackRow.laid w) false (World.laidAll Tryd.prog os Rows.fnNetBackRow.laid) #[.slice none 0 0] 8 (World.laidAll_os _ _ _)
      (World.shaped_of_ZipB (by kernel_rfl) (by kernel_rfl)) (by kernel_rfl) (by kernel_rfl) (by kernel_rfl) (door_met os _)) ?_
  intro W base args ds gs before hval0 hW hL hSH
  have hval : ∀ (j : Nat) t v, Tryd.f3.params[j]? = some t → args[j]? = some v → Value.okWide Tryd.prog W .any base t v := hval0
  have hW' := hW
  obtain ⟨p, q, hA0, hV, rfl, hfz, hnd⟩ := hW
  have hA : DataW.TrodAll enc Tryd.prog W 0 (fun _ => true) true Tryd.f3.params.toList args.toList ds p := hA0
  rw [Tryd.params3] at hA hval
  obtain ⟨v0, vs0, d0, ds0, p0, q0, hargs, rfl, rfl, h0, r0⟩ := trodAll_cons hA
  obtain ⟨rfl, rfl, rfl⟩ := trodAll_nil r0
  obtain rfl : args = #[v0] := by cases args; simp_all
  obtain ⟨rfl, rfl⟩ := trodVars_none hV
  obtain ⟨a0, len0, cap0, rfl⟩ := okWide_slice Tryd.underlying22 (hval 0 22 v0 rfl rfl)
  have k0 := h0
  have lt0 : ∀ x ∈ p0, x.block < W.heap.size := by obtain ⟨m, hm⟩ := k0; exact DataW.trod_lt m _ _ _ hm
  obtain ⟨z0, w0⟩ : ∃ zs, IsRow .u8 W a0 len0 cap0 zs := by
    obtain ⟨fuel, hf⟩ := h0
    rcases open_ints Tryd.underlying22 Tryd.underlying5 (by kernel_rfl) hf with ⟨hcs, _⟩ | ⟨x, l, c, zs, hcs, _, hl, hm, hz, _, hcell, hwz⟩
    · simp [Value.cells] at hcs
      obtain ⟨rfl, rfl, rfl⟩ := hcs
      exact ⟨[], .inl ⟨rfl, rfl, rfl, rfl⟩⟩
    · simp [Value.cells] at hcs
      obtain ⟨rfl, rfl, rfl⟩ := hcs
      exact ⟨zs, .inr ⟨_, rfl, hl, hm, by simpa using hz, hcell, hwz⟩⟩
  clear hA0 hval0
  refine (walk a0 len0 cap0 z0 W w0 hL hSH).mono fun e W' ⟨he, bel⟩ => ?_
  subst he
  exact ⟨_, rfl, _, _, _, [], _, [], hW', trodAll_mk1 (shut_bool Tryd.underlying4 _), (trodAll_cons_mk (Below.trod laidOut (by kernel_rfl) (of_decide_eq_true (by kernel_rfl)) k0 bel lt0) trodAll_mk0), rfl, bel.frame _, fun h => by cases h⟩

theorem over : Rows.fnNetBackRow.holds Tryd.pinned (OpenSpec.ofChange Rows.fnNetBackSpec) :=
  OpenClaim.holds_of_wide 3 Tryd.f3 rfl rfl rfl rfl rfl rfl rfl ⟨rfl, rfl, rfl, rfl, rfl⟩ rfl rfl rfl rfl rfl (by kernel_rfl) Tryd.func3 (by kernel_rfl)
    (of_decide_eq_true (by kernel_rfl)) (by unfold Func.isWrapper; first | (rw [if_pos (by decide +kernel)]; kernel_rfl) | (rw [if_neg (by decide +kernel)]; exact ⟨rfl, rfl⟩))
    (fun os started H enc _ => lifted os started H enc)

theorem row_proved : Rows.FnNetBackSaid :=
  over

/-- The statement. -/
theorem proved : Rows.FnNetBackCardSaid :=
  Claim7.holds_tied_plain_at .later [] [.data, .data, .data, .data, .sentinel, .sentinel, .pinned] true (true, "c7f7fac7320ea72dce17f2743e099ec67f91ff4d65b9559554abae8536680030") true
    row_proved (fun _ h => by cases h) (by kernel_rfl) (fun _ h => by cases h) fnNetBack_row_tie rfl ⟨rfl, rfl⟩ (by kernel_rfl) rfl
    (fun f fn hf hfn => by
      obtain rfl : f = 3 := Option.some.inj ((show Tryd.prog.funcNamed "loop.example/g00640/laws.FnNetBack" = some 3 by kernel_rfl).symm.trans hf) |>.symm
      obtain rfl : fn = Tryd.f3 := (Option.some.inj (Tryd.func3.symm.trans hfn)).symm
      exact ⟨by kernel_rfl, fun j t ht => by
        rw [Tryd.params3] at ht
        have hm : t ∈ [22] := by simpa using Array.mem_of_getElem? ht
        have hall : ([22].all fun u => !Tryd.prog.wantsStandIn u) = true := by kernel_rfl
        exact (show Tryd.prog.wantsStandIn t = false by simpa using List.all_eq_true.1 hall t hm)⟩)
    (by kernel_rfl)
#print axioms proved
end Go.Proofs.YtjaifbbkfgfdeaaDoor.fnNetBack
