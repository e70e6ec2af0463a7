/-
  For every text the law FnExactNetRead returns true: the program's NetRead answers as the specification's, in memory of its own; its condition, that the library's tables and errors read as their initialisers lay them, is tied to the program's text by the card.
-/
import Derived.Test.YtjaifbbkfgfdeaaDoorRows
import Derived.WalkKit
import Derived.ProofKit
import Derived.OpenShut
import Derived.Below
import Derived.ShutString
import Derived.Test.YtjaifbbkfgfdeaaDoorReadIm
import Derived.Test.YtjaifbbkfgfdeaaDoorShape
import Derived.Test.YtjaifbbkfgfdeaaDoorTie
import Derived.Test.YtjaifbbkfgfdeaaDoorCards
import Derived.LaidMore
import Derived.Lay
import Derived.Stop.Joined
import Derived.SevenTiedAt
import Derived.MakeChecks
namespace Go.Proofs.YtjaifbbkfgfdeaaDoor.fnExactNetRead
open Go.ChangeShapes Go.WideShapes Go.ChangeAt Go.RowKit
open Go.ChangeMaps (open_string shut_string)
set_option linter.unusedVariables false      -- a walk need not use every 'w<i>' (that an integer argument fits its kind)

theorem own : ownKnob Tryd.prog.godebug = none := by kernel_rfl

/-- Two cells of one block. -/
def CellPair (w : World) (b : Nat) (u v : Value) : Prop := w.cell? ⟨b, 0, none⟩ = some u ∧ w.cell? ⟨b, 1, none⟩ = some v
theorem CellPair.of_block {w w' : World} {b : Nat} {u v : Value} (h : CellPair w b u v) (e : ∀ g, g < w.heap.size → g = b → w'.heap[g]? = w.heap[g]?) : CellPair w' b u v := by
  have hb : b < w.heap.size := by simpa using World.block_lt_of_cell? w _ h.1
  exact ⟨(World.cell?_of_block (w := w) (a := ⟨b, 0, none⟩) (e b hb rfl)).trans h.1, (World.cell?_of_block (w := w) (a := ⟨b, 1, none⟩) (e b hb rfl)).trans h.2⟩
theorem CellPair.below {w w' : World} {b : Nat} {u v : Value} (h : CellPair w b u v) (hb : Below w.heap.size w w') : CellPair w' b u v := h.of_block fun g hg _ => hb.block g hg
/-- An answer in a box of the law's. -/
def NetAt (w : World) (z base : Nat) (A B : Option Addr) (ca cb : Nat) (ps : List (Int × Int)) (rs : List A3) : Prop :=
  CellPair w z (.slice A ps.length ca) (.slice B rs.length cb) ∧ OwnSl w base 44 A (ps.length * 2) (flatP ps) ∧ OwnSl w base 51 B (rs.length * 3) (flatA rs)
section
variable {w w' : World} {z base : Nat} {A B : Option Addr} {ca cb : Nat} {ps : List (Int × Int)} {rs : List A3}
theorem NetAt.below (h : NetAt w z base A B ca cb ps rs) (hb : Below w.heap.size w w') : NetAt w' z base A B ca cb ps rs := ⟨h.1.below hb, h.2.1.below hb, h.2.2.below hb⟩
theorem NetAt.drew (h : NetAt w z base A B ca cb ps rs) : NetAt w.drew z base A B ca cb ps rs := ⟨h.1.of_block (fun _ _ _ => rfl), h.2.1.of_block (fun _ _ _ => rfl), h.2.2.of_block (fun _ _ _ => rfl)⟩
theorem NetAt.of_block (h : NetAt w z base A B ca cb ps rs) (e : ∀ g, (g = z ∨ blk A (ps.length * 2) = some g ∨ blk B (rs.length * 3) = some g) → g < w.heap.size → w'.heap[g]? = w.heap[g]?) : NetAt w' z base A B ca cb ps rs :=
  ⟨h.1.of_block (fun g hg hz => e g (.inl hz) hg), h.2.1.of_block (fun g hg hl => e g (.inr (.inl hg)) hl), h.2.2.of_block (fun g hg hl => e g (.inr (.inr hg)) hl)⟩
theorem NetAt.cells (h : NetAt w z base A B ca cb ps rs) : w.cell? ⟨z, 0, none⟩ = some (.slice A ps.length ca) ∧ w.cell? ⟨z, 1, none⟩ = some (.slice B rs.length cb) := h.1
theorem NetAt.lt (h : NetAt w z base A B ca cb ps rs) : z < w.heap.size := by simpa using World.block_lt_of_cell? w _ h.1.1
end
theorem tx_back (s : ByteArray) : tx s.data.toList = s := by
  apply ByteArray.ext; simp [tx]
theorem rd_len (s : List UInt8) (h : s.length ≤ 1048576) : (rdNet s).1.length ≤ 1048576 ∧ (rdNet s).2.1.length ≤ 1048576 := by
  unfold rdNet
  split
  · simp
  · split
    · simp
    · split
      · rename_i hok
        have := netB_iff.1 hok
        exact ⟨Nat.le_trans this.1 (by decide), Nat.le_trans this.2.1 (by decide)⟩
      · simp

/-! ### STEP 1: THE WALK: the Go text returns true. 'Grown w w'': the world has at most new blocks (Derived/RowKit3.lean). Part the cases AHEAD of 'go_enter' where a test parts the walk; take each callee by a contract of your own. -/
set_option maxHeartbeats 4000000 in
set_option maxRecDepth 100000 in
theorem walk (a0 : ByteArray) (w0 : a0.size ≤ maxLen) (w : World) (hL : laidMetH Tryd.prog Rows.fnExactNetReadRow.laid w) (hSH : w.ShapedOpen Tryd.prog) :
    Calls Tryd.prog 4 #[.string a0] w fun e w' => e = .returned (.bool true) ∧ Below w.heap.size w w' := by
  rw [MakeChecks.laidMetH_plain _ _ _ (by kernel_rfl)] at hL
  have hv := Lib.hid (libVars_of7 hL)
  have hm := Lib.hid (maxV_of hSH)
  clear hL hSH
  by_cases hbig : 1048576 < a0.size
  · go_enter Tryd.func4, Tryd.ntmps4
    go_wp2
    go_ret
    exact ⟨rfl, Below.refl _ _⟩
  · have hs : a0.size ≤ 1048576 := by omega
    have hsl : a0.data.toList.length = a0.size := by rw [Array.length_toList]; rfl
    have HIM : Hid (∀ w, MaxV w → LibVars w → Calls Tryd.prog 10 #[.string a0] w (RdMade w (rdNet a0.data.toList))) := Lib.hid (fun w h1 h2 => by have := implNetRead_any a0.data.toList w (by omega) h1 h2; rwa [tx_back] at this)
    have HSP := Lib.hid (fun w => specNetRead_any a0 w hs)
    obtain ⟨hl1', hl2'⟩ := rd_len a0.data.toList (by omega)
    generalize rdNet a0.data.toList = rr at HIM HSP hl1' hl2'
    obtain ⟨qs, ts, cc⟩ := rr
    simp only at hl1' hl2'
    clear hsl
    go_enter Tryd.func4, Tryd.ntmps4
    go_wp2_with fail
    refine (HSP.out _).mono ?_; rintro e w1 ⟨A1, C1, ca1, cb1, rfl, OP1, OR1, -, b1⟩
    have N1 : NetAt (w1.alloc (.cells #[.slice A1 qs.length ca1, .slice C1 ts.length cb1] 27)) w1.heap.size w.heap.size A1 C1 ca1 cb1 qs ts :=
      ⟨⟨(Pair.new w1 27 _ _).cells.1, (Pair.new w1 27 _ _).cells.2.1⟩, OP1.below (below1 _ _), OR1.below (below1 _ _)⟩
    have HN1 : Hid (∀ g, (g = w1.heap.size ∨ blk A1 (qs.length * 2) = some g ∨ blk C1 (ts.length * 3) = some g) → g ≤ w1.heap.size) := Lib.hid (fun g h => by
      rcases h with h | h | h
      · omega
      · have := (blk_own OP1 h).2; omega
      · have := (blk_own OR1 h).2; omega)
    have k1 := below1 w1 (.cells #[.slice A1 qs.length ca1, .slice C1 ts.length cb1] 27)
    have K := b1.trans (k1.mono b1.size)
    obtain ⟨W1, hW1⟩ : ∃ W1, W1 = w1.alloc (.cells #[.slice A1 qs.length ca1, .slice C1 ts.length cb1] 27) := ⟨_, rfl⟩
    have hs1 : w1.heap.size < W1.heap.size := by rw [hW1]; simp
    rw [← hW1] at N1 K
    have hww : w.heap.size ≤ W1.heap.size := K.size
    have HW1 := Lib.hid hW1
    clear OP1 OR1 k1 b1 hW1 HSP
    go_wp2_with fail
    rw [← HW1.out]
    clear HW1
    generalize w1.heap.size = z1 at N1 HN1 hs1 ⊢
    refine (HIM.out _ (hm.out.below K) (hv.out.below K)).mono ?_; rintro e w2 ⟨A2, C2, ca2, cb2, rfl, OP2, OR2, PT2, b2⟩
    have hw2 := b2.size
    have N2 : NetAt (w2.alloc (.cells #[.slice A2 qs.length ca2, .slice C2 ts.length cb2] 27)) w2.heap.size W1.heap.size A2 C2 ca2 cb2 qs ts :=
      ⟨⟨(Pair.new w2 27 _ _).cells.1, (Pair.new w2 27 _ _).cells.2.1⟩, OP2.below (below1 _ _), OR2.below (below1 _ _)⟩
    have HN2 : Hid (∀ g, (blk A2 (qs.length * 2) = some g ∨ blk C2 (ts.length * 3) = some g) → W1.heap.size ≤ g ∧ g < w2.heap.size) := Lib.hid (fun g h => by
      rcases h with h | h
      · exact blk_own OP2 h
      · exact blk_own OR2 h)
    have HPT2 := Lib.hid PT2
    have b3 := b2.trans ((below1 w2 (.cells #[.slice A2 qs.length ca2, .slice C2 ts.length cb2] 27)).mono b2.size)
    replace N1 := N1.below b3
    replace K := K.trans (b3.mono K.size)
    obtain ⟨W2, hW2⟩ : ∃ W2, W2 = w2.alloc (.cells #[.slice A2 qs.length ca2, .slice C2 ts.length cb2] 27) := ⟨_, rfl⟩
    have hs2 : w2.heap.size < W2.heap.size := by rw [hW2]; simp
    obtain ⟨m0, m1⟩ := N1.cells
    obtain ⟨n0, n1⟩ := N2.cells
    clear OP2 OR2 PT2 b2 b3
    go_wp2_with fail
    clear m0 m1 n0 n1
    rw [← hW2] at N1 N2 K ⊢
    clear hW2
    generalize w2.heap.size = z2 at N2 HN2 hs2 hw2 ⊢
    refine (eqNet_same A2 C2 A1 C1 ca2 cb2 ca1 cb1 qs ts _ hl1' hl2' (ptsT N2.2.1) (arcsT N2.2.2) (ptsT N1.2.1) (arcsT N1.2.2)).mono ?_; rintro e w3 ⟨rfl, b3⟩
    replace N1 := N1.below b3
    replace N2 := N2.below b3
    replace K := K.trans (b3.mono K.size)
    clear b3
    obtain ⟨n0, n1⟩ := N2.cells
    have hcc : (cc != cc) = false := by simp
    go_wp2_with fail
    clear n0 n1
    refine (markNet_any _ W1.heap.size _ _ qs.length ts.length _ _ _ _ 1 hl1' hl2' (by omega) N2.2.1 N2.2.2 HPT2.out).mono ?_; rintro e w12 ⟨rfl, M1, M2, G⟩
    have hb12 := G.below (base := w.heap.size) K.size (fun g e => by have := HN2.out g (.inl e); have := K.size; omega) (fun g e => by have := HN2.out g (.inr e); have := K.size; omega)
    replace K := K.trans hb12
    replace N1 := N1.of_block (w' := w12) (fun g h hl => G.2.2.2.2 g hl (fun e' => by have := HN2.out g (.inl e'.symm); have := HN1.out g h; omega) (fun e' => by have := HN2.out g (.inr e'.symm); have := HN1.out g h; omega))
    have C2p := N2.1.of_block (w' := w12) (fun g hl hx => G.2.2.2.2 g hl (fun e' => by have := HN2.out g (.inl e'.symm); omega) (fun e' => by have := HN2.out g (.inr e'.symm); omega))
    clear N2 G hb12
    have hq2 : ¬ ((1 : Int) + (qs.length * 2 : Nat) + (ts.length * 3 : Nat) < 0) := by omega
    obtain ⟨n0, n1⟩ := C2p
    have C2p : CellPair w12 z2 (.slice A2 qs.length ca2) (.slice C2 ts.length cb2) := ⟨n0, n1⟩
    go_wp2_with fail
    clear n0 n1
    refine (heldNet_any _ W1.heap.size _ _ qs.length ts.length _ _ 1 hl1' hl2' (by omega) M1 M2).mono ?_; rintro e w13 ⟨rfl, b13⟩
    replace N1 := N1.below b13
    replace M1 := M1.below b13
    replace M2 := M2.below b13
    replace C2p := C2p.below b13
    replace K := K.trans (b13.mono K.size)
    clear b13
    go_wp2_with fail
    refine (HIM.out _ (hm.out.below K) (hv.out.below K)).mono ?_; rintro e w15 ⟨A3, C3, ca3, cb3, rfl, OP3, OR3, -, b15⟩
    have N3 : NetAt (w15.alloc (.cells #[.slice A3 qs.length ca3, .slice C3 ts.length cb3] 27)) w15.heap.size w13.heap.size A3 C3 ca3 cb3 qs ts :=
      ⟨⟨(Pair.new w15 27 _ _).cells.1, (Pair.new w15 27 _ _).cells.2.1⟩, OP3.below (below1 _ _), OR3.below (below1 _ _)⟩
    have b16 := b15.trans ((below1 w15 (.cells #[.slice A3 qs.length ca3, .slice C3 ts.length cb3] 27)).mono b15.size)
    replace N1 := N1.below b16
    replace M1 := M1.below b16
    replace M2 := M2.below b16
    replace C2p := C2p.below b16
    replace K := K.trans (b16.mono K.size)
    clear b15 b16 OP3 OR3
    obtain ⟨m0, m1⟩ := N1.cells
    obtain ⟨n0, n1⟩ := N3.cells
    go_wp2_with fail
    clear m0 m1 n0 n1
    refine (eqNet_same A3 C3 A1 C1 ca3 cb3 ca1 cb1 qs ts _ hl1' hl2' (ptsT N3.2.1) (arcsT N3.2.2) (ptsT N1.2.1) (arcsT N1.2.2)).mono ?_; rintro e w17 ⟨rfl, b17⟩
    replace M1 := M1.below b17
    replace M2 := M2.below b17
    replace C2p := C2p.below b17
    replace K := K.trans (b17.mono K.size)
    clear b17 N1 N3
    obtain ⟨n0, n1⟩ := C2p
    go_wp2_with fail
    clear n0 n1
    refine (heldNet_any _ W1.heap.size _ _ qs.length ts.length _ _ 1 hl1' hl2' (by omega) M1 M2).mono ?_; rintro e w18 ⟨rfl, b18⟩
    replace K := K.trans (b18.mono K.size)
    clear b18 M1 M2
    go_wp2
    go_ret
    exact ⟨rfl, K⟩

/-! ### THE ROW's STEP: WRITTEN OUT: LEAVE IT -/
theorem door_met (os : Os) (args : Array Value) : laidMetH Tryd.prog Rows.fnExactNetReadRow.laid ((World.laidAll Tryd.prog os Rows.fnExactNetReadRow.laid).forCall (fun _ _ => 0) ⟨#[], args, []⟩).memory := by
  rw [MakeChecks.laidMetH_plain _ _ _ (by kernel_rfl)]; exact laidMet_laidAll _ (by kernel_rfl) (by kernel_rfl)

set_option maxRecDepth 100000 in
theorem lifted (os : Os) (started : os.Started) (H : Type) (enc : TypeId × Value → H) :
    ReturnsInHanded {} Tryd.checked os 4 .any (fun w args => (Rows.fnExactNetReadSpec.pre enc Tryd.prog Tryd.f4 [] false w args ∧ laidMetH Tryd.prog Rows.fnExactNetReadRow.laid w) ∧ sizedMet enc Tryd.prog Tryd.f4 (OpenSpec.ofChange Rows.fnExactNetReadSpec) false w args) (Rows.fnExactNetReadSpec.post enc Tryd.prog Tryd.f4 false true false false) := by
  refine handed_shaped (C := Tryd.checked) (X := fun w _ => laidMetH Tryd.prog Rows.fnExactNetReadRow.laid w) (fun _ _ _ hh h => h.of_heap hh) own started (by kernel_rfl) Tryd.func4
    (ChangeSpec.witness_shaped (enc := enc) (C := Tryd.checked) (os := os) (X := fun w _ => laidMetH Tryd.prog Rows.fnExactNetReadRow.laid w) false (World.laidAll Tryd.prog os Rows.fnExactNetReadRow.laid) #[.string ByteArray.empty] 8 (World.laidAll_os _ _ _)
      (World.shaped_of_ZipB (by kernel_rfl) (by kernel_rfl)) (by kernel_rfl) (by kernel_rfl) (by kernel_rfl) (door_met os _)) ?_
  intro W base args ds gs before hval0 hW hL hSH
  have hval : ∀ (j : Nat) t v, Tryd.f4.params[j]? = some t → args[j]? = some v → Value.okWide Tryd.prog W .any base t v := hval0
  have hW' := hW
  obtain ⟨p, q, hA0, hV, rfl, hfz, hnd⟩ := hW
  have hA : DataW.TrodAll enc Tryd.prog W 0 (fun _ => true) true Tryd.f4.params.toList args.toList ds p := hA0
  rw [Tryd.params4] at hA hval
  obtain ⟨v0, vs0, d0, ds0, p0, q0, hargs, rfl, rfl, h0, r0⟩ := trodAll_cons hA
  obtain ⟨rfl, rfl, rfl⟩ := trodAll_nil r0
  obtain rfl : args = #[v0] := by cases args; simp_all
  obtain ⟨rfl, rfl⟩ := trodVars_none hV
  obtain ⟨a0, rfl, rfl, rfl, w0⟩ := open_string Tryd.underlying9 (hval 0 9 v0 rfl rfl) h0
  clear hA0 hval0
  simp only [List.append_nil] at hW'
  refine (walk a0 w0 W hL hSH).mono fun e W' ⟨he, hg⟩ => ?_
  subst he
  exact ⟨_, rfl, _, _, _, [], [], [], hW', (trodAll_cons_mk (shut_bool Tryd.underlying4 _) trodAll_mk0), (trodAll_cons_mk (shut_string Tryd.underlying9 w0) trodAll_mk0), rfl, hg.frame _, fun h => by cases h⟩

theorem over : Rows.fnExactNetReadRow.holds Tryd.pinned (OpenSpec.ofChange Rows.fnExactNetReadSpec) :=
  OpenClaim.holds_of_wide 4 Tryd.f4 rfl rfl rfl rfl rfl rfl rfl ⟨rfl, rfl, rfl, rfl, rfl⟩ rfl rfl rfl rfl rfl (by kernel_rfl) Tryd.func4 (by kernel_rfl)
    (of_decide_eq_true (by kernel_rfl)) (by unfold Func.isWrapper; first | (rw [if_pos (by decide +kernel)]; kernel_rfl) | (rw [if_neg (by decide +kernel)]; exact ⟨rfl, rfl⟩))
    (fun os started H enc _ => lifted os started H enc)

theorem row_proved : Rows.FnExactNetReadSaid :=
  over

/-- The statement. -/
theorem proved : Rows.FnExactNetReadCardSaid :=
  Claim7.holds_tied_plain_at .later [] [.data, .data, .data, .data, .sentinel, .sentinel, .pinned] true (true, "c7f7fac7320ea72dce17f2743e099ec67f91ff4d65b9559554abae8536680030") true
    row_proved (fun _ h => by cases h) (by kernel_rfl) (fun _ h => by cases h) fnExactNetRead_row_tie rfl ⟨rfl, rfl⟩ (by kernel_rfl) rfl
    (fun f fn hf hfn => by
      obtain rfl : f = 4 := Option.some.inj ((show Tryd.prog.funcNamed "loop.example/g00640/laws.FnExactNetRead" = some 4 by kernel_rfl).symm.trans hf) |>.symm
      obtain rfl : fn = Tryd.f4 := (Option.some.inj (Tryd.func4.symm.trans hfn)).symm
      exact ⟨by kernel_rfl, fun j t ht => by
        rw [Tryd.params4] at ht
        have hm : t ∈ [9] := by simpa using Array.mem_of_getElem? ht
        have hall : ([9].all fun u => !Tryd.prog.wantsStandIn u) = true := by kernel_rfl
        exact (show Tryd.prog.wantsStandIn t = false by simpa using List.all_eq_true.1 hall t hm)⟩)
    (by kernel_rfl)
#print axioms proved
end Go.Proofs.YtjaifbbkfgfdeaaDoor.fnExactNetRead
