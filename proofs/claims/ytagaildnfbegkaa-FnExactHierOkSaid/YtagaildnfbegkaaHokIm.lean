/-
  What impl.HierOk answers.
-/
import Derived.Test.YtagaildnfbegkaaHokE
import Derived.Test.YtagaildnfbegkaaSortedInts
namespace Go.Proofs.Ytagaildnfbegkaa
open Go.RowKit Go.Deep Go.Maps

open Classical in
/-- Whether a hierarchy is one of a network. -/
noncomputable def hierB (ps : List (Int × Int)) (rs : List A3) (zs : List Int) (hs : List A4) : Bool := decide (hierP ps rs zs hs)
section
variable {ps : List (Int × Int)} {rs : List A3} {zs : List Int} {hs : List A4}
open Classical in
theorem hierB_no (h : ¬ hierP ps rs zs hs) : hierB ps rs zs hs = false := by unfold hierB; exact decide_eq_false h
open Classical in
theorem hierB_yes (h : hierP ps rs zs hs) : hierB ps rs zs hs = true := by unfold hierB; exact decide_eq_true h
theorem hierP_hok (h : hierP ps rs zs hs) : hok zs.length hs := fun i hi => by
  obtain ⟨h1, h2, -, h4, -⟩ := h.2.2.2.2 i hi
  have a := btB_iff.1 h1
  have b := btB_iff.1 h2
  have c := btB_iff.1 h4
  exact ⟨⟨a.1, by omega⟩, ⟨b.1, by omega⟩, c.1, c.2⟩
theorem hierP_asc (h : hierP ps rs zs hs) : hasc hs hs.length := fun i hi => (h.2.2.2.2 i hi).2.2.2.2.1
theorem retBo {a b : Bool} (h : a = b) : Ending.returned (.bool a) = .returned (.bool b) := by rw [h]
/-- What the first k arcs have been found to be. -/
def hokJ (rs : List A3) (zs : List Int) (hs : List A4) (k : Nat) : Prop := ∀ i, i < k → (hcg hs i).1 ≠ (hcg hs i).2.1 ∧ (i = 0 ∨ hltB (hcg hs (i - 1)) (hcg hs i) = true) ∧ (hasc hs hs.length → explP rs zs hs (hcg hs i))
theorem hokJ_all (h1 : netB ps rs = true) (h2 : (ps.length : Int) = zs.length ∧ okZ zs) (h3 : hs.length ≤ 400) (h4 : hok zs.length hs) (h : hokJ rs zs hs hs.length) : hierP ps rs zs hs := by
  have ha : hasc hs hs.length := fun i hi => (h i hi).2.1
  refine ⟨h1, by omega, h2.2, h3, fun i hi => ?_⟩
  obtain ⟨⟨a0, a1⟩, ⟨b0, b1⟩, c0, c1⟩ := h4 i hi
  exact ⟨btB_true a0 (by omega), btB_true b0 (by omega), (h i hi).1, btB_true c0 c1, (h i hi).2.1, (h i hi).2.2 ha⟩
theorem hokJ_next {k : Nat} (h : hokJ rs zs hs k) (h1 : (hcg hs k).1 ≠ (hcg hs k).2.1) (h2 : k = 0 ∨ hltB (hcg hs (k - 1)) (hcg hs k) = true) (bo : Bool) (h3 : hasc hs hs.length → (bo = true ↔ explP rs zs hs (hcg hs k))) (h4 : bo = true) : hokJ rs zs hs (k + 1) := fun i hi => by
  by_cases e : i = k
  · subst e; exact ⟨h1, h2, fun a => (h3 a).1 h4⟩
  · exact h i (by omega)
end
/-- The boxes of the network, of the hierarchy, of the ladder and of the arc, and nothing older has turned. -/
abbrev HkS (V : World) (nb hb lb ab : Nat) (n1 n2 h1 h2 l1 l2 : Value) (f t l v : Int) (w : World) : Prop :=
  w.cell? ⟨nb, 0, none⟩ = some n1 ∧ w.cell? ⟨nb, 1, none⟩ = some n2 ∧ w.cell? ⟨hb, 0, none⟩ = some h1 ∧ w.cell? ⟨hb, 1, none⟩ = some h2 ∧ w.cell? ⟨lb, 0, none⟩ = some l1 ∧ w.cell? ⟨lb, 1, none⟩ = some l2 ∧
    w.cell? ⟨ab, 0, none⟩ = some (.int .i64 f) ∧ w.cell? ⟨ab, 1, none⟩ = some (.int .i64 t) ∧ w.cell? ⟨ab, 2, none⟩ = some (.int .i64 l) ∧ w.cell? ⟨ab, 3, none⟩ = some (.int .i64 v) ∧ Below V.heap.size V w
/-- .. and the arc ahead of it. -/
abbrev HkP (V : World) (nb hb lb ab : Nat) (n1 n2 h1 h2 l1 l2 : Value) (f t l v : Int) (b o : Nat) (pf pt pl pv : Int) (w : World) : Prop :=
  w.cell? ⟨b, o, none⟩ = some (.int .i64 pf) ∧ w.cell? ⟨b, o + 1, none⟩ = some (.int .i64 pt) ∧ w.cell? ⟨b, o + 2, none⟩ = some (.int .i64 pl) ∧ w.cell? ⟨b, o + 3, none⟩ = some (.int .i64 pv) ∧ HkS V nb hb lb ab n1 n2 h1 h2 l1 l2 f t l v w
section
variable {V w w' : World} {nb hb lb ab b o : Nat} {n1 n2 h1 h2 l1 l2 : Value} {f t l v pf pt pl pv : Int}
theorem HkS.under (q : Below w.heap.size w w') (h : HkS V nb hb lb ab n1 n2 h1 h2 l1 l2 f t l v w) : HkS V nb hb lb ab n1 n2 h1 h2 l1 l2 f t l v w' :=
  ⟨cell_under q h.1, cell_under q h.2.1, cell_under q h.2.2.1, cell_under q h.2.2.2.1, cell_under q h.2.2.2.2.1, cell_under q h.2.2.2.2.2.1, cell_under q h.2.2.2.2.2.2.1, cell_under q h.2.2.2.2.2.2.2.1, cell_under q h.2.2.2.2.2.2.2.2.1, cell_under q h.2.2.2.2.2.2.2.2.2.1, h.2.2.2.2.2.2.2.2.2.2.trans (q.mono h.2.2.2.2.2.2.2.2.2.2.size)⟩
theorem HkS.bel (h : HkS V nb hb lb ab n1 n2 h1 h2 l1 l2 f t l v w) : Below V.heap.size V w := h.2.2.2.2.2.2.2.2.2.2
theorem HkP.under (q : Below w.heap.size w w') (h : HkP V nb hb lb ab n1 n2 h1 h2 l1 l2 f t l v b o pf pt pl pv w) : HkP V nb hb lb ab n1 n2 h1 h2 l1 l2 f t l v b o pf pt pl pv w' :=
  ⟨cell_under q h.1, cell_under q h.2.1, cell_under q h.2.2.1, cell_under q h.2.2.2.1, HkS.under q h.2.2.2.2⟩
theorem HkP.bel (h : HkP V nb hb lb ab n1 n2 h1 h2 l1 l2 f t l v b o pf pt pl pv w) : Below V.heap.size V w := HkS.bel h.2.2.2.2
end

open Classical in
set_option maxRecDepth 1000000 in
set_option maxHeartbeats 16000000 in
theorem implHierOk_any (N Ar R B : Option Addr) (cn ca cr cb : Nat) (ps : List (Int × Int)) (rs : List A3) (zs : List Int) (hs : List A4) (w : World) (hn : ps.length ≤ 1048576) (hm : rs.length ≤ 1048576) (hz : zs.length ≤ 1048576) (hh : hs.length ≤ 1048576)
    (hP : IsPts w N ps) (hA : IsArcs w Ar rs) (hR : IsInts w R zs) (hH : IsHs w B hs) :
    Calls Try.prog 18 #[.agg #[.slice N ps.length cn, .slice Ar rs.length ca], .agg #[.slice R zs.length cr, .slice B hs.length cb]] w fun e w' => e = .returned (.bool (hierB ps rs zs hs)) ∧ Below w.heap.size w w' := by
  have X := (Pair.new w 49 (.slice N ps.length cn) (.slice Ar rs.length ca)).alloc (.cells #[.slice R zs.length cr, .slice B hs.length cb] 27)
  have Y : Pair ((w.alloc (.cells #[.slice N ps.length cn, .slice Ar rs.length ca] 49)).alloc (.cells #[.slice R zs.length cr, .slice B hs.length cb] 27)) (w.heap.size + 1) 27 (.slice R zs.length cr) (.slice B hs.length cb) := by
    have := Pair.new (w.alloc (.cells #[.slice N ps.length cn, .slice Ar rs.length ca] 49)) 27 (.slice R zs.length cr) (.slice B hs.length cb); rwa [World.size_alloc] at this
  have K := below2 w (.cells #[.slice N ps.length cn, .slice Ar rs.length ca] 49) (.cells #[.slice R zs.length cr, .slice B hs.length cb] 27)
  have HI1 : Hid (netB ps rs = false → hierB ps rs zs hs = false) := Lib.hid (fun h => hierB_no (fun p => by rw [p.1] at h; cases h))
  have HI2 : Hid (decide ((ps.length : Int) = zs.length ∧ okZ zs) = false → hierB ps rs zs hs = false) := Lib.hid (fun h => hierB_no (fun p => of_decide_eq_false h ⟨by have := p.2.1; omega, p.2.2.1⟩))
  have HI3 : Hid (¬ hs.length ≤ 400 → hierB ps rs zs hs = false) := Lib.hid (fun h => hierB_no (fun p => h p.2.2.2.1))
  have HI4 : Hid (¬ hok zs.length hs → hierB ps rs zs hs = false) := Lib.hid (fun h => hierB_no (fun p => h (hierP_hok p)))
  have HI5 : Hid (∀ i, i < hs.length → ¬ harcP rs zs hs i → hierB ps rs zs hs = false) := Lib.hid (fun i hi h => hierB_no (fun p => h (p.2.2.2.2 i hi)))
  have HI6 : Hid (∀ i, i < hs.length → (hasc hs hs.length → ¬ explP rs zs hs (hcg hs i)) → hierB ps rs zs hs = false) := Lib.hid (fun i hi h => hierB_no (fun p => h (hierP_asc p) (p.2.2.2.2 i hi).2.2.2.2.2))
  have HYES : Hid (netB ps rs = true → ((ps.length : Int) = zs.length ∧ okZ zs) → hs.length ≤ 400 → hok zs.length hs → hokJ rs zs hs hs.length → hierB ps rs zs hs = true) := Lib.hid (fun h1 h2 h3 h4 h => hierB_yes (hokJ_all h1 h2 h3 h4 h))
  generalize hierB ps rs zs hs = q at *
  obtain ⟨x0, x1, -, -⟩ := X.cells
  obtain ⟨y0, y1, -, -⟩ := Y.cells
  cases hnb : netB ps rs with
  | false =>
    have HNB := Lib.hid hnb
    have HE := Lib.hid (HI1.out hnb)
    clear HI1 HI2 HI3 HI4 HI5 HI6 HYES hnb
    go_enter Try.func18, Try.ntmps18
    go_wp2_with fail
    refine (implNetOk_any N Ar cn ca ps rs _ hn hm (hP.below K) (hA.below K)).mono ?_; rw [HNB.out]; rintro e w1 ⟨rfl, b1⟩
    go_wp2
    go_ret
    exact ⟨retBo HE.out.symm, K.trans (b1.mono K.size)⟩
  | true =>
  have HNB := Lib.hid hnb
  have h20 := (netB_iff.1 hnb).1
  cases hob : decide ((ps.length : Int) = zs.length ∧ okZ zs) with
  | false =>
    have HOB := Lib.hid hob
    have HE := Lib.hid (HI2.out hob)
    clear HI1 HI2 HI3 HI4 HI5 HI6 HYES hnb hob
    go_enter Try.func18, Try.ntmps18
    go_wp2_with fail
    refine (implNetOk_any N Ar cn ca ps rs _ hn hm (hP.below K) (hA.below K)).mono ?_; rw [HNB.out]; rintro e w1 ⟨rfl, b1⟩
    replace X := X.below b1
    replace Y := Y.below b1
    replace K := K.trans (b1.mono K.size)
    clear x0 x1 y0 y1 b1
    obtain ⟨x0, x1, -, -⟩ := X.cells
    obtain ⟨y0, y1, -, -⟩ := Y.cells
    go_wp2_with fail
    refine (isOrder_any R cr zs (ps.length : Int) _ hz (hR.below K)).mono ?_; rw [HOB.out]; rintro e w2 ⟨rfl, b2⟩
    go_wp2
    go_ret
    exact ⟨retBo HE.out.symm, K.trans (b2.mono K.size)⟩
  | true =>
  have HOB := Lib.hid hob
  have HOO := Lib.hid (of_decide_eq_true hob)
  have hpz : ps.length = zs.length := by have := (of_decide_eq_true hob).1; omega
  have HPZ := Lib.hid hpz
  have hz20 : zs.length ≤ 20 := by omega
  clear HI1 HI2 hnb hob hpz
  go_enter Try.func18, Try.ntmps18
  go_wp2_with fail
  refine (implNetOk_any N Ar cn ca ps rs _ hn hm (hP.below K) (hA.below K)).mono ?_; rw [HNB.out]; rintro e w1 ⟨rfl, b1⟩
  replace X := X.below b1
  replace Y := Y.below b1
  replace K := K.trans (b1.mono K.size)
  clear x0 x1 y0 y1 b1
  obtain ⟨x0, x1, -, -⟩ := X.cells
  obtain ⟨y0, y1, -, -⟩ := Y.cells
  go_wp2_with fail
  refine (isOrder_any R cr zs (ps.length : Int) _ hz (hR.below K)).mono ?_; rw [HOB.out]; rintro e w2 ⟨rfl, b2⟩
  replace X := X.below b2
  replace Y := Y.below b2
  replace K := K.trans (b2.mono K.size)
  clear x0 x1 y0 y1 b2
  obtain ⟨x0, x1, -, -⟩ := X.cells
  obtain ⟨y0, y1, -, -⟩ := Y.cells
  by_cases h4 : 400 < hs.length
  · have hd : decide ((400 : Int) < hs.length) = true := decide_eq_true (by omega)
    have hd' : (400 : Int) < hs.length := by omega
    have HE := Lib.hid (HI3.out (by omega))
    clear HI3 HI4 HI5 HI6 HYES
    go_wp2
    go_ret
    exact ⟨retBo HE.out.symm, K⟩
  have hd4 : ¬ (400 : Int) < hs.length := by omega
  go_wp2_with fail
  refine (arcsOkH_any R B zs.length cr cb hs _ hz hh (hH.below K)).mono ?_; rintro e w3 ⟨bo, rfl, hy, hno, b3⟩
  replace X := X.below b3
  replace Y := Y.below b3
  replace K := K.trans (b3.mono K.size)
  clear x0 x1 y0 y1 b3
  obtain ⟨x0, x1, -, -⟩ := X.cells
  obtain ⟨y0, y1, -, -⟩ := Y.cells
  cases bo with
  | false =>
    have HE := Lib.hid (HI4.out (hno rfl))
    clear HI3 HI4 HI5 HI6 HYES hy hno
    go_wp2
    go_ret
    exact ⟨retBo HE.out.symm, K⟩
  | true =>
  have HOK := Lib.hid (hy rfl)
  clear HI3 HI4 hy hno
  go_wp2_with fail
  refine (ladderOf_any R B cr cb zs hs _ hz20 hh HOK.out (hH.below K)).mono ?_; rintro e w5 ⟨ob, b, off, rfl, hob, hB, LR, b5⟩
  replace X := X.below b5
  replace Y := Y.below b5
  replace K := K.trans (b5.mono K.size)
  have L := Pair.new w5 91 (.slice R zs.length cr) (.slice (some ⟨ob, 0, none⟩) zs.length zs.length)
  have kb := below1 w5 (.cells #[.slice R zs.length cr, .slice (some ⟨ob, 0, none⟩) zs.length zs.length] 91)
  replace X := X.below kb
  replace Y := Y.below kb
  replace LR := LR.below kb
  replace K := K.trans (kb.mono K.size)
  clear x0 x1 y0 y1 b5 kb hob
  obtain ⟨x0, x1, -, -⟩ := X.cells
  obtain ⟨y0, y1, -, -⟩ := Y.cells
  obtain ⟨l0, l1, -, -⟩ := L.cells
  clear x0 x1 l0 l1
  go_wp2
  clear y0 y1
  obtain ⟨x0, x1, -, -⟩ := X.cells
  obtain ⟨y0, y1, -, -⟩ := Y.cells
  obtain ⟨l0, l1, -, -⟩ := L.cells
  obtain ⟨V, hV⟩ : ∃ V, V = w5.alloc (.cells #[.slice R zs.length cr, .slice (some ⟨ob, 0, none⟩) zs.length zs.length] 91) := ⟨_, rfl⟩
  rw [← hV] at X Y L LR K x0 x1 y0 y1 l0 l1 ⊢
  have KV := K
  have HBB := Lib.hid hB
  have HEXR0 : Hid (∀ i, i < hs.length → ∀ w1, Below V.heap.size V w1 → Calls Try.prog 57 #[.agg #[.slice R zs.length cr, .slice (some ⟨ob, 0, none⟩) zs.length zs.length], .agg #[.int .i64 (hcg hs i).1, .int .i64 (hcg hs i).2.1, .int .i64 (hcg hs i).2.2.1, .int .i64 (hcg hs i).2.2.2], .agg #[.slice N ps.length cn, .slice Ar rs.length ca]] w1
      fun e w' => ∃ bo : Bool, e = .returned (.bool bo) ∧ (hasc hs hs.length → (bo = true ↔ explP rs zs hs (hcg hs i))) ∧ Below w1.heap.size w1 w') := Lib.hid (fun i hi w1 k =>
    explains_any R B N Ar cr cn ca ob b off ps.length rs zs hs i w1 hz20 HPZ.out hm hh hi HOK.out ((hR.below KV).below k) ((hH.below KV).below k) HBB.out (LR.below k) ((hA.below KV).below k))
  have HJ0 : Hid (hokJ rs zs hs 0) := Lib.hid (fun i hi => by omega)
  clear hV hB K X Y L LR
  go_loopw [39] (fun vi wr => ∃ k : Nat, k ≤ hs.length ∧ vi = .int .i64 k ∧ Hid (hokJ rs zs hs k) ∧ Below V.heap.size V wr) (fun i _ => hs.length - (intOf i).toNat)
  case atStart => exact ⟨0, by omega, rfl, HJ0, Below.refl _ _⟩
  case round =>
    clear HJ0
    obtain ⟨k, hk, rfl, HJ, K⟩ := hrel
    by_cases hlt : k < hs.length
    · have hki : (k : Int) < hs.length := by omega
      have hBe := HBB.out (by omega)
      subst hBe
      obtain ⟨b', off', e', -, c0, c1, c2, c3⟩ := ((hH.below KV).below K).at_ hlt
      injection e' with e'; injection e' with e1 e2; subst e1; subst e2
      have HF1 : Hid ((hcg hs k).1 = (hcg hs k).2.1 → q = false) := Lib.hid (fun h => HI5.out k hlt (fun p => p.2.2.1 h))
      have HF2 : Hid (∀ j, j + 1 = k → hltB (hcg hs j) (hcg hs k) = false → q = false) := Lib.hid (fun j hj h => HI5.out k hlt (fun p => by
        rcases p.2.2.2.2.1 with g | g
        · omega
        · rw [show k - 1 = j by omega, h] at g; cases g))
      have HF3 : Hid (∀ bo : Bool, (hasc hs hs.length → (bo = true ↔ explP rs zs hs (hcg hs k))) → bo = false → q = false) := Lib.hid (fun bo h e => HI6.out k hlt (fun a p => by rw [(h a).2 p] at e; cases e))
      have HNX0 : Hid ((hcg hs k).1 ≠ (hcg hs k).2.1 → (k = 0 ∨ hltB (hcg hs (k - 1)) (hcg hs k) = true) → ∀ bo : Bool, (hasc hs hs.length → (bo = true ↔ explP rs zs hs (hcg hs k))) → bo = true → hokJ rs zs hs (k + 1)) := Lib.hid (fun h1 h2 bo h3 h4 => hokJ_next HJ.out h1 h2 bo h3 h4)
      have HEXR := Lib.hid (HEXR0.out k hlt)
      have KS := Lib.hid K
      have kv := below1 wr (.cells #[.int .i64 (hcg hs k).1, .int .i64 (hcg hs k).2.1, .int .i64 (hcg hs k).2.2.1, .int .i64 (hcg hs k).2.2.2] 77)
      have Q : QuadH (wr.alloc (.cells #[.int .i64 (hcg hs k).1, .int .i64 (hcg hs k).2.1, .int .i64 (hcg hs k).2.2.1, .int .i64 (hcg hs k).2.2.2] 77)) wr.heap.size 77 (.int .i64 (hcg hs k).1) (.int .i64 (hcg hs k).2.1) (.int .i64 (hcg hs k).2.2.1) (.int .i64 (hcg hs k).2.2.2) := heap_alloc_new _ _
      obtain ⟨a0, a1, a2, a3⟩ := Q.cells
      have x0' := cell_under K x0
      have x1' := cell_under K x1
      have y0' := cell_under K y0
      have y1' := cell_under K y1
      have l0' := cell_under K l0
      have l1' := cell_under K l1
      have KK := K.trans (kv.mono K.size)
      have T00 : HkS V w.heap.size (w.heap.size + 1) w5.heap.size wr.heap.size (.slice N ps.length cn) (.slice Ar rs.length ca) (.slice R zs.length cr) (.slice (some ⟨b, off, none⟩) hs.length cb) (.slice R zs.length cr) (.slice (some ⟨ob, 0, none⟩) zs.length zs.length) (hcg hs k).1 (hcg hs k).2.1 (hcg hs k).2.2.1 (hcg hs k).2.2.2 _ := ⟨cell_under kv x0', cell_under kv x1', cell_under kv y0', cell_under kv y1', cell_under kv l0', cell_under kv l1', a0, a1, a2, a3, KK⟩
      by_cases hft : (hcg hs k).1 = (hcg hs k).2.1
      · have HE := Lib.hid (HF1.out hft)
        have hff : ((hcg hs k).1 == (hcg hs k).2.1) = true := by simpa using hft
        clear HF1 HF2 HF3 HNX0 HEXR hft T00
        generalize hcg hs k = a at *
        obtain ⟨f, t, l, v⟩ := a
        dsimp only at *
        go_wp2_with fail
        go_quiet (fail)
        go_wp2
        go_ret
        exact ⟨retBo HE.out.symm, KV.trans ((below_drewN KK _).mono KV.size)⟩
      have hff : ((hcg hs k).1 == (hcg hs k).2.1) = false := by simpa using hft
      have kdw : ∀ W : World, Below W.heap.size W W.drew := fun W => (Below.refl _ W).drew
      obtain ⟨W1, hW1⟩ : ∃ W1, W1 = wr.alloc (.cells #[.int .i64 (hcg hs k).1, .int .i64 (hcg hs k).2.1, .int .i64 (hcg hs k).2.2.1, .int .i64 (hcg hs k).2.2.2] 77) := ⟨_, rfl⟩
      have HW1 := Lib.hid hW1
      rw [← hW1] at T00 KK
      clear hW1 Q kv a0 a1 a2 a3 x0' x1' y0' y1' l0' l1' HF1
      by_cases hk0 : k = 0
      · subst hk0
        simp only [Nat.zero_mul, Nat.add_zero] at c0 c1 c2 c3
        have HNX := Lib.hid (fun h1 (h2 : (0 = 0 ∨ True)) bo h3 h4 => HNX0.out h1 (.inl rfl) bo h3 h4)
        clear HNX0 HF2
        generalize hcg hs 0 = a at *
        obtain ⟨f, t, l, v⟩ := a
        dsimp only at *
        have T0 := HkS.under (kdw _) T00
        clear T00
        go_wp2_with fail
        rw [← HW1.out]
        clear HW1
        refine wp_region_held_drew (S := (fun w' => HkS V w.heap.size (w.heap.size + 1) w5.heap.size wr.heap.size (.slice N ps.length cn) (.slice Ar rs.length ca) (.slice R zs.length cr) (.slice (some ⟨b, off, none⟩) hs.length cb) (.slice R zs.length cr) (.slice (some ⟨ob, 0, none⟩) zs.length zs.length) f t l v w')) (by kernel_rfl) ?_ (fun hHeld => ?_)
        · exact T0
        clear T0
        refine wpAnyH_take (i := 0) (oi := ⟨some 44, _, _, _, _, _⟩) (v := .pointer (some ⟨wr.heap.size, 0, none⟩)) rfl (by kernel_rfl) (by kernel_rfl) (by kernel_rfl) (fun _ _ _ h => h) (Or.inl ⟨by rfl, fun w' hw => ?hy⟩) hHeld ?_
        case hy => (try dsimp only at hw); go_simp
        simp only [Act.put, List.setIfInBounds_toArray, List.set_cons_zero, List.set_cons_succ]
        refine wpAnyH_take (i := 1) (oi := ⟨some 45, _, _, _, _, _⟩) (v := .int .i64 f) rfl (by kernel_rfl) (by kernel_rfl) (by kernel_rfl) (fun _ _ _ h => h) (Or.inl ⟨by rfl, fun w' hw => ?hy⟩) hHeld ?_
        case hy => (try dsimp only at hw); go_simp
        simp only [Act.put, List.setIfInBounds_toArray, List.set_cons_zero, List.set_cons_succ]
        refine wpAnyH_take (i := 2) (oi := ⟨some 46, _, _, _, _, _⟩) (v := .pointer (some ⟨wr.heap.size, 1, none⟩)) rfl (by kernel_rfl) (by kernel_rfl) (by kernel_rfl) (fun _ _ _ h => h) (Or.inl ⟨by rfl, fun w' hw => ?hy⟩) hHeld ?_
        case hy => (try dsimp only at hw); go_simp
        simp only [Act.put, List.setIfInBounds_toArray, List.set_cons_zero, List.set_cons_succ]
        refine wpAnyH_take (i := 3) (oi := ⟨some 47, _, _, _, _, _⟩) (v := .int .i64 t) rfl (by kernel_rfl) (by kernel_rfl) (by kernel_rfl) (fun _ _ _ h => h) (Or.inl ⟨by rfl, fun w' hw => ?hy⟩) hHeld ?_
        case hy => (try dsimp only at hw); go_simp
        simp only [Act.put, List.setIfInBounds_toArray, List.set_cons_zero, List.set_cons_succ]
        refine wpAnyH_take (i := 4) (oi := ⟨some 48, _, _, _, _, _⟩) (v := .bool false) rfl (by kernel_rfl) (by kernel_rfl) (by kernel_rfl) (fun _ _ _ h => h) (Or.inl ⟨by rfl, fun w' hw => ?hy⟩) hHeld ?_
        case hy => (try dsimp only at hw); go_simp
        simp only [Act.put, List.setIfInBounds_toArray, List.set_cons_zero, List.set_cons_succ]
        refine wpAnyH_take (i := 5) (oi := ⟨some 49, _, _, _, _, _⟩) (v := .bool false) rfl (by kernel_rfl) (by kernel_rfl) (by kernel_rfl) (fun _ _ _ h => h) (Or.inl ⟨by rfl, fun w' hw => ?hy⟩) hHeld ?_
        case hy => (try dsimp only at hw); go_simp
        simp only [Act.put, List.setIfInBounds_toArray, List.set_cons_zero, List.set_cons_succ]
        refine wpAnyH_take (i := 6) (oi := ⟨some 50, _, _, _, _, _⟩) (v := .int .i64 0) rfl (by kernel_rfl) (by kernel_rfl) (by kernel_rfl) (fun _ _ _ h => h) (Or.inl ⟨by rfl, fun w' hw => ?hy⟩) hHeld ?_
        case hy => (try dsimp only at hw); go_simp
        simp only [Act.put, List.setIfInBounds_toArray, List.set_cons_zero, List.set_cons_succ]
        refine wpAnyH_take (i := 7) (oi := ⟨some 51, _, _, _, _, _⟩) (v := .bool false) rfl (by kernel_rfl) (by kernel_rfl) (by kernel_rfl) (fun _ _ _ h => h) (Or.inl ⟨by rfl, fun w' hw => ?hy⟩) hHeld ?_
        case hy => (try dsimp only at hw); go_simp
        simp only [Act.put, List.setIfInBounds_toArray, List.set_cons_zero, List.set_cons_succ]
        refine wpAnyH_take (i := 8) (oi := ⟨some 52, _, _, _, _, _⟩) (v := .bool false) rfl (by kernel_rfl) (by kernel_rfl) (by kernel_rfl) (fun _ _ _ h => h) (Or.inl ⟨by rfl, fun w' hw => ?hy⟩) hHeld ?_
        case hy => (try dsimp only at hw); go_simp
        simp only [Act.put, List.setIfInBounds_toArray, List.set_cons_zero, List.set_cons_succ]
        refine wpAnyH_take (i := 9) (oi := ⟨some 53, _, _, _, _, _⟩) (v := undef) rfl (by kernel_rfl) (by kernel_rfl) (by kernel_rfl) (fun _ _ _ h => h) (Or.inr ⟨by rfl, rfl⟩) hHeld ?_
        simp only [Act.put, List.setIfInBounds_toArray, List.set_cons_zero, List.set_cons_succ]
        refine wpAnyH_take (i := 10) (oi := ⟨some 54, _, _, _, _, _⟩) (v := undef) rfl (by kernel_rfl) (by kernel_rfl) (by kernel_rfl) (fun _ _ _ h => h) (Or.inr ⟨by rfl, rfl⟩) hHeld ?_
        simp only [Act.put, List.setIfInBounds_toArray, List.set_cons_zero, List.set_cons_succ]
        refine wpAnyH_take (i := 11) (oi := ⟨some 55, _, _, _, _, _⟩) (v := undef) rfl (by kernel_rfl) (by kernel_rfl) (by kernel_rfl) (fun _ _ _ h => h) (Or.inr ⟨by rfl, rfl⟩) hHeld ?_
        simp only [Act.put, List.setIfInBounds_toArray, List.set_cons_zero, List.set_cons_succ]
        refine wpAnyH_take (i := 12) (oi := ⟨some 56, _, _, _, _, _⟩) (v := undef) rfl (by kernel_rfl) (by kernel_rfl) (by kernel_rfl) (fun _ _ _ h => h) (Or.inr ⟨by rfl, rfl⟩) hHeld ?_
        simp only [Act.put, List.setIfInBounds_toArray, List.set_cons_zero, List.set_cons_succ]
        refine wpAnyH_take (i := 13) (oi := ⟨some 57, _, _, _, _, _⟩) (v := undef) rfl (by kernel_rfl) (by kernel_rfl) (by kernel_rfl) (fun _ _ _ h => h) (Or.inr ⟨by rfl, rfl⟩) hHeld ?_
        simp only [Act.put, List.setIfInBounds_toArray, List.set_cons_zero, List.set_cons_succ]
        refine wpAnyH_take (i := 14) (oi := ⟨some 58, _, _, _, _, _⟩) (v := undef) rfl (by kernel_rfl) (by kernel_rfl) (by kernel_rfl) (fun _ _ _ h => h) (Or.inr ⟨by rfl, rfl⟩) hHeld ?_
        simp only [Act.put, List.setIfInBounds_toArray, List.set_cons_zero, List.set_cons_succ]
        refine wpAnyH_take (i := 15) (oi := ⟨some 59, _, _, _, _, _⟩) (v := undef) rfl (by kernel_rfl) (by kernel_rfl) (by kernel_rfl) (fun _ _ _ h => h) (Or.inr ⟨by rfl, rfl⟩) hHeld ?_
        simp only [Act.put, List.setIfInBounds_toArray, List.set_cons_zero, List.set_cons_succ]
        refine wpAnyH_take (i := 16) (oi := ⟨some 60, _, _, _, _, _⟩) (v := undef) rfl (by kernel_rfl) (by kernel_rfl) (by kernel_rfl) (fun _ _ _ h => h) (Or.inr ⟨by rfl, rfl⟩) hHeld ?_
        simp only [Act.put, List.setIfInBounds_toArray, List.set_cons_zero, List.set_cons_succ]
        refine wpAnyH_take (i := 17) (oi := ⟨some 61, _, _, _, _, _⟩) (v := undef) rfl (by kernel_rfl) (by kernel_rfl) (by kernel_rfl) (fun _ _ _ h => h) (Or.inr ⟨by rfl, rfl⟩) hHeld ?_
        simp only [Act.put, List.setIfInBounds_toArray, List.set_cons_zero, List.set_cons_succ]
        refine wpAnyH_take (i := 18) (oi := ⟨some 62, _, _, _, _, _⟩) (v := undef) rfl (by kernel_rfl) (by kernel_rfl) (by kernel_rfl) (fun _ _ _ h => h) (Or.inr ⟨by rfl, rfl⟩) hHeld ?_
        simp only [Act.put, List.setIfInBounds_toArray, List.set_cons_zero, List.set_cons_succ]
        refine wpAnyH_take (i := 19) (oi := ⟨some 63, _, _, _, _, _⟩) (v := undef) rfl (by kernel_rfl) (by kernel_rfl) (by kernel_rfl) (fun _ _ _ h => h) (Or.inr ⟨by rfl, rfl⟩) hHeld ?_
        simp only [Act.put, List.setIfInBounds_toArray, List.set_cons_zero, List.set_cons_succ]
        refine wpAnyH_take (i := 20) (oi := ⟨some 64, _, _, _, _, _⟩) (v := .bool false) rfl (by kernel_rfl) (by kernel_rfl) (by kernel_rfl) (fun _ _ _ h => h) (Or.inl ⟨by rfl, fun w' hw => ?hy⟩) hHeld ?_
        case hy => (try dsimp only at hw); go_simp
        simp only [Act.put, List.setIfInBounds_toArray, List.set_cons_zero, List.set_cons_succ]
        refine wpAnyH_take (i := 21) (oi := ⟨some 65, _, _, _, _, _⟩) (v := .bool false) rfl (by kernel_rfl) (by kernel_rfl) (by kernel_rfl) (fun _ _ _ h => h) (Or.inl ⟨by rfl, fun w' hw => ?hy⟩) hHeld ?_
        case hy => (try dsimp only at hw); go_simp
        simp only [Act.put, List.setIfInBounds_toArray, List.set_cons_zero, List.set_cons_succ]
        refine wpAnyH_take (i := 22) (oi := ⟨some 66, _, _, _, _, _⟩) (v := .bool false) rfl (by kernel_rfl) (by kernel_rfl) (by kernel_rfl) (fun _ _ _ h => h) (Or.inl ⟨by rfl, fun w' hw => ?hy⟩) hHeld ?_
        case hy => (try dsimp only at hw); go_simp
        simp only [Act.put, List.setIfInBounds_toArray, List.set_cons_zero, List.set_cons_succ]
        refine wpAnyH_take (i := 23) (oi := ⟨some 67, _, _, _, _, _⟩) (v := .agg #[.slice R zs.length cr, .slice (some ⟨ob, 0, none⟩) zs.length zs.length]) rfl (by kernel_rfl) (by kernel_rfl) (by kernel_rfl) (fun _ _ _ h => h) (Or.inl ⟨by rfl, fun w' hw => ?hy⟩) hHeld ?_
        case hy => (try dsimp only at hw); go_simp
        simp only [Act.put, List.setIfInBounds_toArray, List.set_cons_zero, List.set_cons_succ]
        refine wpAnyH_take (i := 24) (oi := ⟨some 68, _, _, _, _, _⟩) (v := .agg #[.int .i64 f, .int .i64 t, .int .i64 l, .int .i64 v]) rfl (by kernel_rfl) (by kernel_rfl) (by kernel_rfl) (fun _ _ _ h => h) (Or.inl ⟨by rfl, fun w' hw => ?hy⟩) hHeld ?_
        case hy => (try dsimp only at hw); go_simp
        simp only [Act.put, List.setIfInBounds_toArray, List.set_cons_zero, List.set_cons_succ]
        refine wpAnyH_take (i := 25) (oi := ⟨some 69, _, _, _, _, _⟩) (v := .agg #[.slice N ps.length cn, .slice Ar rs.length ca]) rfl (by kernel_rfl) (by kernel_rfl) (by kernel_rfl) (fun _ _ _ h => h) (Or.inl ⟨by rfl, fun w' hw => ?hy⟩) hHeld ?_
        case hy => (try dsimp only at hw); go_simp
        simp only [Act.put, List.setIfInBounds_toArray, List.set_cons_zero, List.set_cons_succ]
        refine wpAnyH_ready (rs := [26]) (by kernel_rfl) (by simp) ?_
        refine AllReadyH.cons (o := ⟨some 70, _, _, _, _, _⟩) rfl (fun K hK => ?_) AllReadyH.nil
        go_simp
        refine (HEXR.out _ (HkS.bel hHeld)).mono ?_; rintro e w26 ⟨bo, rfl, hbo, b26⟩
        go_wp2_with fail
        refine hK.out _ _ ?_ (fun hHeld => ?_)
        · exact HkS.under b26 hHeld
        clear hK K
        try simp only [Act.put, List.setIfInBounds_toArray, List.set_cons_zero, List.set_cons_succ]
        refine wpAnyH_take (i := 27) (oi := ⟨some 71, _, _, _, _, _⟩) (v := .bool (!bo)) rfl (by kernel_rfl) (by kernel_rfl) (by kernel_rfl) (fun _ _ _ h => h) (Or.inl ⟨by rfl, fun w' hw => ?hy⟩) hHeld ?_
        case hy => (try dsimp only at hw); go_simp
        simp only [Act.put, List.setIfInBounds_toArray, List.set_cons_zero, List.set_cons_succ]
        refine wpAnyH_take (i := 28) (oi := ⟨some 72, _, _, _, _, _⟩) (v := .bool (!bo)) rfl (by kernel_rfl) (by kernel_rfl) (by kernel_rfl) (fun _ _ _ h => h) (Or.inl ⟨by rfl, fun w' hw => ?hy⟩) hHeld ?_
        case hy => (try dsimp only at hw); go_simp
        simp only [Act.put, List.setIfInBounds_toArray, List.set_cons_zero, List.set_cons_succ]
        refine wpAnyH_done (by kernel_rfl) ?_ _
        cases bo with
        | false =>
          have HE := Lib.hid (HF3.out false hbo rfl)
          have KE := HkS.bel hHeld
          clear hHeld hbo HF3 HNX HEXR
          go_wp2
          go_ret
          exact ⟨retBo HE.out.symm, KV.trans (KE.mono KV.size)⟩
        | true =>
          have HE := Lib.hid (HNX.out (by first | exact hft | (intro e; simp [e] at hff)) (.inl (by first | rfl | trivial)) true hbo rfl)
          have KE := HkS.bel hHeld
          clear hHeld hbo HF3 HNX HEXR
          go_wp2
          go_roundw
          case rel => exact ⟨0 + 1, by omega, by go_num, HE, KE⟩
          case measure => simp [intOf]; omega
      obtain ⟨j, hj⟩ : ∃ j, j + 1 = k := ⟨k - 1, by omega⟩
      have hjn : j < hs.length := by omega
      have hji : (j : Int) < hs.length := by omega
      have hkp : decide ((0 : Int) < (k : Int)) = true := decide_eq_true (by omega)
      have hkp1 : (0 : Int) < (k : Int) := by omega
      have hkp2 : 0 < k := by omega
      have hw12 : IntKind.i64.wrap ((k : Int) - 1) = (j : Int) := by rw [IntWalk.i64_left]; unfold wrap64; omega
      obtain ⟨b', off', e', -, p0, p1, p2, p3⟩ := ((hH.below KV).below KK).at_ hjn
      injection e' with e'; injection e' with e1 e2; subst e1; subst e2
      have hkj : k - 1 = j := by omega
      rw [hkj] at HNX0
      have HF2' := Lib.hid (HF2.out j hj)
      have HNX := HNX0
      clear HNX0 HF2 hkj
      have HJK := Lib.hid hj
      clear hj hk0
      generalize hcg hs j = p at *
      obtain ⟨pf, pt, pl, pv⟩ := p
      generalize hcg hs k = a at *
      obtain ⟨f, t, l, v⟩ := a
      dsimp only at *
      have T0 : HkP V w.heap.size (w.heap.size + 1) w5.heap.size wr.heap.size (.slice N ps.length cn) (.slice Ar rs.length ca) (.slice R zs.length cr) (.slice (some ⟨b, off, none⟩) hs.length cb) (.slice R zs.length cr) (.slice (some ⟨ob, 0, none⟩) zs.length zs.length) f t l v b (off + j * 4) pf pt pl pv W1.drew := HkP.under (kdw _) ⟨p0, p1, p2, p3, T00⟩
      clear T00 p0 p1 p2 p3
      cases hpr : arcLt (pf, pt, pl) (f, t, l) with
      | false =>
        have HPR := Lib.hid hpr
        have HE := Lib.hid (HF2'.out hpr)
        clear hpr
        go_wp2_with fail
        rw [← HW1.out]
        clear HW1
        refine wp_region_held_drew (S := (fun w' => HkP V w.heap.size (w.heap.size + 1) w5.heap.size wr.heap.size (.slice N ps.length cn) (.slice Ar rs.length ca) (.slice R zs.length cr) (.slice (some ⟨b, off, none⟩) hs.length cb) (.slice R zs.length cr) (.slice (some ⟨ob, 0, none⟩) zs.length zs.length) f t l v b (off + j * 4) pf pt pl pv w')) (by kernel_rfl) ?_ (fun hHeld => ?_)
        · exact T0
        clear T0
        refine wpAnyH_take (i := 0) (oi := ⟨some 44, _, _, _, _, _⟩) (v := .pointer (some ⟨wr.heap.size, 0, none⟩)) rfl (by kernel_rfl) (by kernel_rfl) (by kernel_rfl) (fun _ _ _ h => h) (Or.inl ⟨by rfl, fun w' hw => ?hy⟩) hHeld ?_
        case hy => (try dsimp only at hw); go_simp
        simp only [Act.put, List.setIfInBounds_toArray, List.set_cons_zero, List.set_cons_succ]
        refine wpAnyH_take (i := 1) (oi := ⟨some 45, _, _, _, _, _⟩) (v := .int .i64 f) rfl (by kernel_rfl) (by kernel_rfl) (by kernel_rfl) (fun _ _ _ h => h) (Or.inl ⟨by rfl, fun w' hw => ?hy⟩) hHeld ?_
        case hy => (try dsimp only at hw); go_simp
        simp only [Act.put, List.setIfInBounds_toArray, List.set_cons_zero, List.set_cons_succ]
        refine wpAnyH_take (i := 2) (oi := ⟨some 46, _, _, _, _, _⟩) (v := .pointer (some ⟨wr.heap.size, 1, none⟩)) rfl (by kernel_rfl) (by kernel_rfl) (by kernel_rfl) (fun _ _ _ h => h) (Or.inl ⟨by rfl, fun w' hw => ?hy⟩) hHeld ?_
        case hy => (try dsimp only at hw); go_simp
        simp only [Act.put, List.setIfInBounds_toArray, List.set_cons_zero, List.set_cons_succ]
        refine wpAnyH_take (i := 3) (oi := ⟨some 47, _, _, _, _, _⟩) (v := .int .i64 t) rfl (by kernel_rfl) (by kernel_rfl) (by kernel_rfl) (fun _ _ _ h => h) (Or.inl ⟨by rfl, fun w' hw => ?hy⟩) hHeld ?_
        case hy => (try dsimp only at hw); go_simp
        simp only [Act.put, List.setIfInBounds_toArray, List.set_cons_zero, List.set_cons_succ]
        refine wpAnyH_take (i := 4) (oi := ⟨some 48, _, _, _, _, _⟩) (v := .bool false) rfl (by kernel_rfl) (by kernel_rfl) (by kernel_rfl) (fun _ _ _ h => h) (Or.inl ⟨by rfl, fun w' hw => ?hy⟩) hHeld ?_
        case hy => (try dsimp only at hw); go_simp
        simp only [Act.put, List.setIfInBounds_toArray, List.set_cons_zero, List.set_cons_succ]
        refine wpAnyH_take (i := 5) (oi := ⟨some 49, _, _, _, _, _⟩) (v := .bool false) rfl (by kernel_rfl) (by kernel_rfl) (by kernel_rfl) (fun _ _ _ h => h) (Or.inl ⟨by rfl, fun w' hw => ?hy⟩) hHeld ?_
        case hy => (try dsimp only at hw); go_simp
        simp only [Act.put, List.setIfInBounds_toArray, List.set_cons_zero, List.set_cons_succ]
        refine wpAnyH_take (i := 6) (oi := ⟨some 50, _, _, _, _, _⟩) (v := .int .i64 (k : Int)) rfl (by kernel_rfl) (by kernel_rfl) (by kernel_rfl) (fun _ _ _ h => h) (Or.inl ⟨by rfl, fun w' hw => ?hy⟩) hHeld ?_
        case hy => (try dsimp only at hw); go_simp
        simp only [Act.put, List.setIfInBounds_toArray, List.set_cons_zero, List.set_cons_succ]
        refine wpAnyH_take (i := 7) (oi := ⟨some 51, _, _, _, _, _⟩) (v := .bool true) rfl (by kernel_rfl) (by kernel_rfl) (by kernel_rfl) (fun _ _ _ h => h) (Or.inl ⟨by rfl, fun w' hw => ?hy⟩) hHeld ?_
        case hy => (try dsimp only at hw); go_simp
        simp only [Act.put, List.setIfInBounds_toArray, List.set_cons_zero, List.set_cons_succ]
        refine wpAnyH_take (i := 8) (oi := ⟨some 52, _, _, _, _, _⟩) (v := .bool true) rfl (by kernel_rfl) (by kernel_rfl) (by kernel_rfl) (fun _ _ _ h => h) (Or.inl ⟨by rfl, fun w' hw => ?hy⟩) hHeld ?_
        case hy => (try dsimp only at hw); go_simp
        simp only [Act.put, List.setIfInBounds_toArray, List.set_cons_zero, List.set_cons_succ]
        refine wpAnyH_take (i := 9) (oi := ⟨some 53, _, _, _, _, _⟩) (v := .pointer (some ⟨w.heap.size + 1, 1, none⟩)) rfl (by kernel_rfl) (by kernel_rfl) (by kernel_rfl) (fun _ _ _ h => h) (Or.inl ⟨by rfl, fun w' hw => ?hy⟩) hHeld ?_
        case hy => (try dsimp only at hw); go_simp
        simp only [Act.put, List.setIfInBounds_toArray, List.set_cons_zero, List.set_cons_succ]
        refine wpAnyH_take (i := 10) (oi := ⟨some 54, _, _, _, _, _⟩) (v := .slice (some ⟨b, off, none⟩) hs.length cb) rfl (by kernel_rfl) (by kernel_rfl) (by kernel_rfl) (fun _ _ _ h => h) (Or.inl ⟨by rfl, fun w' hw => ?hy⟩) hHeld ?_
        case hy => (try dsimp only at hw); go_simp
        simp only [Act.put, List.setIfInBounds_toArray, List.set_cons_zero, List.set_cons_succ]
        refine wpAnyH_take (i := 11) (oi := ⟨some 55, _, _, _, _, _⟩) (v := .int .i64 (k : Int)) rfl (by kernel_rfl) (by kernel_rfl) (by kernel_rfl) (fun _ _ _ h => h) (Or.inl ⟨by rfl, fun w' hw => ?hy⟩) hHeld ?_
        case hy => (try dsimp only at hw); go_simp
        simp only [Act.put, List.setIfInBounds_toArray, List.set_cons_zero, List.set_cons_succ]
        refine wpAnyH_take (i := 12) (oi := ⟨some 56, _, _, _, _, _⟩) (v := .int .i64 (j : Int)) rfl (by kernel_rfl) (by kernel_rfl) (by kernel_rfl) (fun _ _ _ h => h) (Or.inl ⟨by rfl, fun w' hw => ?hy⟩) hHeld ?_
        case hy => (try dsimp only at hw); go_simp
        simp only [Act.put, List.setIfInBounds_toArray, List.set_cons_zero, List.set_cons_succ]
        refine wpAnyH_take (i := 13) (oi := ⟨some 57, _, _, _, _, _⟩) (v := .pointer (some ⟨b, off + j * 4, none⟩)) rfl (by kernel_rfl) (by kernel_rfl) (by kernel_rfl) (fun _ _ _ h => h) (Or.inl ⟨by rfl, fun w' hw => ?hy⟩) hHeld ?_
        case hy => (try dsimp only at hw); go_simp
        simp only [Act.put, List.setIfInBounds_toArray, List.set_cons_zero, List.set_cons_succ]
        refine wpAnyH_take (i := 14) (oi := ⟨some 58, _, _, _, _, _⟩) (v := .agg #[.int .i64 pf, .int .i64 pt, .int .i64 pl, .int .i64 pv]) rfl (by kernel_rfl) (by kernel_rfl) (by kernel_rfl) (fun _ _ _ h => h) (Or.inl ⟨by rfl, fun w' hw => ?hy⟩) hHeld ?_
        case hy => (try dsimp only at hw); go_simp
        simp only [Act.put, List.setIfInBounds_toArray, List.set_cons_zero, List.set_cons_succ]
        refine wpAnyH_take (i := 16) (oi := ⟨some 60, _, _, _, _, _⟩) (v := .agg #[.int .i64 f, .int .i64 t, .int .i64 l, .int .i64 v]) rfl (by kernel_rfl) (by kernel_rfl) (by kernel_rfl) (fun _ _ _ h => h) (Or.inl ⟨by rfl, fun w' hw => ?hy⟩) hHeld ?_
        case hy => (try dsimp only at hw); go_simp
        simp only [Act.put, List.setIfInBounds_toArray, List.set_cons_zero, List.set_cons_succ]
        refine wpAnyH_ready (rs := [15]) (by kernel_rfl) (by simp) ?_
        refine AllReadyH.cons (o := ⟨some 59, _, _, _, _, _⟩) rfl (fun K hK => ?_) AllReadyH.nil
        go_simp
        refine (plain_any _ _ _ _ _).mono ?_; rintro e w15 ⟨rfl, b15⟩
        go_wp2_with fail
        refine hK.out _ _ ?_ (fun hHeld => ?_)
        · exact HkP.under b15 hHeld
        clear hK K
        try simp only [Act.put, List.setIfInBounds_toArray, List.set_cons_zero, List.set_cons_succ]
        refine wpAnyH_ready (rs := [17]) (by kernel_rfl) (by simp) ?_
        refine AllReadyH.cons (o := ⟨some 61, _, _, _, _, _⟩) rfl (fun K hK => ?_) AllReadyH.nil
        go_simp
        refine (plain_any _ _ _ _ _).mono ?_; rintro e w17 ⟨rfl, b17⟩
        go_wp2_with fail
        refine hK.out _ _ ?_ (fun hHeld => ?_)
        · exact HkP.under b17 hHeld
        clear hK K
        try simp only [Act.put, List.setIfInBounds_toArray, List.set_cons_zero, List.set_cons_succ]
        refine wpAnyH_ready (rs := [18]) (by kernel_rfl) (by simp) ?_
        refine AllReadyH.cons (o := ⟨some 62, _, _, _, _, _⟩) rfl (fun K hK => ?_) AllReadyH.nil
        go_simp
        refine (precedes_any _ _ _ _ _ _ _).mono ?_; rw [HPR.out]; rintro e w18 ⟨rfl, b18⟩
        go_wp2_with fail
        refine hK.out _ _ ?_ (fun hHeld => ?_)
        · exact HkP.under b18 hHeld
        clear hK K
        try simp only [Act.put, List.setIfInBounds_toArray, List.set_cons_zero, List.set_cons_succ]
        refine wpAnyH_take (i := 19) (oi := ⟨some 63, _, _, _, _, _⟩) (v := .bool true) rfl (by kernel_rfl) (by kernel_rfl) (by kernel_rfl) (fun _ _ _ h => h) (Or.inl ⟨by rfl, fun w' hw => ?hy⟩) hHeld ?_
        case hy => (try dsimp only at hw); go_simp
        simp only [Act.put, List.setIfInBounds_toArray, List.set_cons_zero, List.set_cons_succ]
        refine wpAnyH_take (i := 20) (oi := ⟨some 64, _, _, _, _, _⟩) (v := .bool true) rfl (by kernel_rfl) (by kernel_rfl) (by kernel_rfl) (fun _ _ _ h => h) (Or.inl ⟨by rfl, fun w' hw => ?hy⟩) hHeld ?_
        case hy => (try dsimp only at hw); go_simp
        simp only [Act.put, List.setIfInBounds_toArray, List.set_cons_zero, List.set_cons_succ]
        refine wpAnyH_take (i := 21) (oi := ⟨some 65, _, _, _, _, _⟩) (v := .bool true) rfl (by kernel_rfl) (by kernel_rfl) (by kernel_rfl) (fun _ _ _ h => h) (Or.inl ⟨by rfl, fun w' hw => ?hy⟩) hHeld ?_
        case hy => (try dsimp only at hw); go_simp
        simp only [Act.put, List.setIfInBounds_toArray, List.set_cons_zero, List.set_cons_succ]
        refine wpAnyH_take (i := 22) (oi := ⟨some 66, _, _, _, _, _⟩) (v := .bool true) rfl (by kernel_rfl) (by kernel_rfl) (by kernel_rfl) (fun _ _ _ h => h) (Or.inl ⟨by rfl, fun w' hw => ?hy⟩) hHeld ?_
        case hy => (try dsimp only at hw); go_simp
        simp only [Act.put, List.setIfInBounds_toArray, List.set_cons_zero, List.set_cons_succ]
        refine wpAnyH_take (i := 23) (oi := ⟨some 67, _, _, _, _, _⟩) (v := undef) rfl (by kernel_rfl) (by kernel_rfl) (by kernel_rfl) (fun _ _ _ h => h) (Or.inr ⟨by rfl, rfl⟩) hHeld ?_
        simp only [Act.put, List.setIfInBounds_toArray, List.set_cons_zero, List.set_cons_succ]
        refine wpAnyH_take (i := 24) (oi := ⟨some 68, _, _, _, _, _⟩) (v := undef) rfl (by kernel_rfl) (by kernel_rfl) (by kernel_rfl) (fun _ _ _ h => h) (Or.inr ⟨by rfl, rfl⟩) hHeld ?_
        simp only [Act.put, List.setIfInBounds_toArray, List.set_cons_zero, List.set_cons_succ]
        refine wpAnyH_take (i := 25) (oi := ⟨some 69, _, _, _, _, _⟩) (v := undef) rfl (by kernel_rfl) (by kernel_rfl) (by kernel_rfl) (fun _ _ _ h => h) (Or.inr ⟨by rfl, rfl⟩) hHeld ?_
        simp only [Act.put, List.setIfInBounds_toArray, List.set_cons_zero, List.set_cons_succ]
        refine wpAnyH_take (i := 26) (oi := ⟨some 70, _, _, _, _, _⟩) (v := undef) rfl (by kernel_rfl) (by kernel_rfl) (by kernel_rfl) (fun _ _ _ h => h) (Or.inr ⟨by rfl, rfl⟩) hHeld ?_
        simp only [Act.put, List.setIfInBounds_toArray, List.set_cons_zero, List.set_cons_succ]
        refine wpAnyH_take (i := 27) (oi := ⟨some 71, _, _, _, _, _⟩) (v := undef) rfl (by kernel_rfl) (by kernel_rfl) (by kernel_rfl) (fun _ _ _ h => h) (Or.inr ⟨by rfl, rfl⟩) hHeld ?_
        simp only [Act.put, List.setIfInBounds_toArray, List.set_cons_zero, List.set_cons_succ]
        refine wpAnyH_take (i := 28) (oi := ⟨some 72, _, _, _, _, _⟩) (v := .bool true) rfl (by kernel_rfl) (by kernel_rfl) (by kernel_rfl) (fun _ _ _ h => h) (Or.inl ⟨by rfl, fun w' hw => ?hy⟩) hHeld ?_
        case hy => (try dsimp only at hw); go_simp
        simp only [Act.put, List.setIfInBounds_toArray, List.set_cons_zero, List.set_cons_succ]
        refine wpAnyH_done (by kernel_rfl) ?_ _
        have KE := HkP.bel hHeld
        clear hHeld HF2' HF3 HNX HEXR
        go_wp2
        go_ret
        exact ⟨retBo HE.out.symm, KV.trans (KE.mono KV.size)⟩
      | true =>
        have HPR := Lib.hid hpr
        clear hpr
        go_wp2_with fail
        rw [← HW1.out]
        clear HW1
        refine wp_region_held_drew (S := (fun w' => HkP V w.heap.size (w.heap.size + 1) w5.heap.size wr.heap.size (.slice N ps.length cn) (.slice Ar rs.length ca) (.slice R zs.length cr) (.slice (some ⟨b, off, none⟩) hs.length cb) (.slice R zs.length cr) (.slice (some ⟨ob, 0, none⟩) zs.length zs.length) f t l v b (off + j * 4) pf pt pl pv w')) (by kernel_rfl) ?_ (fun hHeld => ?_)
        · exact T0
        clear T0
        refine wpAnyH_take (i := 0) (oi := ⟨some 44, _, _, _, _, _⟩) (v := .pointer (some ⟨wr.heap.size, 0, none⟩)) rfl (by kernel_rfl) (by kernel_rfl) (by kernel_rfl) (fun _ _ _ h => h) (Or.inl ⟨by rfl, fun w' hw => ?hy⟩) hHeld ?_
        case hy => (try dsimp only at hw); go_simp
        simp only [Act.put, List.setIfInBounds_toArray, List.set_cons_zero, List.set_cons_succ]
        refine wpAnyH_take (i := 1) (oi := ⟨some 45, _, _, _, _, _⟩) (v := .int .i64 f) rfl (by kernel_rfl) (by kernel_rfl) (by kernel_rfl) (fun _ _ _ h => h) (Or.inl ⟨by rfl, fun w' hw => ?hy⟩) hHeld ?_
        case hy => (try dsimp only at hw); go_simp
        simp only [Act.put, List.setIfInBounds_toArray, List.set_cons_zero, List.set_cons_succ]
        refine wpAnyH_take (i := 2) (oi := ⟨some 46, _, _, _, _, _⟩) (v := .pointer (some ⟨wr.heap.size, 1, none⟩)) rfl (by kernel_rfl) (by kernel_rfl) (by kernel_rfl) (fun _ _ _ h => h) (Or.inl ⟨by rfl, fun w' hw => ?hy⟩) hHeld ?_
        case hy => (try dsimp only at hw); go_simp
        simp only [Act.put, List.setIfInBounds_toArray, List.set_cons_zero, List.set_cons_succ]
        refine wpAnyH_take (i := 3) (oi := ⟨some 47, _, _, _, _, _⟩) (v := .int .i64 t) rfl (by kernel_rfl) (by kernel_rfl) (by kernel_rfl) (fun _ _ _ h => h) (Or.inl ⟨by rfl, fun w' hw => ?hy⟩) hHeld ?_
        case hy => (try dsimp only at hw); go_simp
        simp only [Act.put, List.setIfInBounds_toArray, List.set_cons_zero, List.set_cons_succ]
        refine wpAnyH_take (i := 4) (oi := ⟨some 48, _, _, _, _, _⟩) (v := .bool false) rfl (by kernel_rfl) (by kernel_rfl) (by kernel_rfl) (fun _ _ _ h => h) (Or.inl ⟨by rfl, fun w' hw => ?hy⟩) hHeld ?_
        case hy => (try dsimp only at hw); go_simp
        simp only [Act.put, List.setIfInBounds_toArray, List.set_cons_zero, List.set_cons_succ]
        refine wpAnyH_take (i := 5) (oi := ⟨some 49, _, _, _, _, _⟩) (v := .bool false) rfl (by kernel_rfl) (by kernel_rfl) (by kernel_rfl) (fun _ _ _ h => h) (Or.inl ⟨by rfl, fun w' hw => ?hy⟩) hHeld ?_
        case hy => (try dsimp only at hw); go_simp
        simp only [Act.put, List.setIfInBounds_toArray, List.set_cons_zero, List.set_cons_succ]
        refine wpAnyH_take (i := 6) (oi := ⟨some 50, _, _, _, _, _⟩) (v := .int .i64 (k : Int)) rfl (by kernel_rfl) (by kernel_rfl) (by kernel_rfl) (fun _ _ _ h => h) (Or.inl ⟨by rfl, fun w' hw => ?hy⟩) hHeld ?_
        case hy => (try dsimp only at hw); go_simp
        simp only [Act.put, List.setIfInBounds_toArray, List.set_cons_zero, List.set_cons_succ]
        refine wpAnyH_take (i := 7) (oi := ⟨some 51, _, _, _, _, _⟩) (v := .bool true) rfl (by kernel_rfl) (by kernel_rfl) (by kernel_rfl) (fun _ _ _ h => h) (Or.inl ⟨by rfl, fun w' hw => ?hy⟩) hHeld ?_
        case hy => (try dsimp only at hw); go_simp
        simp only [Act.put, List.setIfInBounds_toArray, List.set_cons_zero, List.set_cons_succ]
        refine wpAnyH_take (i := 8) (oi := ⟨some 52, _, _, _, _, _⟩) (v := .bool true) rfl (by kernel_rfl) (by kernel_rfl) (by kernel_rfl) (fun _ _ _ h => h) (Or.inl ⟨by rfl, fun w' hw => ?hy⟩) hHeld ?_
        case hy => (try dsimp only at hw); go_simp
        simp only [Act.put, List.setIfInBounds_toArray, List.set_cons_zero, List.set_cons_succ]
        refine wpAnyH_take (i := 9) (oi := ⟨some 53, _, _, _, _, _⟩) (v := .pointer (some ⟨w.heap.size + 1, 1, none⟩)) rfl (by kernel_rfl) (by kernel_rfl) (by kernel_rfl) (fun _ _ _ h => h) (Or.inl ⟨by rfl, fun w' hw => ?hy⟩) hHeld ?_
        case hy => (try dsimp only at hw); go_simp
        simp only [Act.put, List.setIfInBounds_toArray, List.set_cons_zero, List.set_cons_succ]
        refine wpAnyH_take (i := 10) (oi := ⟨some 54, _, _, _, _, _⟩) (v := .slice (some ⟨b, off, none⟩) hs.length cb) rfl (by kernel_rfl) (by kernel_rfl) (by kernel_rfl) (fun _ _ _ h => h) (Or.inl ⟨by rfl, fun w' hw => ?hy⟩) hHeld ?_
        case hy => (try dsimp only at hw); go_simp
        simp only [Act.put, List.setIfInBounds_toArray, List.set_cons_zero, List.set_cons_succ]
        refine wpAnyH_take (i := 11) (oi := ⟨some 55, _, _, _, _, _⟩) (v := .int .i64 (k : Int)) rfl (by kernel_rfl) (by kernel_rfl) (by kernel_rfl) (fun _ _ _ h => h) (Or.inl ⟨by rfl, fun w' hw => ?hy⟩) hHeld ?_
        case hy => (try dsimp only at hw); go_simp
        simp only [Act.put, List.setIfInBounds_toArray, List.set_cons_zero, List.set_cons_succ]
        refine wpAnyH_take (i := 12) (oi := ⟨some 56, _, _, _, _, _⟩) (v := .int .i64 (j : Int)) rfl (by kernel_rfl) (by kernel_rfl) (by kernel_rfl) (fun _ _ _ h => h) (Or.inl ⟨by rfl, fun w' hw => ?hy⟩) hHeld ?_
        case hy => (try dsimp only at hw); go_simp
        simp only [Act.put, List.setIfInBounds_toArray, List.set_cons_zero, List.set_cons_succ]
        refine wpAnyH_take (i := 13) (oi := ⟨some 57, _, _, _, _, _⟩) (v := .pointer (some ⟨b, off + j * 4, none⟩)) rfl (by kernel_rfl) (by kernel_rfl) (by kernel_rfl) (fun _ _ _ h => h) (Or.inl ⟨by rfl, fun w' hw => ?hy⟩) hHeld ?_
        case hy => (try dsimp only at hw); go_simp
        simp only [Act.put, List.setIfInBounds_toArray, List.set_cons_zero, List.set_cons_succ]
        refine wpAnyH_take (i := 14) (oi := ⟨some 58, _, _, _, _, _⟩) (v := .agg #[.int .i64 pf, .int .i64 pt, .int .i64 pl, .int .i64 pv]) rfl (by kernel_rfl) (by kernel_rfl) (by kernel_rfl) (fun _ _ _ h => h) (Or.inl ⟨by rfl, fun w' hw => ?hy⟩) hHeld ?_
        case hy => (try dsimp only at hw); go_simp
        simp only [Act.put, List.setIfInBounds_toArray, List.set_cons_zero, List.set_cons_succ]
        refine wpAnyH_take (i := 16) (oi := ⟨some 60, _, _, _, _, _⟩) (v := .agg #[.int .i64 f, .int .i64 t, .int .i64 l, .int .i64 v]) rfl (by kernel_rfl) (by kernel_rfl) (by kernel_rfl) (fun _ _ _ h => h) (Or.inl ⟨by rfl, fun w' hw => ?hy⟩) hHeld ?_
        case hy => (try dsimp only at hw); go_simp
        simp only [Act.put, List.setIfInBounds_toArray, List.set_cons_zero, List.set_cons_succ]
        refine wpAnyH_ready (rs := [15]) (by kernel_rfl) (by simp) ?_
        refine AllReadyH.cons (o := ⟨some 59, _, _, _, _, _⟩) rfl (fun K hK => ?_) AllReadyH.nil
        go_simp
        refine (plain_any _ _ _ _ _).mono ?_; rintro e w15 ⟨rfl, b15⟩
        go_wp2_with fail
        refine hK.out _ _ ?_ (fun hHeld => ?_)
        · exact HkP.under b15 hHeld
        clear hK K
        try simp only [Act.put, List.setIfInBounds_toArray, List.set_cons_zero, List.set_cons_succ]
        refine wpAnyH_ready (rs := [17]) (by kernel_rfl) (by simp) ?_
        refine AllReadyH.cons (o := ⟨some 61, _, _, _, _, _⟩) rfl (fun K hK => ?_) AllReadyH.nil
        go_simp
        refine (plain_any _ _ _ _ _).mono ?_; rintro e w17 ⟨rfl, b17⟩
        go_wp2_with fail
        refine hK.out _ _ ?_ (fun hHeld => ?_)
        · exact HkP.under b17 hHeld
        clear hK K
        try simp only [Act.put, List.setIfInBounds_toArray, List.set_cons_zero, List.set_cons_succ]
        refine wpAnyH_ready (rs := [18]) (by kernel_rfl) (by simp) ?_
        refine AllReadyH.cons (o := ⟨some 62, _, _, _, _, _⟩) rfl (fun K hK => ?_) AllReadyH.nil
        go_simp
        refine (precedes_any _ _ _ _ _ _ _).mono ?_; rw [HPR.out]; rintro e w18 ⟨rfl, b18⟩
        go_wp2_with fail
        refine hK.out _ _ ?_ (fun hHeld => ?_)
        · exact HkP.under b18 hHeld
        clear hK K
        try simp only [Act.put, List.setIfInBounds_toArray, List.set_cons_zero, List.set_cons_succ]
        refine wpAnyH_take (i := 19) (oi := ⟨some 63, _, _, _, _, _⟩) (v := .bool false) rfl (by kernel_rfl) (by kernel_rfl) (by kernel_rfl) (fun _ _ _ h => h) (Or.inl ⟨by rfl, fun w' hw => ?hy⟩) hHeld ?_
        case hy => (try dsimp only at hw); go_simp
        simp only [Act.put, List.setIfInBounds_toArray, List.set_cons_zero, List.set_cons_succ]
        refine wpAnyH_take (i := 20) (oi := ⟨some 64, _, _, _, _, _⟩) (v := .bool false) rfl (by kernel_rfl) (by kernel_rfl) (by kernel_rfl) (fun _ _ _ h => h) (Or.inl ⟨by rfl, fun w' hw => ?hy⟩) hHeld ?_
        case hy => (try dsimp only at hw); go_simp
        simp only [Act.put, List.setIfInBounds_toArray, List.set_cons_zero, List.set_cons_succ]
        refine wpAnyH_take (i := 21) (oi := ⟨some 65, _, _, _, _, _⟩) (v := .bool false) rfl (by kernel_rfl) (by kernel_rfl) (by kernel_rfl) (fun _ _ _ h => h) (Or.inl ⟨by rfl, fun w' hw => ?hy⟩) hHeld ?_
        case hy => (try dsimp only at hw); go_simp
        simp only [Act.put, List.setIfInBounds_toArray, List.set_cons_zero, List.set_cons_succ]
        refine wpAnyH_take (i := 22) (oi := ⟨some 66, _, _, _, _, _⟩) (v := .bool false) rfl (by kernel_rfl) (by kernel_rfl) (by kernel_rfl) (fun _ _ _ h => h) (Or.inl ⟨by rfl, fun w' hw => ?hy⟩) hHeld ?_
        case hy => (try dsimp only at hw); go_simp
        simp only [Act.put, List.setIfInBounds_toArray, List.set_cons_zero, List.set_cons_succ]
        refine wpAnyH_take (i := 23) (oi := ⟨some 67, _, _, _, _, _⟩) (v := .agg #[.slice R zs.length cr, .slice (some ⟨ob, 0, none⟩) zs.length zs.length]) rfl (by kernel_rfl) (by kernel_rfl) (by kernel_rfl) (fun _ _ _ h => h) (Or.inl ⟨by rfl, fun w' hw => ?hy⟩) hHeld ?_
        case hy => (try dsimp only at hw); go_simp
        simp only [Act.put, List.setIfInBounds_toArray, List.set_cons_zero, List.set_cons_succ]
        refine wpAnyH_take (i := 24) (oi := ⟨some 68, _, _, _, _, _⟩) (v := .agg #[.int .i64 f, .int .i64 t, .int .i64 l, .int .i64 v]) rfl (by kernel_rfl) (by kernel_rfl) (by kernel_rfl) (fun _ _ _ h => h) (Or.inl ⟨by rfl, fun w' hw => ?hy⟩) hHeld ?_
        case hy => (try dsimp only at hw); go_simp
        simp only [Act.put, List.setIfInBounds_toArray, List.set_cons_zero, List.set_cons_succ]
        refine wpAnyH_take (i := 25) (oi := ⟨some 69, _, _, _, _, _⟩) (v := .agg #[.slice N ps.length cn, .slice Ar rs.length ca]) rfl (by kernel_rfl) (by kernel_rfl) (by kernel_rfl) (fun _ _ _ h => h) (Or.inl ⟨by rfl, fun w' hw => ?hy⟩) hHeld ?_
        case hy => (try dsimp only at hw); go_simp
        simp only [Act.put, List.setIfInBounds_toArray, List.set_cons_zero, List.set_cons_succ]
        refine wpAnyH_ready (rs := [26]) (by kernel_rfl) (by simp) ?_
        refine AllReadyH.cons (o := ⟨some 70, _, _, _, _, _⟩) rfl (fun K hK => ?_) AllReadyH.nil
        go_simp
        refine (HEXR.out _ (HkP.bel hHeld)).mono ?_; rintro e w26 ⟨bo, rfl, hbo, b26⟩
        go_wp2_with fail
        refine hK.out _ _ ?_ (fun hHeld => ?_)
        · exact HkP.under b26 hHeld
        clear hK K
        try simp only [Act.put, List.setIfInBounds_toArray, List.set_cons_zero, List.set_cons_succ]
        refine wpAnyH_take (i := 27) (oi := ⟨some 71, _, _, _, _, _⟩) (v := .bool (!bo)) rfl (by kernel_rfl) (by kernel_rfl) (by kernel_rfl) (fun _ _ _ h => h) (Or.inl ⟨by rfl, fun w' hw => ?hy⟩) hHeld ?_
        case hy => (try dsimp only at hw); go_simp
        simp only [Act.put, List.setIfInBounds_toArray, List.set_cons_zero, List.set_cons_succ]
        refine wpAnyH_take (i := 28) (oi := ⟨some 72, _, _, _, _, _⟩) (v := .bool (!bo)) rfl (by kernel_rfl) (by kernel_rfl) (by kernel_rfl) (fun _ _ _ h => h) (Or.inl ⟨by rfl, fun w' hw => ?hy⟩) hHeld ?_
        case hy => (try dsimp only at hw); go_simp
        simp only [Act.put, List.setIfInBounds_toArray, List.set_cons_zero, List.set_cons_succ]
        refine wpAnyH_done (by kernel_rfl) ?_ _
        cases bo with
        | false =>
          have HE := Lib.hid (HF3.out false hbo rfl)
          have KE := HkP.bel hHeld
          clear hHeld hbo HF3 HNX HEXR
          go_wp2
          go_ret
          exact ⟨retBo HE.out.symm, KV.trans (KE.mono KV.size)⟩
        | true =>
          have HE := Lib.hid (HNX.out (by first | exact hft | (intro e; simp [e] at hff)) (.inr HPR.out) true hbo rfl)
          have KE := HkP.bel hHeld
          clear hHeld hbo HF3 HNX HEXR
          go_wp2
          go_roundw
          case rel => exact ⟨k + 1, by omega, by go_num, HE, KE⟩
          case measure => simp [intOf]; omega
    · obtain rfl : k = hs.length := by omega
      have HE := Lib.hid (HYES.out HNB.out HOO.out (by omega) HOK.out HJ.out)
      go_wp2
      go_ret
      exact ⟨retBo HE.out.symm, KV.trans (K.mono KV.size)⟩

end Go.Proofs.Ytagaildnfbegkaa
