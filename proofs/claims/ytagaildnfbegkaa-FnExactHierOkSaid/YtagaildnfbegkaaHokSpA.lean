/-
  What spec.HierOk answers.
-/
import Derived.Test.YtagaildnfbegkaaHokIm
import Derived.Test.YtagaildnfbegkaaRankedIm
namespace Go.Proofs.Ytagaildnfbegkaa
open Go.RowKit Go.Deep Go.Maps

theorem arcLt_trans {a b c : A3} (h : arcLt a b = true) (k : arcLt b c = true) : arcLt a c = true := by
  unfold arcLt at *; simp only [decide_eq_true_eq] at *; omega
theorem arcs_lt {rs : List A3} (h : ∀ i, i < rs.length → i = 0 ∨ arcLt (arg rs (i - 1)) (arg rs i) = true) : ∀ {i j : Nat}, i < j → j < rs.length → arcLt (arg rs i) (arg rs j) = true
  | i, 0, hi, _ => by omega
  | i, j + 1, hi, hj => by
    have s := h (j + 1) hj
    have s' : arcLt (arg rs j) (arg rs (j + 1)) = true := by
      rcases s with s | s
      · omega
      · exact s
    by_cases e : i = j
    · subst e; exact s'
    · exact arcLt_trans (arcs_lt h (by omega) (by omega)) s'
theorem arcs_one {ps : List (Int × Int)} {rs : List A3} (hok : netB ps rs = true) {u v : Int} {i j : Nat} (hi : i < rs.length) (hj : j < rs.length) (k1 : hit rs u v i = true) (k2 : hit rs u v j = true) : i = j := by
  have h : ∀ i, i < rs.length → i = 0 ∨ arcLt (arg rs (i - 1)) (arg rs i) = true := fun i hi => ((netB_iff.1 hok).2.2.2 i hi).2
  unfold hit at k1 k2
  simp only [Bool.and_eq_true, beq_iff_eq] at k1 k2
  have q : ∀ {a b : Nat}, a < b → b < rs.length → (arg rs a).1 = (arg rs b).1 → (arg rs a).2.1 = (arg rs b).2.1 → False := fun hab hb e1 e2 => by
    have := arcs_lt h hab hb
    unfold arcLt at this
    simp only [decide_eq_true_eq] at this
    omega
  rcases Nat.lt_trichotomy i j with g | g | g
  · exact (q g hj (by omega) (by omega)).elim
  · exact g
  · exact (q g hi (by omega) (by omega)).elim
theorem findA_or (rs : List A3) (u v : Int) : (findA rs u v = -1 ∧ ∀ i, i < rs.length → hit rs u v i = false) ∨ ∃ k : Nat, k < rs.length ∧ findA rs u v = (k : Int) ∧ hit rs u v k = true := by
  cases h : (List.range rs.length).find? (hit rs u v) with
  | none =>
    have h' := List.find?_range_eq_none.1 h
    exact .inl ⟨by unfold findA; rw [h], fun i hi => by simpa using h' i hi⟩
  | some k =>
    have h' := List.find?_range_eq_some.1 h
    exact .inr ⟨k, by simpa using h'.2.1, by unfold findA; rw [h], h'.1⟩
section
variable {ps : List (Int × Int)} {rs : List A3} {zs : List Int} {hs : List A4} {a : A4}
theorem own_none (h : a.2.2.2 = -1) (k : findA rs a.1 a.2.1 = -1) : ¬ explP rs zs hs a := by
  rw [expl_own h]; rintro ⟨i, hi, e⟩
  rcases findA_or rs a.1 a.2.1 with ⟨-, q⟩ | ⟨j, -, q, -⟩
  · have := q i hi; unfold hit at this; rw [e] at this; simp at this
  · rw [k] at q; omega
theorem own_len (hok : netB ps rs = true) (h : a.2.2.2 = -1) {j : Nat} (k : findA rs a.1 a.2.1 = (j : Int)) : j < rs.length ∧ (explP rs zs hs a ↔ (arg rs j).2.2 = a.2.2.1) := by
  rcases findA_or rs a.1 a.2.1 with ⟨q, -⟩ | ⟨j', q1, q2, q3⟩
  · rw [k] at q; omega
  · obtain rfl : j = j' := by omega
    refine ⟨q1, ?_⟩
    rw [expl_own h]
    have q4 := q3
    unfold hit at q4
    simp only [Bool.and_eq_true, beq_iff_eq] at q4
    constructor
    · rintro ⟨i, hi, e⟩
      have hh : hit rs a.1 a.2.1 i = true := by unfold hit; rw [e]; simp
      rw [← arcs_one hok hi q1 hh q3, e]
    · intro e
      exact ⟨j, q1, by rw [← e, ← q4.1, ← q4.2]⟩
theorem via_none (h : a.2.2.2 ≠ -1) (k : findH hs a.1 a.2.2.2 = -1 ∨ findH hs a.2.2.2 a.2.1 = -1) : ¬ explP rs zs hs a := by
  unfold explP; rw [if_neg h]; rintro ⟨-, -, -, i, j, hi, hj, q1, q2, -⟩
  rcases k with k | k
  · rcases findH_or hs a.1 a.2.2.2 with ⟨-, q⟩ | ⟨m, -, q, -, -⟩
    · rw [q i hi] at q1; cases q1
    · rw [k] at q; omega
  · rcases findH_or hs a.2.2.2 a.2.1 with ⟨-, q⟩ | ⟨m, -, q, -, -⟩
    · rw [q j hj] at q2; cases q2
    · rw [k] at q; omega
theorem via_at {u v : Int} {i : Nat} (k : findH hs u v = (i : Int)) : i < hs.length ∧ hitH hs u v i = true := by
  rcases findH_or hs u v with ⟨q, -⟩ | ⟨j, q1, q2, q3, -⟩
  · rw [k] at q; omega
  · obtain rfl : i = j := by omega
    exact ⟨q1, q3⟩
theorem via_len (h : a.2.2.2 ≠ -1) {i j : Nat} (k1 : findH hs a.1 a.2.2.2 = (i : Int)) (k2 : findH hs a.2.2.2 a.2.1 = (j : Int)) (ha : hasc hs hs.length) (e : explP rs zs hs a) : (hcg hs i).2.2.1 + (hcg hs j).2.2.1 = a.2.2.1 := by
  unfold explP at e; rw [if_neg h] at e
  obtain ⟨-, -, -, i', j', hi, hj, r1, r2, r3⟩ := e
  have q1 := via_at k1
  have q2 := via_at k2
  rw [hasc_one ha hi q1.1 r1 q1.2, hasc_one ha hj q2.1 r2 q2.2] at r3
  exact r3
theorem via_yes (h : a.2.2.2 ≠ -1) (hb : btB a.2.2.2 0 ((zs.length : Int) - 1) = true) (h1 : zg zs a.2.2.2.toNat < zg zs a.1.toNat) (h2 : zg zs a.2.2.2.toNat < zg zs a.2.1.toNat) {i j : Nat} (k1 : findH hs a.1 a.2.2.2 = (i : Int)) (k2 : findH hs a.2.2.2 a.2.1 = (j : Int))
    (e : (hcg hs i).2.2.1 + (hcg hs j).2.2.1 = a.2.2.1) : explP rs zs hs a := by
  unfold explP; rw [if_neg h]
  exact ⟨hb, h1, h2, i, j, (via_at k1).1, (via_at k2).1, (via_at k1).2, (via_at k2).2, e⟩
end
/-- What the first k arcs have been found to be. -/
def spJ (rs : List A3) (zs : List Int) (hs : List A4) (k : Nat) : Prop := ∀ i, i < k → btB (hcg hs i).1 0 ((zs.length : Int) - 1) = true ∧ btB (hcg hs i).2.1 0 ((zs.length : Int) - 1) = true ∧ (hcg hs i).1 ≠ (hcg hs i).2.1 ∧ btB (hcg hs i).2.2.1 1 1000000 = true ∧
  (i = 0 ∨ hltB (hcg hs (i - 1)) (hcg hs i) = true) ∧ (hok zs.length hs → explP rs zs hs (hcg hs i))
theorem spJ_all {rs : List A3} {zs : List Int} {hs : List A4} (h : spJ rs zs hs hs.length) : ∀ i, i < hs.length → harcP rs zs hs i := fun i hi => by
  have hk : hok zs.length hs := fun i hi => by
    obtain ⟨h1, h2, -, h4, -⟩ := h i hi
    have a := btB_iff.1 h1
    have b := btB_iff.1 h2
    have c := btB_iff.1 h4
    exact ⟨⟨a.1, by omega⟩, ⟨b.1, by omega⟩, c.1, c.2⟩
  obtain ⟨h1, h2, h3, h4, h5, h6⟩ := h i hi
  exact ⟨h1, h2, h3, h4, h5, h6 hk⟩
/-- The boxes of the network and of the hierarchy, and nothing older has turned. -/
abbrev HbS (V : World) (nb hb : Nat) (n1 n2 h1 h2 : Value) (w : World) : Prop :=
  w.cell? ⟨nb, 0, none⟩ = some n1 ∧ w.cell? ⟨nb, 1, none⟩ = some n2 ∧ w.cell? ⟨hb, 0, none⟩ = some h1 ∧ w.cell? ⟨hb, 1, none⟩ = some h2 ∧ Below V.heap.size V w
/-- .. with the arc's box, and three ranks. -/
abbrev HkR (V : World) (nb hb lb ab : Nat) (n1 n2 h1 h2 l1 l2 : Value) (f t l v : Int) (rb oV oF oT : Nat) (zV zF zT : Int) (w : World) : Prop :=
  w.cell? ⟨rb, oV, none⟩ = some (.int .i64 zV) ∧ w.cell? ⟨rb, oF, none⟩ = some (.int .i64 zF) ∧ w.cell? ⟨rb, oT, none⟩ = some (.int .i64 zT) ∧ HkS V nb hb lb ab n1 n2 h1 h2 l1 l2 f t l v w
section
variable {V w w' : World} {nb hb lb ab rb oV oF oT : Nat} {n1 n2 h1 h2 l1 l2 : Value} {f t l v zV zF zT : Int}
theorem HbS.under (q : Below w.heap.size w w') (h : HbS V nb hb n1 n2 h1 h2 w) : HbS V nb hb n1 n2 h1 h2 w' :=
  ⟨cell_under q h.1, cell_under q h.2.1, cell_under q h.2.2.1, cell_under q h.2.2.2.1, h.2.2.2.2.trans (q.mono h.2.2.2.2.size)⟩
theorem HbS.bel (h : HbS V nb hb n1 n2 h1 h2 w) : Below V.heap.size V w := h.2.2.2.2
theorem HkR.under (q : Below w.heap.size w w') (h : HkR V nb hb lb ab n1 n2 h1 h2 l1 l2 f t l v rb oV oF oT zV zF zT w) : HkR V nb hb lb ab n1 n2 h1 h2 l1 l2 f t l v rb oV oF oT zV zF zT w' :=
  ⟨cell_under q h.1, cell_under q h.2.1, cell_under q h.2.2.1, HkS.under q h.2.2.2⟩
theorem HkR.bel (h : HkR V nb hb lb ab n1 n2 h1 h2 l1 l2 f t l v rb oV oF oT zV zF zT w) : Below V.heap.size V w := HkS.bel h.2.2.2
theorem HkS.drewN (h : HkS V nb hb lb ab n1 n2 h1 h2 l1 l2 f t l v w) (n : Nat) : HkS V nb hb lb ab n1 n2 h1 h2 l1 l2 f t l v (w.drewN n) := HkS.under (below_drewN (Below.refl _ _) n) h
theorem HkS.two (h : HkS V nb hb lb ab n1 n2 h1 h2 l1 l2 f t l v w) : HbS V nb hb n1 n2 h1 h2 w := ⟨h.1, h.2.1, h.2.2.1, h.2.2.2.1, HkS.bel h⟩
theorem HkS.drew (h : HkS V nb hb lb ab n1 n2 h1 h2 l1 l2 f t l v w) : HkS V nb hb lb ab n1 n2 h1 h2 l1 l2 f t l v w.drew := HkS.under (Below.refl _ _).drew h
end

open Classical in
set_option maxRecDepth 1000000 in
set_option maxHeartbeats 16000000 in
theorem specHierOk_no (N Ar R B : Option Addr) (cn ca cr cb : Nat) (ps : List (Int × Int)) (rs : List A3) (zs : List Int) (hs : List A4) (w : World) (hn : ps.length ≤ 1048576) (hm : rs.length ≤ 1048576) (hz : zs.length ≤ 1048576) (hh : hs.length ≤ 1048576)
    (hP : IsPts w N ps) (hA : IsArcs w Ar rs) (hR : IsInts w R zs) (hH : IsHs w B hs) (hbad : netB ps rs = false ∨ ¬ zs.length = ps.length ∨ ¬ okZ zs ∨ 400 < hs.length) :
    Calls Try.prog 15 #[.agg #[.slice N ps.length cn, .slice Ar rs.length ca], .agg #[.slice R zs.length cr, .slice B hs.length cb]] w fun e w' => e = .returned (.bool (hierB ps rs zs hs)) ∧ Below w.heap.size w w' := by
  have X := (Pair.new w 49 (.slice N ps.length cn) (.slice Ar rs.length ca)).alloc (.cells #[.slice R zs.length cr, .slice B hs.length cb] 27)
  have Y : Pair ((w.alloc (.cells #[.slice N ps.length cn, .slice Ar rs.length ca] 49)).alloc (.cells #[.slice R zs.length cr, .slice B hs.length cb] 27)) (w.heap.size + 1) 27 (.slice R zs.length cr) (.slice B hs.length cb) := by
    have := Pair.new (w.alloc (.cells #[.slice N ps.length cn, .slice Ar rs.length ca] 49)) 27 (.slice R zs.length cr) (.slice B hs.length cb); rwa [World.size_alloc] at this
  have K := below2 w (.cells #[.slice N ps.length cn, .slice Ar rs.length ca] 49) (.cells #[.slice R zs.length cr, .slice B hs.length cb] 27)
  have HI1 : Hid (netB ps rs = false → hierB ps rs zs hs = false) := Lib.hid (fun h => hierB_no (fun p => by rw [p.1] at h; cases h))
  have HI2 : Hid (¬ zs.length = ps.length → hierB ps rs zs hs = false) := Lib.hid (fun h => hierB_no (fun p => h p.2.1))
  have HI2' : Hid (¬ okZ zs → hierB ps rs zs hs = false) := Lib.hid (fun h => hierB_no (fun p => h p.2.2.1))
  have HI3 : Hid (400 < hs.length → hierB ps rs zs hs = false) := Lib.hid (fun h => hierB_no (fun p => by have := p.2.2.2.1; omega))
  have HI5 : Hid (∀ i, i < hs.length → ¬ harcP rs zs hs i → hierB ps rs zs hs = false) := Lib.hid (fun i hi h => hierB_no (fun p => h (p.2.2.2.2 i hi)))
  have HI6 : Hid (∀ i, i < hs.length → (hasc hs hs.length → ¬ explP rs zs hs (hcg hs i)) → hierB ps rs zs hs = false) := Lib.hid (fun i hi h => hierB_no (fun p => h (hierP_asc p) (p.2.2.2.2 i hi).2.2.2.2.2))
  have HI7 : Hid (∀ i, i < hs.length → (hok zs.length hs → hasc hs hs.length → explP rs zs hs (hcg hs i) → False) → hierB ps rs zs hs = false) := Lib.hid (fun i hi h => hierB_no (fun p => h (hierP_hok p) (hierP_asc p) (p.2.2.2.2 i hi).2.2.2.2.2))
  have HYES : Hid (netB ps rs = true → zs.length = ps.length → okZ zs → hs.length ≤ 400 → spJ rs zs hs hs.length → hierB ps rs zs hs = true) := Lib.hid (fun h1 h2 h3 h4 h5 => hierB_yes ⟨h1, h2, h3, h4, spJ_all h5⟩)
  generalize hierB ps rs zs hs = q at *
  obtain ⟨x0, x1, -, -⟩ := X.cells
  obtain ⟨y0, y1, -, -⟩ := Y.cells
  obtain ⟨W, hW⟩ : ∃ W, W = (w.alloc (.cells #[.slice N ps.length cn, .slice Ar rs.length ca] 49)).alloc (.cells #[.slice R zs.length cr, .slice B hs.length cb] 27) := ⟨_, rfl⟩
  rw [← hW] at x0 x1 y0 y1 K
  have HW := Lib.hid hW
  have T0 : HbS w w.heap.size (w.heap.size + 1) (.slice N ps.length cn) (.slice Ar rs.length ca) (.slice R zs.length cr) (.slice B hs.length cb) W.drew := HbS.under (Below.refl _ _).drew ⟨x0, x1, y0, y1, K⟩
  clear hW X Y x0 x1 y0 y1 K
  cases hnb : netB ps rs with
  | false =>
    have HNB := Lib.hid hnb
    have HE := Lib.hid (HI1.out hnb)
    clear HI1 HI2 HI2' HI3 HI5 HI6 HI7 HYES hnb
    go_enter Try.func15, Try.ntmps15
    go_wp2_with fail
    rw [← HW.out]
    refine wp_region_held_drew (S := (fun w' => HbS w w.heap.size (w.heap.size + 1) (.slice N ps.length cn) (.slice Ar rs.length ca) (.slice R zs.length cr) (.slice B hs.length cb) w')) (by kernel_rfl) ?_ (fun hHeld => ?_)
    · exact T0
    clear T0
    refine wpAnyH_take (i := 0) (oi := ⟨some 10, _, _, _, _, _⟩) (v := .agg #[.slice N ps.length cn, .slice Ar rs.length ca]) rfl (by kernel_rfl) (by kernel_rfl) (by kernel_rfl) (fun _ _ _ h => h) (Or.inl ⟨by rfl, fun w' hw => ?hy⟩) hHeld ?_
    case hy => (try dsimp only at hw); go_simp
    simp only [Act.put, List.setIfInBounds_toArray, List.set_cons_zero, List.set_cons_succ]
    refine wpAnyH_ready (rs := [1]) (by kernel_rfl) (by simp) ?_
    refine AllReadyH.cons (o := ⟨some 11, _, _, _, _, _⟩) rfl (fun K hK => ?_) AllReadyH.nil
    go_simp
    refine (specNetOk_any N Ar cn ca ps rs _ hn hm (hP.below (HbS.bel hHeld)) (hA.below (HbS.bel hHeld))).mono ?_; rw [HNB.out]; rintro e w1 ⟨rfl, b1⟩
    go_wp2_with fail
    refine hK.out _ _ ?_ (fun hHeld => ?_)
    · exact HbS.under b1 hHeld
    clear hK K
    try simp only [Act.put, List.setIfInBounds_toArray, List.set_cons_zero, List.set_cons_succ]
    refine wpAnyH_take (i := 2) (oi := ⟨some 12, _, _, _, _, _⟩) (v := .bool true) rfl (by kernel_rfl) (by kernel_rfl) (by kernel_rfl) (fun _ _ _ h => h) (Or.inl ⟨by rfl, fun w' hw => ?hy⟩) hHeld ?_
    case hy => (try dsimp only at hw); go_simp
    simp only [Act.put, List.setIfInBounds_toArray, List.set_cons_zero, List.set_cons_succ]
    refine wpAnyH_take (i := 3) (oi := ⟨some 13, _, _, _, _, _⟩) (v := .bool true) rfl (by kernel_rfl) (by kernel_rfl) (by kernel_rfl) (fun _ _ _ h => h) (Or.inl ⟨by rfl, fun w' hw => ?hy⟩) hHeld ?_
    case hy => (try dsimp only at hw); go_simp
    simp only [Act.put, List.setIfInBounds_toArray, List.set_cons_zero, List.set_cons_succ]
    refine wpAnyH_take (i := 4) (oi := ⟨some 14, _, _, _, _, _⟩) (v := undef) rfl (by kernel_rfl) (by kernel_rfl) (by kernel_rfl) (fun _ _ _ h => h) (Or.inr ⟨by rfl, rfl⟩) hHeld ?_
    simp only [Act.put, List.setIfInBounds_toArray, List.set_cons_zero, List.set_cons_succ]
    refine wpAnyH_take (i := 5) (oi := ⟨some 15, _, _, _, _, _⟩) (v := undef) rfl (by kernel_rfl) (by kernel_rfl) (by kernel_rfl) (fun _ _ _ h => h) (Or.inr ⟨by rfl, rfl⟩) hHeld ?_
    simp only [Act.put, List.setIfInBounds_toArray, List.set_cons_zero, List.set_cons_succ]
    refine wpAnyH_take (i := 6) (oi := ⟨some 16, _, _, _, _, _⟩) (v := undef) rfl (by kernel_rfl) (by kernel_rfl) (by kernel_rfl) (fun _ _ _ h => h) (Or.inr ⟨by rfl, rfl⟩) hHeld ?_
    simp only [Act.put, List.setIfInBounds_toArray, List.set_cons_zero, List.set_cons_succ]
    refine wpAnyH_take (i := 7) (oi := ⟨some 17, _, _, _, _, _⟩) (v := undef) rfl (by kernel_rfl) (by kernel_rfl) (by kernel_rfl) (fun _ _ _ h => h) (Or.inr ⟨by rfl, rfl⟩) hHeld ?_
    simp only [Act.put, List.setIfInBounds_toArray, List.set_cons_zero, List.set_cons_succ]
    refine wpAnyH_take (i := 8) (oi := ⟨some 18, _, _, _, _, _⟩) (v := undef) rfl (by kernel_rfl) (by kernel_rfl) (by kernel_rfl) (fun _ _ _ h => h) (Or.inr ⟨by rfl, rfl⟩) hHeld ?_
    simp only [Act.put, List.setIfInBounds_toArray, List.set_cons_zero, List.set_cons_succ]
    refine wpAnyH_take (i := 9) (oi := ⟨some 19, _, _, _, _, _⟩) (v := undef) rfl (by kernel_rfl) (by kernel_rfl) (by kernel_rfl) (fun _ _ _ h => h) (Or.inr ⟨by rfl, rfl⟩) hHeld ?_
    simp only [Act.put, List.setIfInBounds_toArray, List.set_cons_zero, List.set_cons_succ]
    refine wpAnyH_take (i := 10) (oi := ⟨some 20, _, _, _, _, _⟩) (v := undef) rfl (by kernel_rfl) (by kernel_rfl) (by kernel_rfl) (fun _ _ _ h => h) (Or.inr ⟨by rfl, rfl⟩) hHeld ?_
    simp only [Act.put, List.setIfInBounds_toArray, List.set_cons_zero, List.set_cons_succ]
    refine wpAnyH_take (i := 11) (oi := ⟨some 21, _, _, _, _, _⟩) (v := .bool true) rfl (by kernel_rfl) (by kernel_rfl) (by kernel_rfl) (fun _ _ _ h => h) (Or.inl ⟨by rfl, fun w' hw => ?hy⟩) hHeld ?_
    case hy => (try dsimp only at hw); go_simp
    simp only [Act.put, List.setIfInBounds_toArray, List.set_cons_zero, List.set_cons_succ]
    refine wpAnyH_take (i := 12) (oi := ⟨some 22, _, _, _, _, _⟩) (v := .bool true) rfl (by kernel_rfl) (by kernel_rfl) (by kernel_rfl) (fun _ _ _ h => h) (Or.inl ⟨by rfl, fun w' hw => ?hy⟩) hHeld ?_
    case hy => (try dsimp only at hw); go_simp
    simp only [Act.put, List.setIfInBounds_toArray, List.set_cons_zero, List.set_cons_succ]
    refine wpAnyH_take (i := 13) (oi := ⟨some 23, _, _, _, _, _⟩) (v := undef) rfl (by kernel_rfl) (by kernel_rfl) (by kernel_rfl) (fun _ _ _ h => h) (Or.inr ⟨by rfl, rfl⟩) hHeld ?_
    simp only [Act.put, List.setIfInBounds_toArray, List.set_cons_zero, List.set_cons_succ]
    refine wpAnyH_take (i := 14) (oi := ⟨some 24, _, _, _, _, _⟩) (v := undef) rfl (by kernel_rfl) (by kernel_rfl) (by kernel_rfl) (fun _ _ _ h => h) (Or.inr ⟨by rfl, rfl⟩) hHeld ?_
    simp only [Act.put, List.setIfInBounds_toArray, List.set_cons_zero, List.set_cons_succ]
    refine wpAnyH_take (i := 15) (oi := ⟨some 25, _, _, _, _, _⟩) (v := undef) rfl (by kernel_rfl) (by kernel_rfl) (by kernel_rfl) (fun _ _ _ h => h) (Or.inr ⟨by rfl, rfl⟩) hHeld ?_
    simp only [Act.put, List.setIfInBounds_toArray, List.set_cons_zero, List.set_cons_succ]
    refine wpAnyH_take (i := 16) (oi := ⟨some 26, _, _, _, _, _⟩) (v := undef) rfl (by kernel_rfl) (by kernel_rfl) (by kernel_rfl) (fun _ _ _ h => h) (Or.inr ⟨by rfl, rfl⟩) hHeld ?_
    simp only [Act.put, List.setIfInBounds_toArray, List.set_cons_zero, List.set_cons_succ]
    refine wpAnyH_take (i := 17) (oi := ⟨some 27, _, _, _, _, _⟩) (v := undef) rfl (by kernel_rfl) (by kernel_rfl) (by kernel_rfl) (fun _ _ _ h => h) (Or.inr ⟨by rfl, rfl⟩) hHeld ?_
    simp only [Act.put, List.setIfInBounds_toArray, List.set_cons_zero, List.set_cons_succ]
    refine wpAnyH_take (i := 18) (oi := ⟨some 28, _, _, _, _, _⟩) (v := undef) rfl (by kernel_rfl) (by kernel_rfl) (by kernel_rfl) (fun _ _ _ h => h) (Or.inr ⟨by rfl, rfl⟩) hHeld ?_
    simp only [Act.put, List.setIfInBounds_toArray, List.set_cons_zero, List.set_cons_succ]
    refine wpAnyH_take (i := 19) (oi := ⟨some 29, _, _, _, _, _⟩) (v := undef) rfl (by kernel_rfl) (by kernel_rfl) (by kernel_rfl) (fun _ _ _ h => h) (Or.inr ⟨by rfl, rfl⟩) hHeld ?_
    simp only [Act.put, List.setIfInBounds_toArray, List.set_cons_zero, List.set_cons_succ]
    refine wpAnyH_take (i := 20) (oi := ⟨some 30, _, _, _, _, _⟩) (v := undef) rfl (by kernel_rfl) (by kernel_rfl) (by kernel_rfl) (fun _ _ _ h => h) (Or.inr ⟨by rfl, rfl⟩) hHeld ?_
    simp only [Act.put, List.setIfInBounds_toArray, List.set_cons_zero, List.set_cons_succ]
    refine wpAnyH_take (i := 21) (oi := ⟨some 31, _, _, _, _, _⟩) (v := undef) rfl (by kernel_rfl) (by kernel_rfl) (by kernel_rfl) (fun _ _ _ h => h) (Or.inr ⟨by rfl, rfl⟩) hHeld ?_
    simp only [Act.put, List.setIfInBounds_toArray, List.set_cons_zero, List.set_cons_succ]
    refine wpAnyH_take (i := 22) (oi := ⟨some 32, _, _, _, _, _⟩) (v := undef) rfl (by kernel_rfl) (by kernel_rfl) (by kernel_rfl) (fun _ _ _ h => h) (Or.inr ⟨by rfl, rfl⟩) hHeld ?_
    simp only [Act.put, List.setIfInBounds_toArray, List.set_cons_zero, List.set_cons_succ]
    refine wpAnyH_take (i := 23) (oi := ⟨some 33, _, _, _, _, _⟩) (v := undef) rfl (by kernel_rfl) (by kernel_rfl) (by kernel_rfl) (fun _ _ _ h => h) (Or.inr ⟨by rfl, rfl⟩) hHeld ?_
    simp only [Act.put, List.setIfInBounds_toArray, List.set_cons_zero, List.set_cons_succ]
    refine wpAnyH_take (i := 24) (oi := ⟨some 34, _, _, _, _, _⟩) (v := .bool true) rfl (by kernel_rfl) (by kernel_rfl) (by kernel_rfl) (fun _ _ _ h => h) (Or.inl ⟨by rfl, fun w' hw => ?hy⟩) hHeld ?_
    case hy => (try dsimp only at hw); go_simp
    simp only [Act.put, List.setIfInBounds_toArray, List.set_cons_zero, List.set_cons_succ]
    refine wpAnyH_take (i := 25) (oi := ⟨some 35, _, _, _, _, _⟩) (v := .bool true) rfl (by kernel_rfl) (by kernel_rfl) (by kernel_rfl) (fun _ _ _ h => h) (Or.inl ⟨by rfl, fun w' hw => ?hy⟩) hHeld ?_
    case hy => (try dsimp only at hw); go_simp
    simp only [Act.put, List.setIfInBounds_toArray, List.set_cons_zero, List.set_cons_succ]
    refine wpAnyH_take (i := 26) (oi := ⟨some 36, _, _, _, _, _⟩) (v := undef) rfl (by kernel_rfl) (by kernel_rfl) (by kernel_rfl) (fun _ _ _ h => h) (Or.inr ⟨by rfl, rfl⟩) hHeld ?_
    simp only [Act.put, List.setIfInBounds_toArray, List.set_cons_zero, List.set_cons_succ]
    refine wpAnyH_take (i := 27) (oi := ⟨some 37, _, _, _, _, _⟩) (v := undef) rfl (by kernel_rfl) (by kernel_rfl) (by kernel_rfl) (fun _ _ _ h => h) (Or.inr ⟨by rfl, rfl⟩) hHeld ?_
    simp only [Act.put, List.setIfInBounds_toArray, List.set_cons_zero, List.set_cons_succ]
    refine wpAnyH_take (i := 28) (oi := ⟨some 38, _, _, _, _, _⟩) (v := undef) rfl (by kernel_rfl) (by kernel_rfl) (by kernel_rfl) (fun _ _ _ h => h) (Or.inr ⟨by rfl, rfl⟩) hHeld ?_
    simp only [Act.put, List.setIfInBounds_toArray, List.set_cons_zero, List.set_cons_succ]
    refine wpAnyH_take (i := 29) (oi := ⟨some 39, _, _, _, _, _⟩) (v := undef) rfl (by kernel_rfl) (by kernel_rfl) (by kernel_rfl) (fun _ _ _ h => h) (Or.inr ⟨by rfl, rfl⟩) hHeld ?_
    simp only [Act.put, List.setIfInBounds_toArray, List.set_cons_zero, List.set_cons_succ]
    refine wpAnyH_take (i := 30) (oi := ⟨some 40, _, _, _, _, _⟩) (v := .bool true) rfl (by kernel_rfl) (by kernel_rfl) (by kernel_rfl) (fun _ _ _ h => h) (Or.inl ⟨by rfl, fun w' hw => ?hy⟩) hHeld ?_
    case hy => (try dsimp only at hw); go_simp
    simp only [Act.put, List.setIfInBounds_toArray, List.set_cons_zero, List.set_cons_succ]
    refine wpAnyH_done (by kernel_rfl) ?_ _
    have KE := HbS.bel hHeld
    clear hHeld
    go_wp2
    go_ret
    exact ⟨retBo HE.out.symm, KE⟩
  | true =>
  have HNB := Lib.hid hnb
  have h20 := (netB_iff.1 hnb).1
  clear HI1 hnb
  by_cases hzp : zs.length = ps.length
  rotate_left
  · have HE := Lib.hid (HI2.out hzp)
    have hne0 : ((zs.length : Int) == (ps.length : Int)) = false := beq_eq_false_iff_ne.2 (by omega)
    have hne2 : ¬ (zs.length : Int) = (ps.length : Int) := by omega
    have hne1 : (zs.length == ps.length) = false := by simpa using hzp
    clear HI2 HI2' HI3 HI5 HI6 HI7 HYES
    go_enter Try.func15, Try.ntmps15
    go_wp2_with fail
    rw [← HW.out]
    refine wp_region_held_drew (S := (fun w' => HbS w w.heap.size (w.heap.size + 1) (.slice N ps.length cn) (.slice Ar rs.length ca) (.slice R zs.length cr) (.slice B hs.length cb) w')) (by kernel_rfl) ?_ (fun hHeld => ?_)
    · exact T0
    clear T0
    refine wpAnyH_take (i := 0) (oi := ⟨some 10, _, _, _, _, _⟩) (v := .agg #[.slice N ps.length cn, .slice Ar rs.length ca]) rfl (by kernel_rfl) (by kernel_rfl) (by kernel_rfl) (fun _ _ _ h => h) (Or.inl ⟨by rfl, fun w' hw => ?hy⟩) hHeld ?_
    case hy => (try dsimp only at hw); go_simp
    simp only [Act.put, List.setIfInBounds_toArray, List.set_cons_zero, List.set_cons_succ]
    refine wpAnyH_ready (rs := [1]) (by kernel_rfl) (by simp) ?_
    refine AllReadyH.cons (o := ⟨some 11, _, _, _, _, _⟩) rfl (fun K hK => ?_) AllReadyH.nil
    go_simp
    refine (specNetOk_any N Ar cn ca ps rs _ hn hm (hP.below (HbS.bel hHeld)) (hA.below (HbS.bel hHeld))).mono ?_; rw [HNB.out]; rintro e w1 ⟨rfl, b1⟩
    go_wp2_with fail
    refine hK.out _ _ ?_ (fun hHeld => ?_)
    · exact HbS.under b1 hHeld
    clear hK K
    try simp only [Act.put, List.setIfInBounds_toArray, List.set_cons_zero, List.set_cons_succ]
    refine wpAnyH_take (i := 2) (oi := ⟨some 12, _, _, _, _, _⟩) (v := .bool false) rfl (by kernel_rfl) (by kernel_rfl) (by kernel_rfl) (fun _ _ _ h => h) (Or.inl ⟨by rfl, fun w' hw => ?hy⟩) hHeld ?_
    case hy => (try dsimp only at hw); go_simp
    simp only [Act.put, List.setIfInBounds_toArray, List.set_cons_zero, List.set_cons_succ]
    refine wpAnyH_take (i := 3) (oi := ⟨some 13, _, _, _, _, _⟩) (v := .bool false) rfl (by kernel_rfl) (by kernel_rfl) (by kernel_rfl) (fun _ _ _ h => h) (Or.inl ⟨by rfl, fun w' hw => ?hy⟩) hHeld ?_
    case hy => (try dsimp only at hw); go_simp
    simp only [Act.put, List.setIfInBounds_toArray, List.set_cons_zero, List.set_cons_succ]
    refine wpAnyH_take (i := 4) (oi := ⟨some 14, _, _, _, _, _⟩) (v := .pointer (some ⟨w.heap.size + 1, 0, none⟩)) rfl (by kernel_rfl) (by kernel_rfl) (by kernel_rfl) (fun _ _ _ h => h) (Or.inl ⟨by rfl, fun w' hw => ?hy⟩) hHeld ?_
    case hy => (try dsimp only at hw); go_simp
    simp only [Act.put, List.setIfInBounds_toArray, List.set_cons_zero, List.set_cons_succ]
    refine wpAnyH_take (i := 5) (oi := ⟨some 15, _, _, _, _, _⟩) (v := .slice R zs.length cr) rfl (by kernel_rfl) (by kernel_rfl) (by kernel_rfl) (fun _ _ _ h => h) (Or.inl ⟨by rfl, fun w' hw => ?hy⟩) hHeld ?_
    case hy => (try dsimp only at hw); go_simp
    simp only [Act.put, List.setIfInBounds_toArray, List.set_cons_zero, List.set_cons_succ]
    refine wpAnyH_take (i := 6) (oi := ⟨some 16, _, _, _, _, _⟩) (v := .int .i64 (zs.length : Int)) rfl (by kernel_rfl) (by kernel_rfl) (by kernel_rfl) (fun _ _ _ h => h) (Or.inl ⟨by rfl, fun w' hw => ?hy⟩) hHeld ?_
    case hy => (try dsimp only at hw); go_simp
    simp only [Act.put, List.setIfInBounds_toArray, List.set_cons_zero, List.set_cons_succ]
    refine wpAnyH_take (i := 7) (oi := ⟨some 17, _, _, _, _, _⟩) (v := .pointer (some ⟨w.heap.size, 0, none⟩)) rfl (by kernel_rfl) (by kernel_rfl) (by kernel_rfl) (fun _ _ _ h => h) (Or.inl ⟨by rfl, fun w' hw => ?hy⟩) hHeld ?_
    case hy => (try dsimp only at hw); go_simp
    simp only [Act.put, List.setIfInBounds_toArray, List.set_cons_zero, List.set_cons_succ]
    refine wpAnyH_take (i := 8) (oi := ⟨some 18, _, _, _, _, _⟩) (v := .slice N ps.length cn) rfl (by kernel_rfl) (by kernel_rfl) (by kernel_rfl) (fun _ _ _ h => h) (Or.inl ⟨by rfl, fun w' hw => ?hy⟩) hHeld ?_
    case hy => (try dsimp only at hw); go_simp
    simp only [Act.put, List.setIfInBounds_toArray, List.set_cons_zero, List.set_cons_succ]
    refine wpAnyH_take (i := 9) (oi := ⟨some 19, _, _, _, _, _⟩) (v := .int .i64 (ps.length : Int)) rfl (by kernel_rfl) (by kernel_rfl) (by kernel_rfl) (fun _ _ _ h => h) (Or.inl ⟨by rfl, fun w' hw => ?hy⟩) hHeld ?_
    case hy => (try dsimp only at hw); go_simp
    simp only [Act.put, List.setIfInBounds_toArray, List.set_cons_zero, List.set_cons_succ]
    refine wpAnyH_take (i := 10) (oi := ⟨some 20, _, _, _, _, _⟩) (v := .bool true) rfl (by kernel_rfl) (by kernel_rfl) (by kernel_rfl) (fun _ _ _ h => h) (Or.inl ⟨by rfl, fun w' hw => ?hy⟩) hHeld ?_
    case hy => (try dsimp only at hw); go_simp
    simp only [Act.put, List.setIfInBounds_toArray, List.set_cons_zero, List.set_cons_succ]
    refine wpAnyH_take (i := 11) (oi := ⟨some 21, _, _, _, _, _⟩) (v := .bool true) rfl (by kernel_rfl) (by kernel_rfl) (by kernel_rfl) (fun _ _ _ h => h) (Or.inl ⟨by rfl, fun w' hw => ?hy⟩) hHeld ?_
    case hy => (try dsimp only at hw); go_simp
    simp only [Act.put, List.setIfInBounds_toArray, List.set_cons_zero, List.set_cons_succ]
    refine wpAnyH_take (i := 12) (oi := ⟨some 22, _, _, _, _, _⟩) (v := .bool true) rfl (by kernel_rfl) (by kernel_rfl) (by kernel_rfl) (fun _ _ _ h => h) (Or.inl ⟨by rfl, fun w' hw => ?hy⟩) hHeld ?_
    case hy => (try dsimp only at hw); go_simp
    simp only [Act.put, List.setIfInBounds_toArray, List.set_cons_zero, List.set_cons_succ]
    refine wpAnyH_take (i := 13) (oi := ⟨some 23, _, _, _, _, _⟩) (v := undef) rfl (by kernel_rfl) (by kernel_rfl) (by kernel_rfl) (fun _ _ _ h => h) (Or.inr ⟨by rfl, rfl⟩) hHeld ?_
    simp only [Act.put, List.setIfInBounds_toArray, List.set_cons_zero, List.set_cons_succ]
    refine wpAnyH_take (i := 14) (oi := ⟨some 24, _, _, _, _, _⟩) (v := undef) rfl (by kernel_rfl) (by kernel_rfl) (by kernel_rfl) (fun _ _ _ h => h) (Or.inr ⟨by rfl, rfl⟩) hHeld ?_
    simp only [Act.put, List.setIfInBounds_toArray, List.set_cons_zero, List.set_cons_succ]
    refine wpAnyH_take (i := 15) (oi := ⟨some 25, _, _, _, _, _⟩) (v := undef) rfl (by kernel_rfl) (by kernel_rfl) (by kernel_rfl) (fun _ _ _ h => h) (Or.inr ⟨by rfl, rfl⟩) hHeld ?_
    simp only [Act.put, List.setIfInBounds_toArray, List.set_cons_zero, List.set_cons_succ]
    refine wpAnyH_take (i := 16) (oi := ⟨some 26, _, _, _, _, _⟩) (v := undef) rfl (by kernel_rfl) (by kernel_rfl) (by kernel_rfl) (fun _ _ _ h => h) (Or.inr ⟨by rfl, rfl⟩) hHeld ?_
    simp only [Act.put, List.setIfInBounds_toArray, List.set_cons_zero, List.set_cons_succ]
    refine wpAnyH_take (i := 17) (oi := ⟨some 27, _, _, _, _, _⟩) (v := undef) rfl (by kernel_rfl) (by kernel_rfl) (by kernel_rfl) (fun _ _ _ h => h) (Or.inr ⟨by rfl, rfl⟩) hHeld ?_
    simp only [Act.put, List.setIfInBounds_toArray, List.set_cons_zero, List.set_cons_succ]
    refine wpAnyH_take (i := 18) (oi := ⟨some 28, _, _, _, _, _⟩) (v := undef) rfl (by kernel_rfl) (by kernel_rfl) (by kernel_rfl) (fun _ _ _ h => h) (Or.inr ⟨by rfl, rfl⟩) hHeld ?_
    simp only [Act.put, List.setIfInBounds_toArray, List.set_cons_zero, List.set_cons_succ]
    refine wpAnyH_take (i := 19) (oi := ⟨some 29, _, _, _, _, _⟩) (v := undef) rfl (by kernel_rfl) (by kernel_rfl) (by kernel_rfl) (fun _ _ _ h => h) (Or.inr ⟨by rfl, rfl⟩) hHeld ?_
    simp only [Act.put, List.setIfInBounds_toArray, List.set_cons_zero, List.set_cons_succ]
    refine wpAnyH_take (i := 20) (oi := ⟨some 30, _, _, _, _, _⟩) (v := undef) rfl (by kernel_rfl) (by kernel_rfl) (by kernel_rfl) (fun _ _ _ h => h) (Or.inr ⟨by rfl, rfl⟩) hHeld ?_
    simp only [Act.put, List.setIfInBounds_toArray, List.set_cons_zero, List.set_cons_succ]
    refine wpAnyH_take (i := 21) (oi := ⟨some 31, _, _, _, _, _⟩) (v := undef) rfl (by kernel_rfl) (by kernel_rfl) (by kernel_rfl) (fun _ _ _ h => h) (Or.inr ⟨by rfl, rfl⟩) hHeld ?_
    simp only [Act.put, List.setIfInBounds_toArray, List.set_cons_zero, List.set_cons_succ]
    refine wpAnyH_take (i := 22) (oi := ⟨some 32, _, _, _, _, _⟩) (v := undef) rfl (by kernel_rfl) (by kernel_rfl) (by kernel_rfl) (fun _ _ _ h => h) (Or.inr ⟨by rfl, rfl⟩) hHeld ?_
    simp only [Act.put, List.setIfInBounds_toArray, List.set_cons_zero, List.set_cons_succ]
    refine wpAnyH_take (i := 23) (oi := ⟨some 33, _, _, _, _, _⟩) (v := undef) rfl (by kernel_rfl) (by kernel_rfl) (by kernel_rfl) (fun _ _ _ h => h) (Or.inr ⟨by rfl, rfl⟩) hHeld ?_
    simp only [Act.put, List.setIfInBounds_toArray, List.set_cons_zero, List.set_cons_succ]
    refine wpAnyH_take (i := 24) (oi := ⟨some 34, _, _, _, _, _⟩) (v := .bool true) rfl (by kernel_rfl) (by kernel_rfl) (by kernel_rfl) (fun _ _ _ h => h) (Or.inl ⟨by rfl, fun w' hw => ?hy⟩) hHeld ?_
    case hy => (try dsimp only at hw); go_simp
    simp only [Act.put, List.setIfInBounds_toArray, List.set_cons_zero, List.set_cons_succ]
    refine wpAnyH_take (i := 25) (oi := ⟨some 35, _, _, _, _, _⟩) (v := .bool true) rfl (by kernel_rfl) (by kernel_rfl) (by kernel_rfl) (fun _ _ _ h => h) (Or.inl ⟨by rfl, fun w' hw => ?hy⟩) hHeld ?_
    case hy => (try dsimp only at hw); go_simp
    simp only [Act.put, List.setIfInBounds_toArray, List.set_cons_zero, List.set_cons_succ]
    refine wpAnyH_take (i := 26) (oi := ⟨some 36, _, _, _, _, _⟩) (v := undef) rfl (by kernel_rfl) (by kernel_rfl) (by kernel_rfl) (fun _ _ _ h => h) (Or.inr ⟨by rfl, rfl⟩) hHeld ?_
    simp only [Act.put, List.setIfInBounds_toArray, List.set_cons_zero, List.set_cons_succ]
    refine wpAnyH_take (i := 27) (oi := ⟨some 37, _, _, _, _, _⟩) (v := undef) rfl (by kernel_rfl) (by kernel_rfl) (by kernel_rfl) (fun _ _ _ h => h) (Or.inr ⟨by rfl, rfl⟩) hHeld ?_
    simp only [Act.put, List.setIfInBounds_toArray, List.set_cons_zero, List.set_cons_succ]
    refine wpAnyH_take (i := 28) (oi := ⟨some 38, _, _, _, _, _⟩) (v := undef) rfl (by kernel_rfl) (by kernel_rfl) (by kernel_rfl) (fun _ _ _ h => h) (Or.inr ⟨by rfl, rfl⟩) hHeld ?_
    simp only [Act.put, List.setIfInBounds_toArray, List.set_cons_zero, List.set_cons_succ]
    refine wpAnyH_take (i := 29) (oi := ⟨some 39, _, _, _, _, _⟩) (v := undef) rfl (by kernel_rfl) (by kernel_rfl) (by kernel_rfl) (fun _ _ _ h => h) (Or.inr ⟨by rfl, rfl⟩) hHeld ?_
    simp only [Act.put, List.setIfInBounds_toArray, List.set_cons_zero, List.set_cons_succ]
    refine wpAnyH_take (i := 30) (oi := ⟨some 40, _, _, _, _, _⟩) (v := .bool true) rfl (by kernel_rfl) (by kernel_rfl) (by kernel_rfl) (fun _ _ _ h => h) (Or.inl ⟨by rfl, fun w' hw => ?hy⟩) hHeld ?_
    case hy => (try dsimp only at hw); go_simp
    simp only [Act.put, List.setIfInBounds_toArray, List.set_cons_zero, List.set_cons_succ]
    refine wpAnyH_done (by kernel_rfl) ?_ _
    have KE := HbS.bel hHeld
    clear hHeld
    go_wp2
    go_ret
    exact ⟨retBo HE.out.symm, KE⟩
  have hne0 : ((zs.length : Int) == (ps.length : Int)) = true := beq_iff_eq.2 (by omega)
  have hne2 : (zs.length : Int) = (ps.length : Int) := by omega
  have hne1 : (zs.length == ps.length) = true := by simpa using hzp
  have HZP := Lib.hid hzp
  obtain ⟨M, hM⟩ : ∃ M, M = (rkd zs (ps.length : Int)).length := ⟨_, rfl⟩
  have HM := Lib.hid hM.symm
  by_cases hok : okZ zs
  rotate_left
  · have HE := Lib.hid (HI2'.out hok)
    have hM0 : M = 0 := by rw [hM, rkd_no (.inr hok)]; rfl
    have hpp : 0 < ps.length := by
      rcases Nat.eq_zero_or_pos zs.length with h | h
      · exact absurd (fun i hi => by omega) hok
      · omega
    have hm0 : ((M : Int) == (ps.length : Int)) = false := beq_eq_false_iff_ne.2 (by omega)
    have hm2 : ¬ (M : Int) = (ps.length : Int) := by omega
    have hm3 : ¬ M = ps.length := by omega
    have hm1 : (M == ps.length) = false := beq_eq_false_iff_ne.2 (by omega)
    clear HI2 HI2' HI3 HI5 HI6 HI7 HYES hzp hM0 hM hok hpp
    go_enter Try.func15, Try.ntmps15
    go_wp2_with fail
    rw [← HW.out]
    refine wp_region_held_drew (S := (fun w' => HbS w w.heap.size (w.heap.size + 1) (.slice N ps.length cn) (.slice Ar rs.length ca) (.slice R zs.length cr) (.slice B hs.length cb) w')) (by kernel_rfl) ?_ (fun hHeld => ?_)
    · exact T0
    clear T0
    refine wpAnyH_take (i := 0) (oi := ⟨some 10, _, _, _, _, _⟩) (v := .agg #[.slice N ps.length cn, .slice Ar rs.length ca]) rfl (by kernel_rfl) (by kernel_rfl) (by kernel_rfl) (fun _ _ _ h => h) (Or.inl ⟨by rfl, fun w' hw => ?hy⟩) hHeld ?_
    case hy => (try dsimp only at hw); go_simp
    simp only [Act.put, List.setIfInBounds_toArray, List.set_cons_zero, List.set_cons_succ]
    refine wpAnyH_ready (rs := [1]) (by kernel_rfl) (by simp) ?_
    refine AllReadyH.cons (o := ⟨some 11, _, _, _, _, _⟩) rfl (fun K hK => ?_) AllReadyH.nil
    go_simp
    refine (specNetOk_any N Ar cn ca ps rs _ hn hm (hP.below (HbS.bel hHeld)) (hA.below (HbS.bel hHeld))).mono ?_; rw [HNB.out]; rintro e w1 ⟨rfl, b1⟩
    go_wp2_with fail
    refine hK.out _ _ ?_ (fun hHeld => ?_)
    · exact HbS.under b1 hHeld
    clear hK K
    try simp only [Act.put, List.setIfInBounds_toArray, List.set_cons_zero, List.set_cons_succ]
    refine wpAnyH_take (i := 2) (oi := ⟨some 12, _, _, _, _, _⟩) (v := .bool false) rfl (by kernel_rfl) (by kernel_rfl) (by kernel_rfl) (fun _ _ _ h => h) (Or.inl ⟨by rfl, fun w' hw => ?hy⟩) hHeld ?_
    case hy => (try dsimp only at hw); go_simp
    simp only [Act.put, List.setIfInBounds_toArray, List.set_cons_zero, List.set_cons_succ]
    refine wpAnyH_take (i := 3) (oi := ⟨some 13, _, _, _, _, _⟩) (v := .bool false) rfl (by kernel_rfl) (by kernel_rfl) (by kernel_rfl) (fun _ _ _ h => h) (Or.inl ⟨by rfl, fun w' hw => ?hy⟩) hHeld ?_
    case hy => (try dsimp only at hw); go_simp
    simp only [Act.put, List.setIfInBounds_toArray, List.set_cons_zero, List.set_cons_succ]
    refine wpAnyH_take (i := 4) (oi := ⟨some 14, _, _, _, _, _⟩) (v := .pointer (some ⟨w.heap.size + 1, 0, none⟩)) rfl (by kernel_rfl) (by kernel_rfl) (by kernel_rfl) (fun _ _ _ h => h) (Or.inl ⟨by rfl, fun w' hw => ?hy⟩) hHeld ?_
    case hy => (try dsimp only at hw); go_simp
    simp only [Act.put, List.setIfInBounds_toArray, List.set_cons_zero, List.set_cons_succ]
    refine wpAnyH_take (i := 5) (oi := ⟨some 15, _, _, _, _, _⟩) (v := .slice R zs.length cr) rfl (by kernel_rfl) (by kernel_rfl) (by kernel_rfl) (fun _ _ _ h => h) (Or.inl ⟨by rfl, fun w' hw => ?hy⟩) hHeld ?_
    case hy => (try dsimp only at hw); go_simp
    simp only [Act.put, List.setIfInBounds_toArray, List.set_cons_zero, List.set_cons_succ]
    refine wpAnyH_take (i := 6) (oi := ⟨some 16, _, _, _, _, _⟩) (v := .int .i64 (zs.length : Int)) rfl (by kernel_rfl) (by kernel_rfl) (by kernel_rfl) (fun _ _ _ h => h) (Or.inl ⟨by rfl, fun w' hw => ?hy⟩) hHeld ?_
    case hy => (try dsimp only at hw); go_simp
    simp only [Act.put, List.setIfInBounds_toArray, List.set_cons_zero, List.set_cons_succ]
    refine wpAnyH_take (i := 7) (oi := ⟨some 17, _, _, _, _, _⟩) (v := .pointer (some ⟨w.heap.size, 0, none⟩)) rfl (by kernel_rfl) (by kernel_rfl) (by kernel_rfl) (fun _ _ _ h => h) (Or.inl ⟨by rfl, fun w' hw => ?hy⟩) hHeld ?_
    case hy => (try dsimp only at hw); go_simp
    simp only [Act.put, List.setIfInBounds_toArray, List.set_cons_zero, List.set_cons_succ]
    refine wpAnyH_take (i := 8) (oi := ⟨some 18, _, _, _, _, _⟩) (v := .slice N ps.length cn) rfl (by kernel_rfl) (by kernel_rfl) (by kernel_rfl) (fun _ _ _ h => h) (Or.inl ⟨by rfl, fun w' hw => ?hy⟩) hHeld ?_
    case hy => (try dsimp only at hw); go_simp
    simp only [Act.put, List.setIfInBounds_toArray, List.set_cons_zero, List.set_cons_succ]
    refine wpAnyH_take (i := 9) (oi := ⟨some 19, _, _, _, _, _⟩) (v := .int .i64 (ps.length : Int)) rfl (by kernel_rfl) (by kernel_rfl) (by kernel_rfl) (fun _ _ _ h => h) (Or.inl ⟨by rfl, fun w' hw => ?hy⟩) hHeld ?_
    case hy => (try dsimp only at hw); go_simp
    simp only [Act.put, List.setIfInBounds_toArray, List.set_cons_zero, List.set_cons_succ]
    refine wpAnyH_take (i := 10) (oi := ⟨some 20, _, _, _, _, _⟩) (v := .bool false) rfl (by kernel_rfl) (by kernel_rfl) (by kernel_rfl) (fun _ _ _ h => h) (Or.inl ⟨by rfl, fun w' hw => ?hy⟩) hHeld ?_
    case hy => (try dsimp only at hw); go_simp
    simp only [Act.put, List.setIfInBounds_toArray, List.set_cons_zero, List.set_cons_succ]
    refine wpAnyH_take (i := 11) (oi := ⟨some 21, _, _, _, _, _⟩) (v := .bool false) rfl (by kernel_rfl) (by kernel_rfl) (by kernel_rfl) (fun _ _ _ h => h) (Or.inl ⟨by rfl, fun w' hw => ?hy⟩) hHeld ?_
    case hy => (try dsimp only at hw); go_simp
    simp only [Act.put, List.setIfInBounds_toArray, List.set_cons_zero, List.set_cons_succ]
    refine wpAnyH_take (i := 12) (oi := ⟨some 22, _, _, _, _, _⟩) (v := .bool false) rfl (by kernel_rfl) (by kernel_rfl) (by kernel_rfl) (fun _ _ _ h => h) (Or.inl ⟨by rfl, fun w' hw => ?hy⟩) hHeld ?_
    case hy => (try dsimp only at hw); go_simp
    simp only [Act.put, List.setIfInBounds_toArray, List.set_cons_zero, List.set_cons_succ]
    refine wpAnyH_take (i := 13) (oi := ⟨some 23, _, _, _, _, _⟩) (v := .pointer (some ⟨w.heap.size + 1, 0, none⟩)) rfl (by kernel_rfl) (by kernel_rfl) (by kernel_rfl) (fun _ _ _ h => h) (Or.inl ⟨by rfl, fun w' hw => ?hy⟩) hHeld ?_
    case hy => (try dsimp only at hw); go_simp
    simp only [Act.put, List.setIfInBounds_toArray, List.set_cons_zero, List.set_cons_succ]
    refine wpAnyH_take (i := 14) (oi := ⟨some 24, _, _, _, _, _⟩) (v := .slice R zs.length cr) rfl (by kernel_rfl) (by kernel_rfl) (by kernel_rfl) (fun _ _ _ h => h) (Or.inl ⟨by rfl, fun w' hw => ?hy⟩) hHeld ?_
    case hy => (try dsimp only at hw); go_simp
    simp only [Act.put, List.setIfInBounds_toArray, List.set_cons_zero, List.set_cons_succ]
    refine wpAnyH_take (i := 15) (oi := ⟨some 25, _, _, _, _, _⟩) (v := .pointer (some ⟨w.heap.size, 0, none⟩)) rfl (by kernel_rfl) (by kernel_rfl) (by kernel_rfl) (fun _ _ _ h => h) (Or.inl ⟨by rfl, fun w' hw => ?hy⟩) hHeld ?_
    case hy => (try dsimp only at hw); go_simp
    simp only [Act.put, List.setIfInBounds_toArray, List.set_cons_zero, List.set_cons_succ]
    refine wpAnyH_take (i := 16) (oi := ⟨some 26, _, _, _, _, _⟩) (v := .slice N ps.length cn) rfl (by kernel_rfl) (by kernel_rfl) (by kernel_rfl) (fun _ _ _ h => h) (Or.inl ⟨by rfl, fun w' hw => ?hy⟩) hHeld ?_
    case hy => (try dsimp only at hw); go_simp
    simp only [Act.put, List.setIfInBounds_toArray, List.set_cons_zero, List.set_cons_succ]
    refine wpAnyH_take (i := 17) (oi := ⟨some 27, _, _, _, _, _⟩) (v := .int .i64 (ps.length : Int)) rfl (by kernel_rfl) (by kernel_rfl) (by kernel_rfl) (fun _ _ _ h => h) (Or.inl ⟨by rfl, fun w' hw => ?hy⟩) hHeld ?_
    case hy => (try dsimp only at hw); go_simp
    simp only [Act.put, List.setIfInBounds_toArray, List.set_cons_zero, List.set_cons_succ]
    refine wpAnyH_take (i := 20) (oi := ⟨some 30, _, _, _, _, _⟩) (v := .pointer (some ⟨w.heap.size, 0, none⟩)) rfl (by kernel_rfl) (by kernel_rfl) (by kernel_rfl) (fun _ _ _ h => h) (Or.inl ⟨by rfl, fun w' hw => ?hy⟩) hHeld ?_
    case hy => (try dsimp only at hw); go_simp
    simp only [Act.put, List.setIfInBounds_toArray, List.set_cons_zero, List.set_cons_succ]
    refine wpAnyH_take (i := 21) (oi := ⟨some 31, _, _, _, _, _⟩) (v := .slice N ps.length cn) rfl (by kernel_rfl) (by kernel_rfl) (by kernel_rfl) (fun _ _ _ h => h) (Or.inl ⟨by rfl, fun w' hw => ?hy⟩) hHeld ?_
    case hy => (try dsimp only at hw); go_simp
    simp only [Act.put, List.setIfInBounds_toArray, List.set_cons_zero, List.set_cons_succ]
    refine wpAnyH_take (i := 22) (oi := ⟨some 32, _, _, _, _, _⟩) (v := .int .i64 (ps.length : Int)) rfl (by kernel_rfl) (by kernel_rfl) (by kernel_rfl) (fun _ _ _ h => h) (Or.inl ⟨by rfl, fun w' hw => ?hy⟩) hHeld ?_
    case hy => (try dsimp only at hw); go_simp
    simp only [Act.put, List.setIfInBounds_toArray, List.set_cons_zero, List.set_cons_succ]
    refine wpAnyH_ready (rs := [18]) (by kernel_rfl) (by simp) ?_
    refine AllReadyH.cons (o := ⟨some 28, _, _, _, _, _⟩) rfl (fun K hK => ?_) AllReadyH.nil
    go_simp
    refine (specRanked_any R cr zs (ps.length : Int) _ hz (hR.below (HbS.bel hHeld))).mono ?_; rintro e w2 ⟨A2, c2, rfl, -, -, b2⟩
    rw [HM.out]
    go_wp2_with fail
    refine hK.out _ _ ?_ (fun hHeld => ?_)
    · exact HbS.under b2 hHeld
    clear hK K
    try simp only [Act.put, List.setIfInBounds_toArray, List.set_cons_zero, List.set_cons_succ]
    refine wpAnyH_take (i := 19) (oi := ⟨some 29, _, _, _, _, _⟩) (v := .int .i64 (M : Int)) rfl (by kernel_rfl) (by kernel_rfl) (by kernel_rfl) (fun _ _ _ h => h) (Or.inl ⟨by rfl, fun w' hw => ?hy⟩) hHeld ?_
    case hy => (try dsimp only at hw); go_simp
    simp only [Act.put, List.setIfInBounds_toArray, List.set_cons_zero, List.set_cons_succ]
    refine wpAnyH_take (i := 23) (oi := ⟨some 33, _, _, _, _, _⟩) (v := .bool true) rfl (by kernel_rfl) (by kernel_rfl) (by kernel_rfl) (fun _ _ _ h => h) (Or.inl ⟨by rfl, fun w' hw => ?hy⟩) hHeld ?_
    case hy => (try dsimp only at hw); go_simp
    simp only [Act.put, List.setIfInBounds_toArray, List.set_cons_zero, List.set_cons_succ]
    refine wpAnyH_take (i := 24) (oi := ⟨some 34, _, _, _, _, _⟩) (v := .bool true) rfl (by kernel_rfl) (by kernel_rfl) (by kernel_rfl) (fun _ _ _ h => h) (Or.inl ⟨by rfl, fun w' hw => ?hy⟩) hHeld ?_
    case hy => (try dsimp only at hw); go_simp
    simp only [Act.put, List.setIfInBounds_toArray, List.set_cons_zero, List.set_cons_succ]
    refine wpAnyH_take (i := 25) (oi := ⟨some 35, _, _, _, _, _⟩) (v := .bool true) rfl (by kernel_rfl) (by kernel_rfl) (by kernel_rfl) (fun _ _ _ h => h) (Or.inl ⟨by rfl, fun w' hw => ?hy⟩) hHeld ?_
    case hy => (try dsimp only at hw); go_simp
    simp only [Act.put, List.setIfInBounds_toArray, List.set_cons_zero, List.set_cons_succ]
    refine wpAnyH_take (i := 26) (oi := ⟨some 36, _, _, _, _, _⟩) (v := undef) rfl (by kernel_rfl) (by kernel_rfl) (by kernel_rfl) (fun _ _ _ h => h) (Or.inr ⟨by rfl, rfl⟩) hHeld ?_
    simp only [Act.put, List.setIfInBounds_toArray, List.set_cons_zero, List.set_cons_succ]
    refine wpAnyH_take (i := 27) (oi := ⟨some 37, _, _, _, _, _⟩) (v := undef) rfl (by kernel_rfl) (by kernel_rfl) (by kernel_rfl) (fun _ _ _ h => h) (Or.inr ⟨by rfl, rfl⟩) hHeld ?_
    simp only [Act.put, List.setIfInBounds_toArray, List.set_cons_zero, List.set_cons_succ]
    refine wpAnyH_take (i := 28) (oi := ⟨some 38, _, _, _, _, _⟩) (v := undef) rfl (by kernel_rfl) (by kernel_rfl) (by kernel_rfl) (fun _ _ _ h => h) (Or.inr ⟨by rfl, rfl⟩) hHeld ?_
    simp only [Act.put, List.setIfInBounds_toArray, List.set_cons_zero, List.set_cons_succ]
    refine wpAnyH_take (i := 29) (oi := ⟨some 39, _, _, _, _, _⟩) (v := undef) rfl (by kernel_rfl) (by kernel_rfl) (by kernel_rfl) (fun _ _ _ h => h) (Or.inr ⟨by rfl, rfl⟩) hHeld ?_
    simp only [Act.put, List.setIfInBounds_toArray, List.set_cons_zero, List.set_cons_succ]
    refine wpAnyH_take (i := 30) (oi := ⟨some 40, _, _, _, _, _⟩) (v := .bool true) rfl (by kernel_rfl) (by kernel_rfl) (by kernel_rfl) (fun _ _ _ h => h) (Or.inl ⟨by rfl, fun w' hw => ?hy⟩) hHeld ?_
    case hy => (try dsimp only at hw); go_simp
    simp only [Act.put, List.setIfInBounds_toArray, List.set_cons_zero, List.set_cons_succ]
    refine wpAnyH_done (by kernel_rfl) ?_ _
    have KE := HbS.bel hHeld
    clear hHeld
    go_wp2
    go_ret
    exact ⟨retBo HE.out.symm, KE⟩
  have hMp : M = ps.length := by rw [hM, ← hzp, rkd_yes hok, rowZ_len]
  have hm0 : ((M : Int) == (ps.length : Int)) = true := beq_iff_eq.2 (by omega)
  have hm2 : (M : Int) = (ps.length : Int) := by omega
  have hm1 : (M == ps.length) = true := by simpa using hMp
  have HOK := Lib.hid hok
  clear HI2 HI2' hzp hok hM hMp
  by_cases h4 : 400 < hs.length
  · have hd : decide ((400 : Int) < hs.length) = true := decide_eq_true (by omega)
    have hd' : (400 : Int) < hs.length := by omega
    have HE := Lib.hid (HI3.out h4)
    clear HI3 HI5 HI6 HI7 HYES
    go_enter Try.func15, Try.ntmps15
    go_wp2_with fail
    rw [← HW.out]
    refine wp_region_held_drew (S := (fun w' => HbS w w.heap.size (w.heap.size + 1) (.slice N ps.length cn) (.slice Ar rs.length ca) (.slice R zs.length cr) (.slice B hs.length cb) w')) (by kernel_rfl) ?_ (fun hHeld => ?_)
    · exact T0
    clear T0
    refine wpAnyH_take (i := 0) (oi := ⟨some 10, _, _, _, _, _⟩) (v := .agg #[.slice N ps.length cn, .slice Ar rs.length ca]) rfl (by kernel_rfl) (by kernel_rfl) (by kernel_rfl) (fun _ _ _ h => h) (Or.inl ⟨by rfl, fun w' hw => ?hy⟩) hHeld ?_
    case hy => (try dsimp only at hw); go_simp
    simp only [Act.put, List.setIfInBounds_toArray, List.set_cons_zero, List.set_cons_succ]
    refine wpAnyH_ready (rs := [1]) (by kernel_rfl) (by simp) ?_
    refine AllReadyH.cons (o := ⟨some 11, _, _, _, _, _⟩) rfl (fun K hK => ?_) AllReadyH.nil
    go_simp
    refine (specNetOk_any N Ar cn ca ps rs _ hn hm (hP.below (HbS.bel hHeld)) (hA.below (HbS.bel hHeld))).mono ?_; rw [HNB.out]; rintro e w1 ⟨rfl, b1⟩
    go_wp2_with fail
    refine hK.out _ _ ?_ (fun hHeld => ?_)
    · exact HbS.under b1 hHeld
    clear hK K
    try simp only [Act.put, List.setIfInBounds_toArray, List.set_cons_zero, List.set_cons_succ]
    refine wpAnyH_take (i := 2) (oi := ⟨some 12, _, _, _, _, _⟩) (v := .bool false) rfl (by kernel_rfl) (by kernel_rfl) (by kernel_rfl) (fun _ _ _ h => h) (Or.inl ⟨by rfl, fun w' hw => ?hy⟩) hHeld ?_
    case hy => (try dsimp only at hw); go_simp
    simp only [Act.put, List.setIfInBounds_toArray, List.set_cons_zero, List.set_cons_succ]
    refine wpAnyH_take (i := 3) (oi := ⟨some 13, _, _, _, _, _⟩) (v := .bool false) rfl (by kernel_rfl) (by kernel_rfl) (by kernel_rfl) (fun _ _ _ h => h) (Or.inl ⟨by rfl, fun w' hw => ?hy⟩) hHeld ?_
    case hy => (try dsimp only at hw); go_simp
    simp only [Act.put, List.setIfInBounds_toArray, List.set_cons_zero, List.set_cons_succ]
    refine wpAnyH_take (i := 4) (oi := ⟨some 14, _, _, _, _, _⟩) (v := .pointer (some ⟨w.heap.size + 1, 0, none⟩)) rfl (by kernel_rfl) (by kernel_rfl) (by kernel_rfl) (fun _ _ _ h => h) (Or.inl ⟨by rfl, fun w' hw => ?hy⟩) hHeld ?_
    case hy => (try dsimp only at hw); go_simp
    simp only [Act.put, List.setIfInBounds_toArray, List.set_cons_zero, List.set_cons_succ]
    refine wpAnyH_take (i := 5) (oi := ⟨some 15, _, _, _, _, _⟩) (v := .slice R zs.length cr) rfl (by kernel_rfl) (by kernel_rfl) (by kernel_rfl) (fun _ _ _ h => h) (Or.inl ⟨by rfl, fun w' hw => ?hy⟩) hHeld ?_
    case hy => (try dsimp only at hw); go_simp
    simp only [Act.put, List.setIfInBounds_toArray, List.set_cons_zero, List.set_cons_succ]
    refine wpAnyH_take (i := 6) (oi := ⟨some 16, _, _, _, _, _⟩) (v := .int .i64 (zs.length : Int)) rfl (by kernel_rfl) (by kernel_rfl) (by kernel_rfl) (fun _ _ _ h => h) (Or.inl ⟨by rfl, fun w' hw => ?hy⟩) hHeld ?_
    case hy => (try dsimp only at hw); go_simp
    simp only [Act.put, List.setIfInBounds_toArray, List.set_cons_zero, List.set_cons_succ]
    refine wpAnyH_take (i := 7) (oi := ⟨some 17, _, _, _, _, _⟩) (v := .pointer (some ⟨w.heap.size, 0, none⟩)) rfl (by kernel_rfl) (by kernel_rfl) (by kernel_rfl) (fun _ _ _ h => h) (Or.inl ⟨by rfl, fun w' hw => ?hy⟩) hHeld ?_
    case hy => (try dsimp only at hw); go_simp
    simp only [Act.put, List.setIfInBounds_toArray, List.set_cons_zero, List.set_cons_succ]
    refine wpAnyH_take (i := 8) (oi := ⟨some 18, _, _, _, _, _⟩) (v := .slice N ps.length cn) rfl (by kernel_rfl) (by kernel_rfl) (by kernel_rfl) (fun _ _ _ h => h) (Or.inl ⟨by rfl, fun w' hw => ?hy⟩) hHeld ?_
    case hy => (try dsimp only at hw); go_simp
    simp only [Act.put, List.setIfInBounds_toArray, List.set_cons_zero, List.set_cons_succ]
    refine wpAnyH_take (i := 9) (oi := ⟨some 19, _, _, _, _, _⟩) (v := .int .i64 (ps.length : Int)) rfl (by kernel_rfl) (by kernel_rfl) (by kernel_rfl) (fun _ _ _ h => h) (Or.inl ⟨by rfl, fun w' hw => ?hy⟩) hHeld ?_
    case hy => (try dsimp only at hw); go_simp
    simp only [Act.put, List.setIfInBounds_toArray, List.set_cons_zero, List.set_cons_succ]
    refine wpAnyH_take (i := 10) (oi := ⟨some 20, _, _, _, _, _⟩) (v := .bool false) rfl (by kernel_rfl) (by kernel_rfl) (by kernel_rfl) (fun _ _ _ h => h) (Or.inl ⟨by rfl, fun w' hw => ?hy⟩) hHeld ?_
    case hy => (try dsimp only at hw); go_simp
    simp only [Act.put, List.setIfInBounds_toArray, List.set_cons_zero, List.set_cons_succ]
    refine wpAnyH_take (i := 11) (oi := ⟨some 21, _, _, _, _, _⟩) (v := .bool false) rfl (by kernel_rfl) (by kernel_rfl) (by kernel_rfl) (fun _ _ _ h => h) (Or.inl ⟨by rfl, fun w' hw => ?hy⟩) hHeld ?_
    case hy => (try dsimp only at hw); go_simp
    simp only [Act.put, List.setIfInBounds_toArray, List.set_cons_zero, List.set_cons_succ]
    refine wpAnyH_take (i := 12) (oi := ⟨some 22, _, _, _, _, _⟩) (v := .bool false) rfl (by kernel_rfl) (by kernel_rfl) (by kernel_rfl) (fun _ _ _ h => h) (Or.inl ⟨by rfl, fun w' hw => ?hy⟩) hHeld ?_
    case hy => (try dsimp only at hw); go_simp
    simp only [Act.put, List.setIfInBounds_toArray, List.set_cons_zero, List.set_cons_succ]
    refine wpAnyH_take (i := 13) (oi := ⟨some 23, _, _, _, _, _⟩) (v := .pointer (some ⟨w.heap.size + 1, 0, none⟩)) rfl (by kernel_rfl) (by kernel_rfl) (by kernel_rfl) (fun _ _ _ h => h) (Or.inl ⟨by rfl, fun w' hw => ?hy⟩) hHeld ?_
    case hy => (try dsimp only at hw); go_simp
    simp only [Act.put, List.setIfInBounds_toArray, List.set_cons_zero, List.set_cons_succ]
    refine wpAnyH_take (i := 14) (oi := ⟨some 24, _, _, _, _, _⟩) (v := .slice R zs.length cr) rfl (by kernel_rfl) (by kernel_rfl) (by kernel_rfl) (fun _ _ _ h => h) (Or.inl ⟨by rfl, fun w' hw => ?hy⟩) hHeld ?_
    case hy => (try dsimp only at hw); go_simp
    simp only [Act.put, List.setIfInBounds_toArray, List.set_cons_zero, List.set_cons_succ]
    refine wpAnyH_take (i := 15) (oi := ⟨some 25, _, _, _, _, _⟩) (v := .pointer (some ⟨w.heap.size, 0, none⟩)) rfl (by kernel_rfl) (by kernel_rfl) (by kernel_rfl) (fun _ _ _ h => h) (Or.inl ⟨by rfl, fun w' hw => ?hy⟩) hHeld ?_
    case hy => (try dsimp only at hw); go_simp
    simp only [Act.put, List.setIfInBounds_toArray, List.set_cons_zero, List.set_cons_succ]
    refine wpAnyH_take (i := 16) (oi := ⟨some 26, _, _, _, _, _⟩) (v := .slice N ps.length cn) rfl (by kernel_rfl) (by kernel_rfl) (by kernel_rfl) (fun _ _ _ h => h) (Or.inl ⟨by rfl, fun w' hw => ?hy⟩) hHeld ?_
    case hy => (try dsimp only at hw); go_simp
    simp only [Act.put, List.setIfInBounds_toArray, List.set_cons_zero, List.set_cons_succ]
    refine wpAnyH_take (i := 17) (oi := ⟨some 27, _, _, _, _, _⟩) (v := .int .i64 (ps.length : Int)) rfl (by kernel_rfl) (by kernel_rfl) (by kernel_rfl) (fun _ _ _ h => h) (Or.inl ⟨by rfl, fun w' hw => ?hy⟩) hHeld ?_
    case hy => (try dsimp only at hw); go_simp
    simp only [Act.put, List.setIfInBounds_toArray, List.set_cons_zero, List.set_cons_succ]
    refine wpAnyH_take (i := 20) (oi := ⟨some 30, _, _, _, _, _⟩) (v := .pointer (some ⟨w.heap.size, 0, none⟩)) rfl (by kernel_rfl) (by kernel_rfl) (by kernel_rfl) (fun _ _ _ h => h) (Or.inl ⟨by rfl, fun w' hw => ?hy⟩) hHeld ?_
    case hy => (try dsimp only at hw); go_simp
    simp only [Act.put, List.setIfInBounds_toArray, List.set_cons_zero, List.set_cons_succ]
    refine wpAnyH_take (i := 21) (oi := ⟨some 31, _, _, _, _, _⟩) (v := .slice N ps.length cn) rfl (by kernel_rfl) (by kernel_rfl) (by kernel_rfl) (fun _ _ _ h => h) (Or.inl ⟨by rfl, fun w' hw => ?hy⟩) hHeld ?_
    case hy => (try dsimp only at hw); go_simp
    simp only [Act.put, List.setIfInBounds_toArray, List.set_cons_zero, List.set_cons_succ]
    refine wpAnyH_take (i := 22) (oi := ⟨some 32, _, _, _, _, _⟩) (v := .int .i64 (ps.length : Int)) rfl (by kernel_rfl) (by kernel_rfl) (by kernel_rfl) (fun _ _ _ h => h) (Or.inl ⟨by rfl, fun w' hw => ?hy⟩) hHeld ?_
    case hy => (try dsimp only at hw); go_simp
    simp only [Act.put, List.setIfInBounds_toArray, List.set_cons_zero, List.set_cons_succ]
    refine wpAnyH_ready (rs := [18]) (by kernel_rfl) (by simp) ?_
    refine AllReadyH.cons (o := ⟨some 28, _, _, _, _, _⟩) rfl (fun K hK => ?_) AllReadyH.nil
    go_simp
    refine (specRanked_any R cr zs (ps.length : Int) _ hz (hR.below (HbS.bel hHeld))).mono ?_; rintro e w2 ⟨A2, c2, rfl, -, -, b2⟩
    rw [HM.out]
    go_wp2_with fail
    refine hK.out _ _ ?_ (fun hHeld => ?_)
    · exact HbS.under b2 hHeld
    clear hK K
    try simp only [Act.put, List.setIfInBounds_toArray, List.set_cons_zero, List.set_cons_succ]
    refine wpAnyH_take (i := 19) (oi := ⟨some 29, _, _, _, _, _⟩) (v := .int .i64 (M : Int)) rfl (by kernel_rfl) (by kernel_rfl) (by kernel_rfl) (fun _ _ _ h => h) (Or.inl ⟨by rfl, fun w' hw => ?hy⟩) hHeld ?_
    case hy => (try dsimp only at hw); go_simp
    simp only [Act.put, List.setIfInBounds_toArray, List.set_cons_zero, List.set_cons_succ]
    refine wpAnyH_take (i := 23) (oi := ⟨some 33, _, _, _, _, _⟩) (v := .bool false) rfl (by kernel_rfl) (by kernel_rfl) (by kernel_rfl) (fun _ _ _ h => h) (Or.inl ⟨by rfl, fun w' hw => ?hy⟩) hHeld ?_
    case hy => (try dsimp only at hw); go_simp
    simp only [Act.put, List.setIfInBounds_toArray, List.set_cons_zero, List.set_cons_succ]
    refine wpAnyH_take (i := 24) (oi := ⟨some 34, _, _, _, _, _⟩) (v := .bool false) rfl (by kernel_rfl) (by kernel_rfl) (by kernel_rfl) (fun _ _ _ h => h) (Or.inl ⟨by rfl, fun w' hw => ?hy⟩) hHeld ?_
    case hy => (try dsimp only at hw); go_simp
    simp only [Act.put, List.setIfInBounds_toArray, List.set_cons_zero, List.set_cons_succ]
    refine wpAnyH_take (i := 25) (oi := ⟨some 35, _, _, _, _, _⟩) (v := .bool false) rfl (by kernel_rfl) (by kernel_rfl) (by kernel_rfl) (fun _ _ _ h => h) (Or.inl ⟨by rfl, fun w' hw => ?hy⟩) hHeld ?_
    case hy => (try dsimp only at hw); go_simp
    simp only [Act.put, List.setIfInBounds_toArray, List.set_cons_zero, List.set_cons_succ]
    refine wpAnyH_take (i := 26) (oi := ⟨some 36, _, _, _, _, _⟩) (v := .pointer (some ⟨w.heap.size + 1, 1, none⟩)) rfl (by kernel_rfl) (by kernel_rfl) (by kernel_rfl) (fun _ _ _ h => h) (Or.inl ⟨by rfl, fun w' hw => ?hy⟩) hHeld ?_
    case hy => (try dsimp only at hw); go_simp
    simp only [Act.put, List.setIfInBounds_toArray, List.set_cons_zero, List.set_cons_succ]
    refine wpAnyH_take (i := 27) (oi := ⟨some 37, _, _, _, _, _⟩) (v := .slice B hs.length cb) rfl (by kernel_rfl) (by kernel_rfl) (by kernel_rfl) (fun _ _ _ h => h) (Or.inl ⟨by rfl, fun w' hw => ?hy⟩) hHeld ?_
    case hy => (try dsimp only at hw); go_simp
    simp only [Act.put, List.setIfInBounds_toArray, List.set_cons_zero, List.set_cons_succ]
    refine wpAnyH_take (i := 28) (oi := ⟨some 38, _, _, _, _, _⟩) (v := .int .i64 (hs.length : Int)) rfl (by kernel_rfl) (by kernel_rfl) (by kernel_rfl) (fun _ _ _ h => h) (Or.inl ⟨by rfl, fun w' hw => ?hy⟩) hHeld ?_
    case hy => (try dsimp only at hw); go_simp
    simp only [Act.put, List.setIfInBounds_toArray, List.set_cons_zero, List.set_cons_succ]
    refine wpAnyH_take (i := 29) (oi := ⟨some 39, _, _, _, _, _⟩) (v := .bool true) rfl (by kernel_rfl) (by kernel_rfl) (by kernel_rfl) (fun _ _ _ h => h) (Or.inl ⟨by rfl, fun w' hw => ?hy⟩) hHeld ?_
    case hy => (try dsimp only at hw); go_simp
    simp only [Act.put, List.setIfInBounds_toArray, List.set_cons_zero, List.set_cons_succ]
    refine wpAnyH_take (i := 30) (oi := ⟨some 40, _, _, _, _, _⟩) (v := .bool true) rfl (by kernel_rfl) (by kernel_rfl) (by kernel_rfl) (fun _ _ _ h => h) (Or.inl ⟨by rfl, fun w' hw => ?hy⟩) hHeld ?_
    case hy => (try dsimp only at hw); go_simp
    simp only [Act.put, List.setIfInBounds_toArray, List.set_cons_zero, List.set_cons_succ]
    refine wpAnyH_done (by kernel_rfl) ?_ _
    have KE := HbS.bel hHeld
    clear hHeld
    go_wp2
    go_ret
    exact ⟨retBo HE.out.symm, KE⟩
  exact absurd hbad (by rw [HNB.out]; simp; exact ⟨HZP.out, HOK.out, by omega⟩)

end Go.Proofs.Ytagaildnfbegkaa
