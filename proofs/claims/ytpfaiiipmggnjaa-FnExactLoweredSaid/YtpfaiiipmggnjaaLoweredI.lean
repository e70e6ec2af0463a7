/-
  What impl.Lowered computes.
-/
import Derived.Test.YtpfaiiipmggnjaaLowered
namespace Go.Proofs.Ytpfaiiipmggnjaa
open Go.RowKit Go.Deep

theorem IsArcs.news' {w : World} {ad : Addr} {rs : List A3} (h : IsArcs w (some ad) rs) : ∀ j u, (cellsA rs)[j]? = some u → w.cell? (ad.add j) = some u := by
  intro j u hj
  have hjn : j < rs.length * 3 := by have := (List.getElem?_eq_some_iff.1 hj).1; rwa [cellsA_len] at this
  obtain ⟨b, off, hA, -, -⟩ := h (by omega)
  injection hA with hA
  subst hA
  have := IsArcs.news h 0 rs.length (by omega) j u (by simpa using hj)
  simpa using this
set_option maxHeartbeats 2000000 in
theorem cloneArcs_some (ad : Addr) (c : Nat) (rs : List A3) (w : World) (hbig : rs.length ≤ 1048576) (hc : IsArcs w (some ad) rs) :
    Calls Try.prog 89 #[.slice (some ad) rs.length c] w fun e w' => ∃ v', e = .returned v' ∧ w'.ownsRow w.heap.size 92 3 v' rs.length (cellsA rs) ∧ Below w.heap.size w w' := by
  obtain ⟨i0, hi, hz0, hz1, hz2⟩ := info_parts Try.infoArc
  have q22 : ∀ (w : World) (a : Option Addr) (n c n' c' : Nat), (binOp .eql 25 (.slice a n c) (.slice none n' c')).run Try.prog w = .ok (.bool a.isNone) w := fun w a n c n' c' => Lib.run_eql_slice_nil w _ _ a n c n' c' Try.underlying25
  have HC := Lib.hid (hc.below (below1 w (.cells #[] 92))).news'
  clear hc
  go_enter Try.func89, Try.ntmps89
  go_wp2_with (at_builtin; refine wpList_append_own _ rfl _ _ 25 rfl w.heap.size 92 i0 (.agg #[.int .i64 0, .int .i64 0, .int .i64 0]) 3 24 Try.underlying25 hi hz0 hz1 hz2 rfl (by decide) _ _ _ rfl (World.ownsRow_made w #[] 0 (Nat.le_refl _) (Nat.zero_le _) rfl) ad rs.length c (cellsA rs) rfl ?qc1 ?qc2 ?qc3 ?qc4 ?qc5 ?qc6 ?_)
  case qc1 => exact cellsA_len _
  case qc2 => exact HC.out
  case qc3 => exact cellsA_one _
  case qc4 => unfold maxLen; omega
  case qc5 => omega
  case qc6 => simp
  intro v' w1 hown hgrow _
  go_wp2
  go_ret
  exact ⟨v', rfl, by simpa using hown, ((Below.refl _ w).alloc (Nat.le_refl _) _).grown hgrow (by simp) (by intro k hk; simp [Value.ownBlock] at hk; omega)⟩
theorem cloneArcs_none (m c : Nat) (w : World) :
    Calls Try.prog 89 #[.slice none m c] w fun e w' => e = .returned (.slice none 0 0) ∧ w = w' := by
  have q22 : ∀ (w : World) (a : Option Addr) (n c n' c' : Nat), (binOp .eql 25 (.slice a n c) (.slice none n' c')).run Try.prog w = .ok (.bool a.isNone) w := fun w a n c n' c' => Lib.run_eql_slice_nil w _ _ a n c n' c' Try.underlying25
  go_enter Try.func89, Try.ntmps89
  go_wp2
  go_ret
  exact ⟨rfl, rfl⟩
theorem cloneArcs_any (A : Option Addr) (c : Nat) (rs : List A3) (w : World) (hbig : rs.length ≤ 1048576) (hc : IsArcs w A rs) :
    Calls Try.prog 89 #[.slice A rs.length c] w fun e w' => ∃ g cap, e = .returned (.slice g rs.length cap) ∧ OwnSl w' w.heap.size 92 g (rs.length * 3) (flatA rs) ∧ Below w.heap.size w w' := by
  cases A with
  | none =>
    have h0 : rs.length = 0 := by
      rcases Nat.eq_zero_or_pos rs.length with h | h
      · exact h
      · obtain ⟨b, off, e, -⟩ := hc h; cases e
    refine (cloneArcs_none _ c w).mono ?_
    rintro e w' ⟨rfl, rfl⟩
    exact ⟨none, 0, by rw [h0], fun hp => by omega, Below.refl _ _⟩
  | some ad =>
    refine (cloneArcs_some ad c rs w hbig hc).mono ?_
    rintro e w' ⟨v', rfl, own, b⟩
    obtain ⟨A, cap, rfl, -, -, hA⟩ := ownA_is own
    exact ⟨A, cap, rfl, fun hp => by obtain ⟨g, h1, h2, h3⟩ := hA (by omega); exact ⟨g, 0, h1, h2, h3⟩, b⟩
theorem clonePts_own (ad : Addr) (c : Nat) (ps : List (Int × Int)) (w : World) (hbig : ps.length ≤ 1048576) (hc : IsPts w (some ad) ps) :
    Calls Try.prog 88 #[.slice (some ad) ps.length c] w fun e w' => ∃ g cap, e = .returned (.slice g ps.length cap) ∧ OwnSl w' w.heap.size 103 g (ps.length * 2) (flatP ps) ∧ Below w.heap.size w w' := by
  refine (clonePts_some ad c ps w hbig hc).mono ?_
  rintro e w' ⟨v', rfl, own, b⟩
  obtain ⟨A, cap, rfl, -, hA⟩ := ownP_is own
  exact ⟨A, cap, rfl, fun hp => by obtain ⟨g, h1, h2, h3⟩ := hA (by omega); exact ⟨g, 0, h1, h2, h3⟩, b⟩

/-- The box of a network's cells, and nothing older has turned. -/
abbrev LowS (W : World) (b : Nat) (u v : Value) (w : World) : Prop := w.cell? ⟨b, 0, none⟩ = some u ∧ w.cell? ⟨b, 1, none⟩ = some v ∧ Below W.heap.size W w
theorem LowS.drew {W : World} {b : Nat} {u v : Value} {w : World} (h : LowS W b u v w) : LowS W b u v w.drew := ⟨h.1, h.2.1, h.2.2.drew⟩
theorem LowS.under {W : World} {b : Nat} {u v : Value} {w w' : World} (hb : Below w.heap.size w w') (h : LowS W b u v w) : LowS W b u v w' := ⟨cell_under hb h.1, cell_under hb h.2.1, h.2.2.trans (hb.mono h.2.2.size)⟩
theorem LowS.alloc {W : World} {b : Nat} {u v : Value} {w : World} (h : LowS W b u v w) (o : Obj) : LowS W b u v (w.alloc o) := h.under (below1 w o)
theorem LowS.set2 {W : World} {b : Nat} {u v : Value} {w : World} {ob : Nat} (h : LowS W b u v w) (hb : b < W.heap.size) (ho : W.heap.size ≤ ob) (x y : Value) : LowS W b u v ((w.setCell ⟨ob, 0, none⟩ x).setCell ⟨ob, 1, none⟩ y) := by
  have e : ((w.setCell ⟨ob, 0, none⟩ x).setCell ⟨ob, 1, none⟩ y).heap[b]? = w.heap[b]? := by rw [Below.heap_setCell _ _ _ _ (by simp; omega), Below.heap_setCell _ _ _ _ (by simp; omega)]
  exact ⟨(World.cell?_of_block (w := w) (a := ⟨b, 0, none⟩) e).trans h.1, (World.cell?_of_block (w := w) (a := ⟨b, 1, none⟩) e).trans h.2.1, (h.2.2.setCell (by simp; omega) _).setCell (by simp; omega) _⟩
theorem LowS.bel {W : World} {b : Nat} {u v : Value} {w : World} (h : LowS W b u v w) : Below W.heap.size W w := h.2.2
/-- The copy of a network in a box of its own. -/
def LowCut (W : World) (ps : List (Int × Int)) (rs : List A3) (t : Value) (w : World) : Prop :=
  ∃ ob A B ca cb, t = .pointer (some ⟨ob, 0, none⟩) ∧ W.heap.size ≤ ob ∧ Pair w ob 27 (.slice A ps.length ca) (.slice B rs.length cb) ∧ OwnSl w W.heap.size 103 A (ps.length * 2) (flatP ps) ∧ OwnSl w W.heap.size 92 B (rs.length * 3) (flatA rs) ∧ Parted A B (ps.length * 2) (rs.length * 3) ∧ blk A (ps.length * 2) ≠ some ob ∧ blk B (rs.length * 3) ≠ some ob ∧ Below W.heap.size W w

theorem nil2_first {V w : World} (hb : Below (V.alloc (.cells #[.slice none 0 0, .slice none 0 0] 27)).heap.size (V.alloc (.cells #[.slice none 0 0, .slice none 0 0] 27)) w) : Pair w V.heap.size 27 (.slice none 0 0) (.slice none 0 0) := (Pair.new V _ _ _).below hb
theorem nil2_first' {V w : World} (hb : Below (V.alloc (.cells #[.slice none 0 0, .slice none 0 0] 27)).drew.heap.size (V.alloc (.cells #[.slice none 0 0, .slice none 0 0] 27)).drew w) : Pair w V.heap.size 27 (.slice none 0 0) (.slice none 0 0) := Pair.below (w := (V.alloc (.cells #[.slice none 0 0, .slice none 0 0] 27)).drew) (Pair.new V _ _ _) hb
theorem OwnSl.low {w : World} {base base' : Nat} {t : TypeId} {A : Option Addr} {N : Nat} {f : Nat → Int} (h : OwnSl w base t A N f) (hb : base' ≤ base) : OwnSl w base' t A N f := fun hp => by obtain ⟨g, o, h1, h2, h3⟩ := h hp; exact ⟨g, o, h1, by omega, h3⟩
theorem lowCut_set {W V : World} {ps : List (Int × Int)} {rs : List A3} {ob s2 s3 ca cb : Nat} {A B : Option Addr} (hp : Pair V ob 27 (.slice none 0 0) (.slice none 0 0)) (hP : OwnSl V s2 103 A (ps.length * 2) (flatP ps)) (hR : OwnSl V s3 92 B (rs.length * 3) (flatA rs)) (hs2 : W.heap.size ≤ s2) (hs3 : W.heap.size ≤ s3) (hob : W.heap.size ≤ ob)
    (hA : ∀ g, blk A (ps.length * 2) = some g → g ≠ ob) (hB : ∀ g, blk B (rs.length * 3) = some g → g ≠ ob) (hAB : ∀ g, blk A (ps.length * 2) = some g → ∀ g', blk B (rs.length * 3) = some g' → g ≠ g') (K : Below W.heap.size W V) :
    LowCut W ps rs (.pointer (some ⟨ob, 0, none⟩)) ((V.setCell ⟨ob, 0, none⟩ (.slice A ps.length ca)).setCell ⟨ob, 1, none⟩ (.slice B rs.length cb)) := by
  refine ⟨ob, A, B, ca, cb, rfl, hob, (hp.set0 _).set1 _, ?_, ?_, fun g e e' => hAB g e g e' rfl, fun e => hA _ e rfl, fun e => hB _ e rfl, (K.setCell (by simp; omega) _).setCell (by simp; omega) _⟩
  · exact OwnSl.low (hP.of_block (fun g e _ => by rw [Below.heap_setCell _ _ _ _ (by have := hA g e; simpa using this), Below.heap_setCell _ _ _ _ (by have := hA g e; simpa using this)])) hs2
  · exact OwnSl.low (hR.of_block (fun g e _ => by rw [Below.heap_setCell _ _ _ _ (by have := hB g e; simpa using this), Below.heap_setCell _ _ _ _ (by have := hB g e; simpa using this)])) hs3
theorem lowCut_new {W V : World} {ps : List (Int × Int)} {rs : List A3} {s2 s3 ca cb : Nat} {A B : Option Addr} (hP : OwnSl V s2 103 A (ps.length * 2) (flatP ps)) (hR : OwnSl V s3 92 B (rs.length * 3) (flatA rs)) (hs2 : W.heap.size ≤ s2) (hs3 : W.heap.size ≤ s3)
    (hAB : ∀ g, blk A (ps.length * 2) = some g → ∀ g', blk B (rs.length * 3) = some g' → g ≠ g') (K : Below W.heap.size W V) :
    LowCut W ps rs (.pointer (some ⟨V.heap.size, 0, none⟩)) (V.alloc (.cells #[.slice A ps.length ca, .slice B rs.length cb] 27)) := by
  have kb := below1 V (.cells #[.slice A ps.length ca, .slice B rs.length cb] 27)
  exact ⟨_, A, B, ca, cb, rfl, K.size, Pair.new V _ _ _, OwnSl.low (hP.below kb) hs2, OwnSl.low (hR.below kb) hs3, fun g e e' => hAB g e g e' rfl, fun e => by have := (blk_own hP e).2; omega, fun e => by have := (blk_own hR e).2; omega, K.trans (kb.mono K.size)⟩

/-- The first k arcs lowered, the others as they were. -/
def mixL (zs : List Int) (rs : List A3) (k : Nat) : List A3 := (lowL zs rs).take k ++ rs.drop k
theorem mixL_len (zs : List Int) (rs : List A3) (k : Nat) : (mixL zs rs k).length = rs.length := by
  unfold mixL; rw [List.length_append, List.length_take, List.length_drop, lowL_len]; omega
theorem mixL_at {zs : List Int} {rs : List A3} {k i : Nat} (hi : i < rs.length) : arg (mixL zs rs k) i = if i < k then lowA zs (arg rs i) else arg rs i := by
  unfold mixL arg
  rw [List.getD_eq_getElem?_getD, List.getElem?_append, List.length_take, lowL_len]
  by_cases h : i < k
  · rw [if_pos (by omega), if_pos h, List.getElem?_take, if_pos h]
    unfold lowL; simp [hi]
  · rw [if_neg (by omega), if_neg h, List.getElem?_drop, List.getD_eq_getElem?_getD]
    congr 2; omega
theorem mixL_zero (zs : List Int) (rs : List A3) : mixL zs rs 0 = rs := by simp [mixL]
theorem mixL_all (zs : List Int) (rs : List A3) : mixL zs rs rs.length = lowL zs rs := by
  unfold mixL; rw [List.drop_length, List.append_nil, List.take_of_length_le (by rw [lowL_len]; exact Nat.le_refl _)]
theorem flatA_mix {zs : List Int} {rs : List A3} {k : Nat} (hk : k < rs.length) (j : Nat) (hj : j < rs.length * 3) : (if j = k * 3 + 2 then (lowA zs (arg rs k)).2.2 else flatA (mixL zs rs k) j) = flatA (mixL zs rs (k + 1)) j := by
  unfold flatA
  rw [mixL_at (k := k) (i := j / 3) (by omega), mixL_at (k := k + 1) (i := j / 3) (by omega)]
  by_cases e : j / 3 = k
  · subst e
    rw [if_neg (show ¬ j / 3 < j / 3 by omega), if_pos (show j / 3 < j / 3 + 1 by omega)]
    rcases (show j % 3 = 0 ∨ j % 3 = 1 ∨ j % 3 = 2 by omega) with r | r | r
    · rw [if_neg (show ¬ j = j / 3 * 3 + 2 by omega), if_pos r, if_pos r]; rfl
    · have r0 : ¬ j % 3 = 0 := by omega
      rw [if_neg (show ¬ j = j / 3 * 3 + 2 by omega), if_neg r0, if_neg r0, if_pos r, if_pos r]; rfl
    · have r0 : ¬ j % 3 = 0 := by omega
      have r1 : ¬ j % 3 = 1 := by omega
      rw [if_pos (show j = j / 3 * 3 + 2 by omega), if_neg r0, if_neg r1]
  · rw [if_neg (show ¬ j = k * 3 + 2 by omega)]
    by_cases h : j / 3 < k
    · rw [if_pos h, if_pos (show j / 3 < k + 1 by omega)]
    · rw [if_neg h, if_neg (show ¬ j / 3 < k + 1 by omega)]

set_option maxRecDepth 100000 in
set_option maxHeartbeats 4000000 in
theorem implLowered_yes (ad : Addr) (B C : Option Addr) (ca cb cc : Nat) (ps : List (Int × Int)) (rs : List A3) (zs : List Int) (w : World) (hn : ps.length ≤ 1048576) (hm : rs.length ≤ 1048576) (hkz : zs.length ≤ 1048576) (ha : IsPts w (some ad) ps) (hb : IsArcs w B rs) (hz : IsInts w C zs) (hok : potB ps rs zs = true) :
    Calls Try.prog 47 #[.agg #[.slice (some ad) ps.length ca, .slice B rs.length cb], .slice C zs.length cc] w (NetOwned w ps (lowL zs rs)) := by
  have X := (Pair.new w 27 (.slice (some ad) ps.length ca) (.slice B rs.length cb)).alloc (.cells #[.slice none 0 0, .slice none 0 0] 27)
  have Y : Pair ((w.alloc (.cells #[.slice (some ad) ps.length ca, .slice B rs.length cb] 27)).alloc (.cells #[.slice none 0 0, .slice none 0 0] 27)) (w.heap.size + 1) 27 (.slice none 0 0) (.slice none 0 0) := by
    have := Pair.new (w.alloc (.cells #[.slice (some ad) ps.length ca, .slice B rs.length cb] 27)) 27 (.slice none 0 0) (.slice none 0 0); rwa [World.size_alloc] at this
  have K := below2 w (.cells #[.slice (some ad) ps.length ca, .slice B rs.length cb] 27) (.cells #[.slice none 0 0, .slice none 0 0] 27)
  obtain ⟨hok1, hzl, hpi, hri⟩ := potB_iff.1 hok
  obtain ⟨h20, h70, -, -⟩ := netB_iff.1 hok1
  have HLP := Lib.hid (fun k hk => low_parts (k := k) (arcsIn_net hok1) hzl hpi hri hk)
  have HAI := Lib.hid (show ArcsIn zs.length rs by rw [hzl]; exact arcsIn_net hok1)
  have HZL := Lib.hid hzl
  have HPI := Lib.hid hpi
  have hz20 : zs.length ≤ 20 := by omega
  clear hzl hok1 hpi hri
  obtain ⟨x0, x1, -, -⟩ := X.cells
  go_enter Try.func47, Try.ntmps47
  go_wp2_with fail
  refine (implPotOk_any (some ad) B C ca cb cc ps rs zs _ hn hm hkz (ha.below K) (hb.below K) (hz.below K)).mono ?_; rw [hok]; rintro e w1 ⟨rfl, b1⟩
  clear x0 x1
  replace X := X.below b1
  replace Y := Y.below b1
  replace K := K.trans (b1.mono K.size)
  clear b1
  obtain ⟨x0, x1, -, -⟩ := X.cells
  have hyl := Y.lt
  have hyw : w.heap.size < w1.heap.size := X.lt
  have T0 : LowS w1 w.heap.size (.slice (some ad) ps.length ca) (.slice B rs.length cb) w1 := ⟨x0, x1, Below.refl _ w1⟩
  have T : LowS w1 w.heap.size (.slice (some ad) ps.length ca) (.slice B rs.length cb) w1.drew := ⟨x0, x1, (Below.refl _ w1).drew⟩
  have HP := Lib.hid (fun W (h : Below w1.heap.size w1 W) => (ha.below K).below h)
  have HR := Lib.hid (fun W (h : Below w1.heap.size w1 W) => (hb.below K).below h)
  go_upto_region 4 with (fail)
  go_cut [6] (fun t wc => LowCut w1 ps rs t wc)
  case first =>
    go_region_held3 (fun w' => LowS w1 w.heap.size (.slice (some ad) ps.length ca) (.slice B rs.length cb) w')
      (first | exact T | assumption | (refine LowS.alloc ?_ _; assumption) | exact LowS.alloc T _ | exact LowS.drew (LowS.alloc T0 _) | (refine LowS.set2 ?_ hyw ?_ _ _ <;> first | assumption | exact Nat.le_refl _ | omega))
      (first
        | (go_at_call 88; refine (clonePts_own _ _ ps _ hn (HP.out _ (LowS.bel (by first | exact T | assumption | (refine LowS.alloc ?_ _; assumption) | exact LowS.alloc T _ | exact LowS.drew (LowS.alloc T0 _))))).mono ?_; rintro e w2 ⟨A2, c2, rfl, P2, b2⟩; have hK2 : LowS w1 w.heap.size (.slice (some ad) ps.length ca) (.slice B rs.length cb) w2 := LowS.under b2 (by first | exact T | assumption | (refine LowS.alloc ?_ _; assumption) | exact LowS.alloc T _ | exact LowS.drew (LowS.alloc T0 _)); have hl2 := (LowS.bel hK2).size; have hA2 := Lib.hid (fun g e => blk_own P2 (g := g) e); (first | (have hn2 := nil2_first b2; obtain ⟨z0, z1, z2, z3⟩ := Pair.cells hn2) | (have hn2 := nil2_first' b2; obtain ⟨z0, z1, z2, z3⟩ := Pair.cells hn2) | (have hn2 := Pair.below (t := 27) (u := .slice none 0 0) (v := .slice none 0 0) (by assumption) b2; obtain ⟨z0, z1, z2, z3⟩ := Pair.cells hn2) | skip))
        | (go_at_call 89; refine (cloneArcs_any _ _ rs _ hm (HR.out _ (LowS.bel (by first | exact T | assumption | (refine LowS.alloc ?_ _; assumption) | exact LowS.alloc T _ | exact LowS.drew (LowS.alloc T0 _))))).mono ?_; rintro e w3 ⟨B3, c3, rfl, R3, b3⟩; have hK3 : LowS w1 w.heap.size (.slice (some ad) ps.length ca) (.slice B rs.length cb) w3 := LowS.under b3 (by first | exact T | assumption | (refine LowS.alloc ?_ _; assumption) | exact LowS.alloc T _ | exact LowS.drew (LowS.alloc T0 _)); have hl3 := (LowS.bel hK3).size; have hB3 := Lib.hid (fun g e => blk_own R3 (g := g) e); (first | (have hn3 := nil2_first b3; obtain ⟨z0, z1, z2, z3⟩ := Pair.cells hn3) | (have hn3 := nil2_first' b3; obtain ⟨z0, z1, z2, z3⟩ := Pair.cells hn3) | (have hn3 := Pair.below (t := 27) (u := .slice none 0 0) (v := .slice none 0 0) (by assumption) b3; obtain ⟨z0, z1, z2, z3⟩ := Pair.cells hn3) | skip)))
    all_goals
      go_wp2
      go_meet
      case rel =>
        have hz : w1.drew.heap.size = w1.heap.size := rfl
        have hz2 : ∀ o : Obj, (w1.alloc o).drew.heap.size = w1.heap.size + 1 := fun o => World.size_alloc w1 o
        have hb2 := b2.size
        have hb3 := b3.size
        have hA2' := hA2.out
        have hB3' := hB3.out
        (try simp only [World.size_alloc, hz, hz2] at hA2' hB3' hb2 hb3 hl2 hl3)
        first
          | exact lowCut_new (by first | exact P2 | exact P2.below b3) R3 (by (try simp only [World.size_alloc, hz, hz2]); omega) (by (try simp only [World.size_alloc, hz, hz2]); omega) (fun g e g' e' => by have := hA2' g e; have := hB3' g' e'; omega) (LowS.bel hK3)
          | exact lowCut_new P2 (R3.below b2) (by (try simp only [World.size_alloc, hz, hz2]); omega) (by (try simp only [World.size_alloc, hz, hz2]); omega) (fun g e g' e' => by have := hA2' g e; have := hB3' g' e'; omega) (LowS.bel hK2)
          | exact lowCut_set (by assumption) (by first | exact P2.below b3 | exact (P2.below (below1 _ _)).below b3) R3 (by (try simp only [World.size_alloc, hz, hz2]); omega) (by (try simp only [World.size_alloc, hz, hz2]); omega) (by (try simp only [World.size_alloc, hz, hz2]); omega) (fun g e => by have := hA2' g e; (try simp only [World.size_alloc, hz, hz2]); omega) (fun g e => by have := hB3' g e; (try simp only [World.size_alloc, hz, hz2]); omega) (fun g e g' e' => by have := hA2' g e; have := hB3' g' e'; omega) (LowS.bel hK3)
          | exact lowCut_set (by assumption) P2 (by first | exact R3.below b2 | exact (R3.below (below1 _ _)).below b2) (by (try simp only [World.size_alloc, hz, hz2]); omega) (by (try simp only [World.size_alloc, hz, hz2]); omega) (by (try simp only [World.size_alloc, hz, hz2]); omega) (fun g e => by have := hA2' g e; (try simp only [World.size_alloc, hz, hz2]); omega) (fun g e => by have := hB3' g e; (try simp only [World.size_alloc, hz, hz2]); omega) (fun g e g' e' => by have := hA2' g e; have := hB3' g' e'; omega) (LowS.bel hK2)
  case rest =>
    clear T T0 HP HR x0 x1
    obtain ⟨ob, A4, B4, c4, c5, rfl, hob, Q, P4, R4, PT, hAo, hBo, KC⟩ := hcut
    replace X := X.below KC
    replace Y := Y.below KC
    have hK1 := K.size
    replace K := K.trans (KC.mono K.size)
    have HAO := Lib.hid hAo
    have HBO := Lib.hid hBo
    have HPT := Lib.hid PT
    have HOB := Lib.hid hob
    have hwo : w.heap.size + 1 < ob := by omega
    clear KC hAo hBo PT hob
    obtain ⟨q0, q1, -, -⟩ := Q.cells
    go_wp2_with fail
    clear q0 q1
    go_loopw [27] (fun i wr => ∃ k : Nat, k ≤ rs.length ∧ i = .int .i64 k ∧ Pair wr (w.heap.size + 1) 27 (.slice none 0 0) (.slice none 0 0) ∧ Pair wr ob 27 (.slice A4 ps.length c4) (.slice B4 rs.length c5) ∧ OwnSl wr w1.heap.size 103 A4 (ps.length * 2) (flatP ps) ∧ OwnSl wr w1.heap.size 92 B4 (rs.length * 3) (flatA (mixL zs rs k)) ∧ Below w.heap.size w wr) (fun i _ => rs.length - (intOf i).toNat)
    case atStart => exact ⟨0, by omega, rfl, Y, Q, P4, by rw [mixL_zero]; exact R4, K⟩
    case round =>
      clear X Y Q P4 R4 K
      obtain ⟨k, hkl, rfl, Y, Q, P4, R4, K⟩ := hrel
      by_cases hlt : k < rs.length
      · obtain ⟨g, off, rfl, hg, O⟩ := R4 (by omega)
        have hgl := O.lt
        have HCO := Lib.hid (O.cell (i := k * 3 + 2) (by omega))
        have HFO := Lib.hid (O.frozen (off + (k * 3 + 2)))
        have HFM := Lib.hid (fun j hj => flatA_mix (zs := zs) (rs := rs) (k := k) hlt j hj)
        obtain ⟨F, T, L, x, y, -, -, -, -, -, x0', x1', y0', y1', l0, l1, hrd, hred, elow⟩ := HLP.out k hlt
        have HC := Lib.hid (fun W g1 g2 => reduced_any (some ad) B C ps.length ca cb cc k rs zs W hz20 h70 hlt HAI.out HPI.out g1 g2)
        rw [hrd] at HC
        rw [elow] at HFM
        clear elow hrd
        have HK2 := Lib.hid (hb.below K.drew)
        have HZ2 := Lib.hid (hz.below K.drew)
        have hgo : g ≠ ob := fun e => by have := HBO.out; rw [blk_some (by omega)] at this; exact this (by rw [e])
        have hw1 : IntKind.i64.wrap (L + y - x + 1) = L + y - x + 1 := IntWalk.i64_in _ (by omega)
        obtain ⟨R, hR⟩ : ∃ R, R = L + y - x := ⟨_, rfl⟩
        rw [← hR] at HC hw1 hred HFM
        obtain ⟨q0, q1, -, -⟩ := Q.cells
        have q1d : wr.drew.cell? ⟨ob, 1, none⟩ = some (.slice (some ⟨g, off, none⟩) rs.length c5) := q1
        have hco := HCO.out
        rw [← Nat.add_assoc] at hco
        have hfo := HFO.out
        rw [← Nat.add_assoc] at hfo
        generalize flatA (mixL zs rs k) (k * 3 + 2) = old at hco
        clear hR HCO HFO q0
        go_wp2_with fail
        go_region_with (go_at_call 58; refine (HC.out _ HK2.out HZ2.out).mono ?_; rintro e w3 ⟨rfl, b3⟩; have q3 := cell_under b3 q1d; have co3 := cell_under (w := wr.drew) b3 hco; have fo3 := (b3.frozen (p := ⟨g, off + k * 3 + 2, none⟩) hgl).trans hfo)
        all_goals (
          have O3 : OwnAt w3 g 92 off (rs.length * 3) (flatA (mixL zs rs k)) := OwnAt.below (w := wr.drew) (OwnAt.of_block O rfl) b3
          have O4 := O3.set (k * 3 + 2) (min (R + 1) 10000)
          rw [← Nat.add_assoc] at O4
          have O5 := O4.congr (f' := flatA (mixL zs rs (k + 1))) (fun j hj => by rw [Int.min_comm]; exact HFM.out j hj)
          have Y3 := (Pair.below (w := wr.drew) Y b3).far (c := g) (by omega) (off + k * 3 + 2) (.int .i64 (min (R + 1) 10000))
          have Q3 := (Pair.below (w := wr.drew) Q b3).far (c := g) (fun e => hgo e.symm) (off + k * 3 + 2) (.int .i64 (min (R + 1) 10000))
          have P3 : OwnSl w3 w1.heap.size 103 A4 (ps.length * 2) (flatP ps) := OwnSl.below (w := wr.drew) (P4.of_block (fun _ _ _ => rfl)) b3
          have P5 : OwnSl (w3.setCell ⟨g, off + k * 3 + 2, none⟩ (.int .i64 (min (R + 1) 10000))) w1.heap.size 103 A4 (ps.length * 2) (flatP ps) := P3.of_block (fun g' e _ => Below.heap_setCell _ _ _ _ (fun e' => HPT.out g' e (by rw [blk_some (by omega)]; exact congrArg some (show g = g' from e'.symm))))
          have K3 := (K.drew.trans (b3.mono K.drew.size)).setCell (p := ⟨g, off + k * 3 + 2, none⟩) (show w.heap.size ≤ g by omega) (.int .i64 (min (R + 1) 10000))
          clear O3 O4 O Y Q P3 P4 K q1 q1d q3 co3 fo3 hco hfo HC HK2 HZ2 b3
          go_wp2
          go_roundw
          case rel => exact ⟨k + 1, by omega, by go_num, Y3, Q3, P5, fun _ => ⟨g, off, rfl, hg, O5⟩, K3⟩
          case measure => simp [intOf]; omega)
      · obtain rfl : k = rs.length := by omega
        rw [mixL_all] at R4
        have HPA := Lib.hid (fun g e => blk_own R4 (g := g) e)
        have HPP := Lib.hid (fun g e => blk_own P4 (g := g) e)
        obtain ⟨y0, y1, y2, y3⟩ := Y.cells
        obtain ⟨q0, q1, -, -⟩ := Q.cells
        go_wp2
        refine bodyPost_ret (v := .agg #[.slice A4 ps.length c4, .slice B4 rs.length c5]) (by simp [results, Try.results47, go_sem, y0, y1]) rfl ⟨A4, B4, c4, c5, by rw [lowL_len], ?_, ?_, ?_, (K.setCell (by simp) _).setCell (by simp) _⟩
        · exact OwnSl.low (P4.of_block (w' := (wr.setCell ⟨w.heap.size + 1, 0, none⟩ (.slice A4 ps.length c4)).setCell ⟨w.heap.size + 1, 1, none⟩ (.slice B4 rs.length c5)) (fun g e _ => by rw [Below.heap_setCell _ _ _ _ (by have := (HPP.out g e).1; simp; omega), Below.heap_setCell _ _ _ _ (by have := (HPP.out g e).1; simp; omega)])) (by omega)
        · rw [lowL_len]
          exact OwnSl.low (R4.of_block (w' := (wr.setCell ⟨w.heap.size + 1, 0, none⟩ (.slice A4 ps.length c4)).setCell ⟨w.heap.size + 1, 1, none⟩ (.slice B4 rs.length c5)) (fun g e _ => by rw [Below.heap_setCell _ _ _ _ (by have := (HPA.out g e).1; simp; omega), Below.heap_setCell _ _ _ _ (by have := (HPA.out g e).1; simp; omega)])) (by omega)
        · rw [lowL_len]; exact HPT.out

theorem specLowered_any (ad : Addr) (B C : Option Addr) (ca cb cc : Nat) (ps : List (Int × Int)) (rs : List A3) (zs : List Int) (w : World) (hn : ps.length ≤ 1048576) (hm : rs.length ≤ 1048576) (hkz : zs.length ≤ 1048576) (ha : IsPts w (some ad) ps) (hb : IsArcs w B rs) (hz : IsInts w C zs) :
    Calls Try.prog 46 #[.agg #[.slice (some ad) ps.length ca, .slice B rs.length cb], .slice C zs.length cc] w (NetOwned w (lowP ps rs zs) (lowR ps rs zs)) := by
  unfold lowP lowR
  cases hok : potB ps rs zs with
  | false => exact specLowered_no (some ad) B C ca cb cc ps rs zs w hn hm hkz ha hb hz hok
  | true => exact specLowered_yes ad B C ca cb cc ps rs zs w hn hm hkz ha hb hz hok
theorem implLowered_any (ad : Addr) (B C : Option Addr) (ca cb cc : Nat) (ps : List (Int × Int)) (rs : List A3) (zs : List Int) (w : World) (hn : ps.length ≤ 1048576) (hm : rs.length ≤ 1048576) (hkz : zs.length ≤ 1048576) (ha : IsPts w (some ad) ps) (hb : IsArcs w B rs) (hz : IsInts w C zs) :
    Calls Try.prog 47 #[.agg #[.slice (some ad) ps.length ca, .slice B rs.length cb], .slice C zs.length cc] w (NetOwned w (lowP ps rs zs) (lowR ps rs zs)) := by
  unfold lowP lowR
  cases hok : potB ps rs zs with
  | false => exact implLowered_no (some ad) B C ca cb cc ps rs zs w hn hm hkz ha hb hz hok
  | true => exact implLowered_yes ad B C ca cb cc ps rs zs w hn hm hkz ha hb hz hok
theorem low_lens (ps : List (Int × Int)) (rs : List A3) (zs : List Int) (h1 : ps.length ≤ 1048576) (h2 : rs.length ≤ 1048576) : (lowP ps rs zs).length ≤ 1048576 ∧ (lowR ps rs zs).length ≤ 1048576 := by
  unfold lowP lowR
  cases hok : potB ps rs zs with
  | false => exact ⟨by simp, by simp⟩
  | true => exact ⟨by rw [if_pos rfl]; exact h1, by rw [if_pos rfl, lowL_len]; exact h2⟩

end Go.Proofs.Ytpfaiiipmggnjaa
