/-
  What Lowered computes, in the program and in the specification: the network whose lengths are lowered by numbers at the nodes. What impl.Lowered computes.
-/
import Derived.Test.YtcaamhoakhgnhaaPots
import Derived.Test.YtcaamhoakhgnhaaLinked
import Derived.Deep.DeepCutAuto
namespace Go.Proofs.Ytcaamhoakhgnhaa
open Go.RowKit Go.Deep

/-- An arc lowered; the lowered network. -/
def lowA (zs : List Int) (a : A3) : A3 := (a.1, a.2.1, min 10000 (a.2.2 + zg zs a.2.1.toNat - zg zs a.1.toNat + 1))
def lowL (zs : List Int) (rs : List A3) : List A3 := rs.map (lowA zs)
def lowP (ps : List (Int × Int)) (rs : List A3) (zs : List Int) : List (Int × Int) := if potB ps rs zs = true then ps else []
def lowR (ps : List (Int × Int)) (rs : List A3) (zs : List Int) : List A3 := if potB ps rs zs = true then lowL zs rs else []
theorem lowL_len (zs : List Int) (rs : List A3) : (lowL zs rs).length = rs.length := by simp [lowL]
theorem lowL_at {zs : List Int} {rs : List A3} {k : Nat} (hk : k < rs.length) : arg (lowL zs rs) k = lowA zs (arg rs k) := by unfold lowL arg; simp [hk]
theorem lowL_take {zs : List Int} {rs : List A3} {k : Nat} (hk : k < rs.length) : (lowL zs rs).take (k + 1) = (lowL zs rs).take k ++ [lowA zs (arg rs k)] := by
  rw [take_snoc3 (by rw [lowL_len]; exact hk), lowL_at hk]

set_option maxRecDepth 100000 in
/-- An arc appended to a row that is one's own. -/
theorem run_append_arc {w : World} (ty : TypeId) (base : Nat) (v : Value) (n : Nat) (xs : List Value) (hown : w.ownsRow base 75 3 v n xs) (a : A3) (hn : n ≤ 1048576) (hbase : base ≤ w.heap.size) :
    ∃ v' w', (Builtin.append_ #[30, 30] ty #[v, .slice (some ⟨w.heap.size, 0, none⟩) 1 1]).run Try.prog (w.alloc (.cells #[.int .i64 a.1, .int .i64 a.2.1, .int .i64 a.2.2] 75)) = .ok v' w' ∧ w'.ownsRow base 75 3 v' (n + 1) (xs ++ cellsA [a]) ∧ (w.alloc (.cells #[.int .i64 a.1, .int .i64 a.2.1, .int .i64 a.2.2] 75)).grownBy w' v.ownBlock := by
  obtain ⟨i0, hi, hz0, hz1, hz2⟩ := info_parts Try.infoArc
  obtain ⟨v', w', h1, h2, h3, -⟩ := run_append_own_at (P := Try.prog) (w.alloc (.cells #[.int .i64 a.1, .int .i64 a.2.1, .int .i64 a.2.2] 75)) base 30 ty 75 i0 (.agg #[.int .i64 0, .int .i64 0, .int .i64 0]) 3 24 Try.underlying30 hi hz0 hz1 hz2 rfl (by decide) v n xs (hown.alloc _) ⟨w.heap.size, 0, none⟩ 1 1 (cellsA [a]) rfl (cells3_new _ a _) (cellsA_one _) (by unfold maxLen; omega) (by omega) (by rw [World.size_alloc]; omega)
  exact ⟨v', w', h1, h2, h3⟩

theorem own_form {w : World} {base : Nat} {e : TypeId} {size n : Nat} {v : Value} {xs : List Value} (h : w.ownsRow base e size v n xs) : ∃ A c, v = .slice A n c := by
  rcases h.2 with ⟨h1, h2⟩ | ⟨g, cap, cur, h1, -⟩
  · exact ⟨none, 0, by rw [h1, h2]⟩
  · exact ⟨_, _, h1⟩
/-- What a lowered arc is made of. -/
theorem low_parts {n : Nat} {rs : List A3} {zs : List Int} {k : Nat} (hr : ArcsIn n rs) (hzn : zs.length = n) (hp : potIn zs = true) (hrd : redIn rs zs = true) (hk : k < rs.length) :
    ∃ (F T : Nat) (L x y : Int), arg rs k = ((F : Int), (T : Int), L) ∧ F < zs.length ∧ T < zs.length ∧ zg zs F = x ∧ zg zs T = y ∧ 0 ≤ x ∧ x ≤ 1000000 ∧ 0 ≤ y ∧ y ≤ 1000000 ∧ 1 ≤ L ∧ L ≤ 10000 ∧ red rs zs k = L + y - x ∧ 0 ≤ L + y - x ∧ lowA zs (arg rs k) = ((F : Int), (T : Int), min 10000 (L + y - x + 1)) := by
  obtain ⟨⟨f0, f1⟩, ⟨t0, t1⟩, hft, l0, l1⟩ := hr _ (arg_mem hk)
  have h0 := redIn_iff.1 hrd k hk
  have e0 : red rs zs k = (arg rs k).2.2 + zg zs (arg rs k).2.1.toNat - zg zs (arg rs k).1.toNat := rfl
  have e1 : lowA zs (arg rs k) = ((arg rs k).1, (arg rs k).2.1, min 10000 ((arg rs k).2.2 + zg zs (arg rs k).2.1.toNat - zg zs (arg rs k).1.toNat + 1)) := rfl
  rw [e1]
  rw [e0] at h0 ⊢
  generalize arg rs k = a at f0 f1 t0 t1 hft l0 l1 h0
  obtain ⟨f, t, L⟩ := a
  obtain ⟨F, rfl⟩ : ∃ F : Nat, f = (F : Int) := ⟨f.toNat, by simp at f0; omega⟩
  obtain ⟨T, rfl⟩ : ∃ T : Nat, t = (T : Int) := ⟨t.toNat, by simp at t0; omega⟩
  simp only [Int.toNat_natCast] at f0 f1 t0 t1 hft l0 l1 h0 ⊢
  have hF : F < zs.length := by omega
  have hT : T < zs.length := by omega
  have b1 := pot_bd hp hF
  have b2 := pot_bd hp hT
  exact ⟨F, T, L, zg zs F, zg zs T, rfl, hF, hT, rfl, rfl, b1.1, b1.2, b2.1, b2.2, l0, l1, rfl, h0, rfl⟩

end Go.Proofs.Ytcaamhoakhgnhaa

namespace Go.Proofs.Ytcaamhoakhgnhaa
open Go.RowKit Go.Deep

theorem IsArcs.news' {w : World} {ad : Addr} {rs : List A3} (h : IsArcs w (some ad) rs) : ∀ j u, (cellsA rs)[j]? = some u → w.cell? (ad.add j) = some u := by
  intro j u hj
  have hjn : j < rs.length * 3 := by have := (List.getElem?_eq_some_iff.1 hj).1; rwa [cellsA_len] at this
  obtain ⟨b, off, hA, -, -⟩ := h (by omega)
  injection hA with hA
  subst hA
  have := IsArcs.news h 0 rs.length (by omega) j u (by simpa using hj)
  simpa using this
theorem clonePts_own (ad : Addr) (c : Nat) (ps : List (Int × Int)) (w : World) (hbig : ps.length ≤ 1048576) (hc : IsPts w (some ad) ps) :
    Calls Try.prog 65 #[.slice (some ad) ps.length c] w fun e w' => ∃ g cap, e = .returned (.slice g ps.length cap) ∧ OwnSl w' w.heap.size 85 g (ps.length * 2) (flatP ps) ∧ Below w.heap.size w w' := by
  refine (clonePts_some ad c ps w hbig hc).mono ?_
  rintro e w' ⟨v', rfl, own, b⟩
  obtain ⟨A, cap, rfl, -, hA⟩ := ownP_is own
  exact ⟨A, cap, rfl, fun hp => by obtain ⟨g, h1, h2, h3⟩ := hA (by omega); exact ⟨g, 0, h1, h2, h3⟩, b⟩

/-- The box of a network's cells, and nothing older has turned. -/
abbrev LowS (W : World) (b : Nat) (u v : Value) (w : World) : Prop := w.cell? ⟨b, 0, none⟩ = some u ∧ w.cell? ⟨b, 1, none⟩ = some v ∧ Below W.heap.size W w
theorem LowS.drew {W : World} {b : Nat} {u v : Value} {w : World} (h : LowS W b u v w) : LowS W b u v w.drew := ⟨h.1, h.2.1, h.2.2.drew⟩
theorem LowS.under {W : World} {b : Nat} {u v : Value} {w w' : World} (hb : Below w.heap.size w w') (h : LowS W b u v w) : LowS W b u v w' := ⟨cell_under hb h.1, cell_under hb h.2.1, h.2.2.trans (hb.mono h.2.2.size)⟩
theorem LowS.alloc {W : World} {b : Nat} {u v : Value} {w : World} (h : LowS W b u v w) (o : Obj) : LowS W b u v (w.alloc o) := h.under (below1 w o)
theorem LowS.set2 {W : World} {b : Nat} {u v : Value} {w : World} {ob : Nat} (h : LowS W b u v w) (hb : b < W.heap.size) (ho : W.heap.size ≤ ob) (x y : Value) : LowS W b u v ((w.setCell ⟨ob, 0, none⟩ x).setCell ⟨ob, 1, none⟩ y) := by
  have e : ((w.setCell ⟨ob, 0, none⟩ x).setCell ⟨ob, 1, none⟩ y).heap[b]? = w.heap[b]? := by rw [Below.heap_setCell _ _ _ _ (by simp; omega), Below.heap_setCell _ _ _ _ (by simp; omega)]
  exact ⟨(World.cell?_of_block (w := w) (a := ⟨b, 0, none⟩) e).trans h.1, (World.cell?_of_block (w := w) (a := ⟨b, 1, none⟩) e).trans h.2.1, (h.2.2.setCell (by simp; omega) _).setCell (by simp; omega) _⟩
theorem LowS.bel {W : World} {b : Nat} {u v : Value} {w : World} (h : LowS W b u v w) : Below W.heap.size W w := h.2.2
/-- The copy of a network in a box of its own. -/
def LowCut (W : World) (ps : List (Int × Int)) (rs : List A3) (t : Value) (w : World) : Prop :=
  ∃ ob A B ca cb, t = .pointer (some ⟨ob, 0, none⟩) ∧ W.heap.size ≤ ob ∧ Pair w ob 32 (.slice A ps.length ca) (.slice B rs.length cb) ∧ OwnSl w W.heap.size 85 A (ps.length * 2) (flatP ps) ∧ OwnSl w W.heap.size 75 B (rs.length * 3) (flatA rs) ∧ Parted A B (ps.length * 2) (rs.length * 3) ∧ blk A (ps.length * 2) ≠ some ob ∧ blk B (rs.length * 3) ≠ some ob ∧ Below W.heap.size W w

theorem nil2_first {V w : World} (hb : Below (V.alloc (.cells #[.slice none 0 0, .slice none 0 0] 32)).heap.size (V.alloc (.cells #[.slice none 0 0, .slice none 0 0] 32)) w) : Pair w V.heap.size 32 (.slice none 0 0) (.slice none 0 0) := (Pair.new V _ _ _).below hb
theorem nil2_first' {V w : World} (hb : Below (V.alloc (.cells #[.slice none 0 0, .slice none 0 0] 32)).drew.heap.size (V.alloc (.cells #[.slice none 0 0, .slice none 0 0] 32)).drew w) : Pair w V.heap.size 32 (.slice none 0 0) (.slice none 0 0) := Pair.below (w := (V.alloc (.cells #[.slice none 0 0, .slice none 0 0] 32)).drew) (Pair.new V _ _ _) hb
theorem OwnSl.low {w : World} {base base' : Nat} {t : TypeId} {A : Option Addr} {N : Nat} {f : Nat → Int} (h : OwnSl w base t A N f) (hb : base' ≤ base) : OwnSl w base' t A N f := fun hp => by obtain ⟨g, o, h1, h2, h3⟩ := h hp; exact ⟨g, o, h1, by omega, h3⟩
theorem lowCut_set {W V : World} {ps : List (Int × Int)} {rs : List A3} {ob s2 s3 ca cb : Nat} {A B : Option Addr} (hp : Pair V ob 32 (.slice none 0 0) (.slice none 0 0)) (hP : OwnSl V s2 85 A (ps.length * 2) (flatP ps)) (hR : OwnSl V s3 75 B (rs.length * 3) (flatA rs)) (hs2 : W.heap.size ≤ s2) (hs3 : W.heap.size ≤ s3) (hob : W.heap.size ≤ ob)
    (hA : ∀ g, blk A (ps.length * 2) = some g → g ≠ ob) (hB : ∀ g, blk B (rs.length * 3) = some g → g ≠ ob) (hAB : ∀ g, blk A (ps.length * 2) = some g → ∀ g', blk B (rs.length * 3) = some g' → g ≠ g') (K : Below W.heap.size W V) :
    LowCut W ps rs (.pointer (some ⟨ob, 0, none⟩)) ((V.setCell ⟨ob, 0, none⟩ (.slice A ps.length ca)).setCell ⟨ob, 1, none⟩ (.slice B rs.length cb)) := by
  refine ⟨ob, A, B, ca, cb, rfl, hob, (hp.set0 _).set1 _, ?_, ?_, fun g e e' => hAB g e g e' rfl, fun e => hA _ e rfl, fun e => hB _ e rfl, (K.setCell (by simp; omega) _).setCell (by simp; omega) _⟩
  · exact OwnSl.low (hP.of_block (fun g e _ => by rw [Below.heap_setCell _ _ _ _ (by have := hA g e; simpa using this), Below.heap_setCell _ _ _ _ (by have := hA g e; simpa using this)])) hs2
  · exact OwnSl.low (hR.of_block (fun g e _ => by rw [Below.heap_setCell _ _ _ _ (by have := hB g e; simpa using this), Below.heap_setCell _ _ _ _ (by have := hB g e; simpa using this)])) hs3
theorem lowCut_new {W V : World} {ps : List (Int × Int)} {rs : List A3} {s2 s3 ca cb : Nat} {A B : Option Addr} (hP : OwnSl V s2 85 A (ps.length * 2) (flatP ps)) (hR : OwnSl V s3 75 B (rs.length * 3) (flatA rs)) (hs2 : W.heap.size ≤ s2) (hs3 : W.heap.size ≤ s3)
    (hAB : ∀ g, blk A (ps.length * 2) = some g → ∀ g', blk B (rs.length * 3) = some g' → g ≠ g') (K : Below W.heap.size W V) :
    LowCut W ps rs (.pointer (some ⟨V.heap.size, 0, none⟩)) (V.alloc (.cells #[.slice A ps.length ca, .slice B rs.length cb] 32)) := by
  have kb := below1 V (.cells #[.slice A ps.length ca, .slice B rs.length cb] 32)
  exact ⟨_, A, B, ca, cb, rfl, K.size, Pair.new V _ _ _, OwnSl.low (hP.below kb) hs2, OwnSl.low (hR.below kb) hs3, fun g e e' => hAB g e g e' rfl, fun e => by have := (blk_own hP e).2; omega, fun e => by have := (blk_own hR e).2; omega, K.trans (kb.mono K.size)⟩

/-- The first k arcs lowered, the others as they were. -/
def mixL (zs : List Int) (rs : List A3) (k : Nat) : List A3 := (lowL zs rs).take k ++ rs.drop k
theorem mixL_len (zs : List Int) (rs : List A3) (k : Nat) : (mixL zs rs k).length = rs.length := by
  unfold mixL; rw [List.length_append, List.length_take, List.length_drop, lowL_len]; omega
theorem mixL_at {zs : List Int} {rs : List A3} {k i : Nat} (hi : i < rs.length) : arg (mixL zs rs k) i = if i < k then lowA zs (arg rs i) else arg rs i := by
  unfold mixL arg
  rw [List.getD_eq_getElem?_getD, List.getElem?_append, List.length_take, lowL_len]
  by_cases h : i < k
  · rw [if_pos (by omega), if_pos h, List.getElem?_take, if_pos h]
    unfold lowL; simp [hi]
  · rw [if_neg (by omega), if_neg h, List.getElem?_drop, List.getD_eq_getElem?_getD]
    congr 2; omega
theorem mixL_zero (zs : List Int) (rs : List A3) : mixL zs rs 0 = rs := by simp [mixL]
theorem mixL_all (zs : List Int) (rs : List A3) : mixL zs rs rs.length = lowL zs rs := by
  unfold mixL; rw [List.drop_length, List.append_nil, List.take_of_length_le (by rw [lowL_len]; exact Nat.le_refl _)]
theorem flatA_mix {zs : List Int} {rs : List A3} {k : Nat} (hk : k < rs.length) (j : Nat) (hj : j < rs.length * 3) : (if j = k * 3 + 2 then (lowA zs (arg rs k)).2.2 else flatA (mixL zs rs k) j) = flatA (mixL zs rs (k + 1)) j := by
  unfold flatA
  rw [mixL_at (k := k) (i := j / 3) (by omega), mixL_at (k := k + 1) (i := j / 3) (by omega)]
  by_cases e : j / 3 = k
  · subst e
    rw [if_neg (show ¬ j / 3 < j / 3 by omega), if_pos (show j / 3 < j / 3 + 1 by omega)]
    rcases (show j % 3 = 0 ∨ j % 3 = 1 ∨ j % 3 = 2 by omega) with r | r | r
    · rw [if_neg (show ¬ j = j / 3 * 3 + 2 by omega), if_pos r, if_pos r]; rfl
    · have r0 : ¬ j % 3 = 0 := by omega
      rw [if_neg (show ¬ j = j / 3 * 3 + 2 by omega), if_neg r0, if_neg r0, if_pos r, if_pos r]; rfl
    · have r0 : ¬ j % 3 = 0 := by omega
      have r1 : ¬ j % 3 = 1 := by omega
      rw [if_pos (show j = j / 3 * 3 + 2 by omega), if_neg r0, if_neg r1]
  · rw [if_neg (show ¬ j = k * 3 + 2 by omega)]
    by_cases h : j / 3 < k
    · rw [if_pos h, if_pos (show j / 3 < k + 1 by omega)]
    · rw [if_neg h, if_neg (show ¬ j / 3 < k + 1 by omega)]

theorem low_lens (ps : List (Int × Int)) (rs : List A3) (zs : List Int) (h1 : ps.length ≤ 1048576) (h2 : rs.length ≤ 1048576) : (lowP ps rs zs).length ≤ 1048576 ∧ (lowR ps rs zs).length ≤ 1048576 := by
  unfold lowP lowR
  cases hok : potB ps rs zs with
  | false => exact ⟨by simp, by simp⟩
  | true => exact ⟨by rw [if_pos rfl]; exact h1, by rw [if_pos rfl, lowL_len]; exact h2⟩

end Go.Proofs.Ytcaamhoakhgnhaa
