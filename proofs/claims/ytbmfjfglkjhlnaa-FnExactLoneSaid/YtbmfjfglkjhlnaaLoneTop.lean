/-
  What impl.Lone computes.
-/
import Derived.Test.YtbmfjfglkjhlnaaLoneCp
namespace Go.Proofs.Ytbmfjfglkjhlnaa
open Go.RowKit Go.Deep Go.Maps

set_option maxRecDepth 100000 in
set_option maxHeartbeats 4000000 in
theorem implLone_yes (A B : Option Addr) (ca cb : Nat) (ps : List (Int × Int)) (rs : List A3) (v : Int) (w : World) (hn : ps.length ≤ 1048576) (hm : rs.length ≤ 1048576) (ha : IsPts w A ps) (hb : IsArcs w B rs) (h1 : netB ps rs = true) (h2 : btB v 0 ((ps.length : Int) - 1) = true) :
    Calls Try.prog 47 #[.agg #[.slice A ps.length ca, .slice B rs.length cb], .int .i64 v] w (NetOwned w ps (loneL rs v)) := by
  obtain ⟨W, hW⟩ : ∃ W, W = ((w.alloc (.cells #[.slice A ps.length ca, .slice B rs.length cb] 34)).alloc (.cells #[.int .i64 v] 3)).alloc (.cells #[.slice none 0 0, .slice none 0 0] 34) := ⟨_, rfl⟩
  have X := ((Pair.new w 34 (.slice A ps.length ca) (.slice B rs.length cb)).alloc (.cells #[.int .i64 v] 3)).alloc (.cells #[.slice none 0 0, .slice none 0 0] 34)
  have Y : Pair (((w.alloc (.cells #[.slice A ps.length ca, .slice B rs.length cb] 34)).alloc (.cells #[.int .i64 v] 3)).alloc (.cells #[.slice none 0 0, .slice none 0 0] 34)) (w.heap.size + 2) 34 (.slice none 0 0) (.slice none 0 0) := by
    have := Pair.new ((w.alloc (.cells #[.slice A ps.length ca, .slice B rs.length cb] 34)).alloc (.cells #[.int .i64 v] 3)) 34 (.slice none 0 0) (.slice none 0 0); rwa [World.size_alloc, World.size_alloc] at this
  have cv : (((w.alloc (.cells #[.slice A ps.length ca, .slice B rs.length cb] 34)).alloc (.cells #[.int .i64 v] 3)).alloc (.cells #[.slice none 0 0, .slice none 0 0] 34)).cell? ⟨w.heap.size + 1, 0, none⟩ = some (.int .i64 v) := by
    have h : ((w.alloc (.cells #[.slice A ps.length ca, .slice B rs.length cb] 34)).alloc (.cells #[.int .i64 v] 3)).cell? ⟨w.heap.size + 1, 0, none⟩ = some (.int .i64 v) := by
      have := cell_of_block (i := 0) (heap_alloc_new (w.alloc (.cells #[.slice A ps.length ca, .slice B rs.length cb] 34)) (.cells #[.int .i64 v] 3))
      rw [World.size_alloc] at this
      rw [this]; rfl
    exact cell_under (below1 _ _) h
  have K : Below w.heap.size w (((w.alloc (.cells #[.slice A ps.length ca, .slice B rs.length cb] 34)).alloc (.cells #[.int .i64 v] 3)).alloc (.cells #[.slice none 0 0, .slice none 0 0] 34)) := (below2 w _ _).alloc (by simp; omega) _
  rw [← hW] at X Y cv K
  have HW := Lib.hid hW
  clear hW
  obtain ⟨LL, hLL⟩ : ∃ LL, LL = loneL rs v := ⟨_, rfl⟩
  rw [← hLL]
  have HLL := Lib.hid hLL
  have HLe : LL.length ≤ rs.length := by rw [hLL]; exact loneL_len rs v
  clear hLL
  obtain ⟨x0, x1, -, -⟩ := X.cells
  go_enter Try.func47, Try.ntmps47
  go_wp2_with fail
  rw [← HW.out]
  clear HW
  refine (implNetOk_any A B ca cb ps rs _ hn hm (ha.below K) (hb.below K)).mono ?_; rw [h1]; rintro e w1 ⟨rfl, b1⟩
  replace X := X.below b1
  replace Y := Y.below b1
  replace cv := cell_under b1 cv
  replace K := K.trans (b1.mono K.size)
  clear b1 x0 x1
  obtain ⟨x0, x1, -, -⟩ := X.cells
  go_wp2_with fail
  refine (hasNode_any A B ps.length rs.length ca cb v _).mono ?_; rw [h2]; rintro e w2 ⟨rfl, b2⟩
  replace X := X.below b2
  replace Y := Y.below b2
  replace cv := cell_under b2 cv
  replace K := K.trans (b2.mono K.size)
  clear b2 x0 x1
  obtain ⟨x0, x1, -, -⟩ := X.cells
  have hYl := Y.lt
  go_wp2_with fail
  refine (copied_any A B ca cb ps rs _ hn hm (ha.below K) (hb.below K)).mono ?_; rintro e w3 ⟨A3, B3, ca3, cb3, rfl, hcb3, P3, R3, PT3, b3⟩
  replace Y := Y.below b3
  replace cv := cell_under b3 cv
  have hYl3 := Y.lt
  have hK2 := K.size
  replace K := K.trans (b3.mono K.size)
  have hl3 := b3.size
  clear b3 x0 x1 X
  -- the box of the copy
  have kb := below1 w3 (.cells #[.slice A3 ps.length ca3, .slice B3 rs.length cb3] 34)
  have Q := Pair.new w3 34 (.slice A3 ps.length ca3) (.slice B3 rs.length cb3)
  have hP3 := fun g e => blk_own P3 (g := g) e
  have Y4 := Y.below kb
  have cv4 := cell_under kb cv
  have K4 := K.trans (kb.mono K.size)
  have P4 := P3.below kb
  have HP3 := Lib.hid hP3
  have HPT := Lib.hid PT3
  obtain ⟨ob, hob⟩ : ∃ ob, ob = w3.heap.size := ⟨_, rfl⟩
  rw [← hob] at Q
  have HOB := Lib.hid hob
  have hob2 : w2.heap.size ≤ ob := by omega
  have hob3 : w.heap.size + 2 < ob := by omega
  clear Y cv K P3 hP3 PT3
  rcases Nat.eq_zero_or_pos rs.length with h0 | h0
  · have HR0 := Lib.hid h0
    have HL0 : Hid (LL.length = rs.length) := Lib.hid (by omega)
    clear h0 R3 hob
    obtain ⟨q0, q1, q2, q3⟩ := Q.cells
    go_wp2_with fail
    rw [← HOB.out]
    refine (deleteLone_none cb3 rs B3 (w.heap.size + 1) v _ HR0.out cv4).mono ?_; rintro e w5 ⟨rfl, b5⟩
    have Y5 := (Y4.below b5).far (c := ob) (by omega) 1 (.slice B3 rs.length cb3)
    have Q5a := Q.below b5
    have Q5 := Q5a.set1 (.slice B3 rs.length cb3)
    have P5 := P4.below b5
    have K5 := (K4.trans (b5.mono K4.size)).setCell (p := ⟨ob, 1, none⟩) (by simp; omega) (.slice B3 rs.length cb3)
    obtain ⟨r0, r1, r2, r3⟩ := Q5a.cells
    obtain ⟨s0, s1, -, -⟩ := Q5.cells
    obtain ⟨y0, y1, y2, y3⟩ := Y5.cells
    obtain ⟨z0, z1, -, -⟩ := ((Y5.set0 (.slice A3 ps.length ca3)).set1 (.slice B3 rs.length cb3)).cells
    clear q0 q1 q2 q3 b5 cv4
    have HE : Hid (NetOwned w ps LL (.returned (.agg #[.slice A3 ps.length ca3, .slice B3 rs.length cb3])) (((w5.setCell ⟨ob, 1, none⟩ (.slice B3 rs.length cb3)).setCell ⟨w.heap.size + 2, 0, none⟩ (.slice A3 ps.length ca3)).setCell ⟨w.heap.size + 2, 1, none⟩ (.slice B3 rs.length cb3))) := Lib.hid (by
      refine ⟨A3, B3, ca3, cb3, by rw [HL0.out], fun hp => ?_, fun hp => ?_, fun g e e' => ?_, (K5.setCell (by simp) _).setCell (by simp) _⟩
      · obtain ⟨g, o, h1, h2, h3⟩ := P5 hp
        have hg := (HP3.out g (by rw [h1]; exact blk_some hp))
        have := HOB.out
        exact ⟨g, o, h1, by omega, OwnAt.of_block h3 (by rw [Below.heap_setCell _ _ _ _ (by simp; omega), Below.heap_setCell _ _ _ _ (by simp; omega), Below.heap_setCell _ _ _ _ (by simp; omega)])⟩
      · have := HL0.out; have := HR0.out; omega
      · unfold blk at e'
        rw [if_neg (by have := HL0.out; have := HR0.out; omega)] at e'; cases e')
    go_wp2
    exact bodyPost_ret (v := .agg #[.slice A3 ps.length ca3, .slice B3 rs.length cb3]) (by simp [results, Try.results47, go_sem, z0, z1]) rfl HE.out
  · obtain ⟨g3, rfl, hg3, O3⟩ := R3 h0
    have hg3l := O3.lt
    have O4 := O3.below kb
    have HB3 : Hid (∀ g, blk A3 (ps.length * 2) = some g → g ≠ g3) := Lib.hid (fun g e => HPT.out g e g3 (by rw [blk_some (by omega)]))
    have hg3o : g3 < ob := by omega
    have hg3w : w.heap.size + 2 < g3 := by omega
    have hne : w.heap.size + 1 ≠ g3 := by omega
    clear O3 R3 HPT hob hYl3
    obtain ⟨q0, q1, q2, q3⟩ := Q.cells
    go_wp2_with fail
    rw [← HOB.out]
    refine (deleteLone_any g3 0 cb3 rs (w.heap.size + 1) v _ hm h0 hcb3 O4 cv4 hne).mono ?_; rw [← HLL.out]; rintro e w5 ⟨rfl, O5, D5⟩
    have hsz4 : (w3.alloc (.cells #[.slice A3 ps.length ca3, .slice (some ⟨g3, 0, none⟩) rs.length cb3] 34)).heap.size = ob + 1 := by rw [World.size_alloc, HOB.out]
    have Y5a : Pair w5 (w.heap.size + 2) 34 (.slice none 0 0) (.slice none 0 0) := (D5.block _ (by rw [hsz4]; omega) (by omega)).trans Y4
    have Q5a : Pair w5 ob 34 (.slice A3 ps.length ca3) (.slice (some ⟨g3, 0, none⟩) rs.length cb3) := (D5.block _ (by rw [hsz4]; omega) (by omega)).trans Q
    have Y5 := Y5a.far (c := ob) (by omega) 1 (.slice (some ⟨g3, 0, none⟩) LL.length cb3)
    have Q5 := Q5a.set1 (.slice (some ⟨g3, 0, none⟩) LL.length cb3)
    have K5a : Below w.heap.size w w5 := ⟨D5.os.trans K4.os, D5.tape.trans K4.tape, D5.output.trans K4.output, Nat.le_trans K4.size D5.size, fun k hk => (D5.block k (by rw [hsz4]; omega) (by omega)).trans (K4.block k hk)⟩
    have K5 := K5a.setCell (p := ⟨ob, 1, none⟩) (by simp; omega) (.slice (some ⟨g3, 0, none⟩) LL.length cb3)
    obtain ⟨r0, r1, r2, r3⟩ := Q5a.cells
    obtain ⟨s0, s1, -, -⟩ := Q5.cells
    obtain ⟨y0, y1, y2, y3⟩ := Y5.cells
    obtain ⟨z0, z1, -, -⟩ := ((Y5.set0 (.slice A3 ps.length ca3)).set1 (.slice (some ⟨g3, 0, none⟩) LL.length cb3)).cells
    have HE : Hid (NetOwned w ps LL (.returned (.agg #[.slice A3 ps.length ca3, .slice (some ⟨g3, 0, none⟩) LL.length cb3])) (((w5.setCell ⟨ob, 1, none⟩ (.slice (some ⟨g3, 0, none⟩) LL.length cb3)).setCell ⟨w.heap.size + 2, 0, none⟩ (.slice A3 ps.length ca3)).setCell ⟨w.heap.size + 2, 1, none⟩ (.slice (some ⟨g3, 0, none⟩) LL.length cb3))) := Lib.hid (by
      refine ⟨A3, some ⟨g3, 0, none⟩, ca3, cb3, rfl, fun hp => ?_, fun hp => ?_, fun g e e' => ?_, (K5.setCell (by simp) _).setCell (by simp) _⟩
      · obtain ⟨g, o, h1, h2, h3⟩ := P4 hp
        have e := (show blk A3 (ps.length * 2) = some g by rw [h1]; exact blk_some hp)
        have hg := HP3.out g e
        have hgn := HB3.out g e
        have := HOB.out
        exact ⟨g, o, h1, by omega, OwnAt.of_block h3 (by rw [Below.heap_setCell _ _ _ _ (by simp; omega), Below.heap_setCell _ _ _ _ (by simp; omega), Below.heap_setCell _ _ _ _ (by simp; omega)]; exact D5.block g h3.lt hgn)⟩
      · exact ⟨g3, 0, rfl, by omega, OwnAt.of_block O5 (by rw [Below.heap_setCell _ _ _ _ (by simp; omega), Below.heap_setCell _ _ _ _ (by simp; omega), Below.heap_setCell _ _ _ _ (by simp; omega)])⟩
      · unfold blk at e'
        split at e'
        · simp at e'; exact absurd e'.symm (HB3.out g e)
        · cases e')
    clear q0 q1 q2 q3 cv4 O5 O4 P4 Q Y4 K4 D5 Y5a Q5a K5a hsz4
    go_wp2
    exact bodyPost_ret (v := .agg #[.slice A3 ps.length ca3, .slice (some ⟨g3, 0, none⟩) LL.length cb3]) (by simp [results, Try.results47, go_sem, z0, z1]) rfl HE.out

set_option maxHeartbeats 1000000 in
theorem implLone_no (A B : Option Addr) (ca cb : Nat) (ps : List (Int × Int)) (rs : List A3) (v : Int) (w : World) (hn : ps.length ≤ 1048576) (hm : rs.length ≤ 1048576) (ha : IsPts w A ps) (hb : IsArcs w B rs) (hno : netB ps rs = false ∨ btB v 0 ((ps.length : Int) - 1) = false) :
    Calls Try.prog 47 #[.agg #[.slice A ps.length ca, .slice B rs.length cb], .int .i64 v] w (NetOwned w [] []) := by
  have X := ((Pair.new w 34 (.slice A ps.length ca) (.slice B rs.length cb)).alloc (.cells #[.int .i64 v] 3)).alloc (.cells #[.slice none 0 0, .slice none 0 0] 34)
  have Y : Pair (((w.alloc (.cells #[.slice A ps.length ca, .slice B rs.length cb] 34)).alloc (.cells #[.int .i64 v] 3)).alloc (.cells #[.slice none 0 0, .slice none 0 0] 34)) (w.heap.size + 2) 34 (.slice none 0 0) (.slice none 0 0) := by
    have := Pair.new ((w.alloc (.cells #[.slice A ps.length ca, .slice B rs.length cb] 34)).alloc (.cells #[.int .i64 v] 3)) 34 (.slice none 0 0) (.slice none 0 0); rwa [World.size_alloc, World.size_alloc] at this
  have cv : (((w.alloc (.cells #[.slice A ps.length ca, .slice B rs.length cb] 34)).alloc (.cells #[.int .i64 v] 3)).alloc (.cells #[.slice none 0 0, .slice none 0 0] 34)).cell? ⟨w.heap.size + 1, 0, none⟩ = some (.int .i64 v) := by
    have h : ((w.alloc (.cells #[.slice A ps.length ca, .slice B rs.length cb] 34)).alloc (.cells #[.int .i64 v] 3)).cell? ⟨w.heap.size + 1, 0, none⟩ = some (.int .i64 v) := by
      have := cell_of_block (i := 0) (heap_alloc_new (w.alloc (.cells #[.slice A ps.length ca, .slice B rs.length cb] 34)) (.cells #[.int .i64 v] 3))
      rw [World.size_alloc] at this
      rw [this]; rfl
    exact cell_under (below1 _ _) h
  have K : Below w.heap.size w (((w.alloc (.cells #[.slice A ps.length ca, .slice B rs.length cb] 34)).alloc (.cells #[.int .i64 v] 3)).alloc (.cells #[.slice none 0 0, .slice none 0 0] 34)) := (below2 w _ _).alloc (by simp; omega) _
  obtain ⟨x0, x1, -, -⟩ := X.cells
  cases h1 : netB ps rs with
  | false =>
    go_enter Try.func47, Try.ntmps47
    go_wp2_with fail
    refine (implNetOk_any A B ca cb ps rs _ hn hm (ha.below K) (hb.below K)).mono ?_; rw [h1]; rintro e w1 ⟨rfl, b1⟩
    replace Y := Y.below b1
    replace K := K.trans (b1.mono K.size)
    clear b1 x0 x1 X
    obtain ⟨y0, y1, y2, y3⟩ := Y.cells
    go_wp2
    exact bodyPost_ret (v := .agg #[.slice none 0 0, .slice none 0 0]) (by simp [results, Try.results47, go_sem, y0, y1]) rfl (netOwned_nil ((K.setCell (by simp; omega) _).setCell (by simp; omega) _))
  | true =>
    have h2 : btB v 0 ((ps.length : Int) - 1) = false := hno.resolve_left (by rw [h1]; simp)
    go_enter Try.func47, Try.ntmps47
    go_wp2_with fail
    refine (implNetOk_any A B ca cb ps rs _ hn hm (ha.below K) (hb.below K)).mono ?_; rw [h1]; rintro e w1 ⟨rfl, b1⟩
    replace X := X.below b1
    replace cv := cell_under b1 cv
    replace Y := Y.below b1
    replace K := K.trans (b1.mono K.size)
    clear b1 x0 x1
    obtain ⟨x0, x1, -, -⟩ := X.cells
    go_wp2_with fail
    refine (hasNode_any A B ps.length rs.length ca cb v _).mono ?_; rw [h2]; rintro e w2 ⟨rfl, b2⟩
    replace Y := Y.below b2
    replace K := K.trans (b2.mono K.size)
    clear b2 x0 x1 X
    obtain ⟨y0, y1, y2, y3⟩ := Y.cells
    go_wp2
    exact bodyPost_ret (v := .agg #[.slice none 0 0, .slice none 0 0]) (by simp [results, Try.results47, go_sem, y0, y1]) rfl (netOwned_nil ((K.setCell (by simp; omega) _).setCell (by simp; omega) _))

theorem implLone_any (A B : Option Addr) (ca cb : Nat) (ps : List (Int × Int)) (rs : List A3) (v : Int) (w : World) (hn : ps.length ≤ 1048576) (hm : rs.length ≤ 1048576) (ha : IsPts w A ps) (hb : IsArcs w B rs) :
    Calls Try.prog 47 #[.agg #[.slice A ps.length ca, .slice B rs.length cb], .int .i64 v] w (NetOwned w (loneP ps rs v) (loneR ps rs v)) := by
  by_cases h : netB ps rs = false ∨ btB v 0 ((ps.length : Int) - 1) = false
  · rw [(lone_no h).1, (lone_no h).2]; exact implLone_no A B ca cb ps rs v w hn hm ha hb h
  · have hb' : ∀ b : Bool, ¬ b = false → b = true := fun b hb => by cases b <;> simp_all
    have h1 := hb' _ (fun e => h (.inl e))
    have h2 := hb' _ (fun e => h (.inr e))
    rw [(lone_yes h1 h2).1, (lone_yes h1 h2).2]
    exact implLone_yes A B ca cb ps rs v w hn hm ha hb h1 h2

end Go.Proofs.Ytbmfjfglkjhlnaa
