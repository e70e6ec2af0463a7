/-
  What (impl.Net).withLine computes: a network with the node or the arc of one more line.
-/
import Derived.Test.YtjaifbbkfgfdeaaDoorLineIm
import Derived.Deep.AppendLies
import Derived.Deep.RegionLaw
namespace Go.Proofs.YtjaifbbkfgfdeaaDoor
open Go.RowKit Go.Deep

theorem own_else {w : World} {base : Nat} {e : TypeId} {size : Nat} {v : Value} {n : Nat} {xs : List Value} (h : w.ownsRow base e size v n xs) {c : Nat} (hc : v.ownBlock ≠ some c) (i : Nat) (x : Value) : (w.setCell ⟨c, i, none⟩ x).ownsRow base e size v n xs :=
  own_block_keep h (grown_set (World.grownBy.refl w (some c)) i x) (fun g e e' => hc (by rw [e]; exact e'.symm))
theorem NRow.other {w : World} {base : Nat} {NV V : Value} {ps : List (Int × Int)} {rs : List A3} (h : NRow w base NV V ps rs) {c : Nat} (h1 : NV.ownBlock ≠ some c) (h2 : V.ownBlock ≠ some c) (i : Nat) (x : Value) : NRow (w.setCell ⟨c, i, none⟩ x) base NV V ps rs :=
  ⟨own_else h.pts h1 i x, own_else h.arcs h2 i x, h.apart⟩
theorem NRow.blocks {w : World} {base : Nat} {NV V : Value} {ps : List (Int × Int)} {rs : List A3} (h : NRow w base NV V ps rs) : (∀ g, NV.ownBlock = some g → base ≤ g ∧ g < w.heap.size) ∧ ∀ g, V.ownBlock = some g → base ≤ g ∧ g < w.heap.size :=
  ⟨fun g e => World.ownsRow.lt h.pts g e, fun g e => World.ownsRow.lt h.arcs g e⟩

theorem lineIs_none {word : List UInt8} {many : Nat} {l : List UInt8} (h : readNs (tailW l) = none) : lineIs word many l = none := by
  unfold lineIs; split
  · exact h
  · rfl
theorem lineIs_some {word : List UInt8} {many : Nat} {l : List UInt8} {zs : List Int} (h : readNs (tailW l) = some zs) (h1 : headW l = word) (h2 : zs.length = many) : lineIs word many l = some zs := by
  unfold lineIs; rw [if_pos ⟨h1, by rw [← readNs_len _ _ h]; exact h2⟩]; exact h
theorem lineIs_head {word : List UInt8} {many : Nat} {l : List UInt8} (h1 : headW l ≠ word) : lineIs word many l = none := by
  unfold lineIs; rw [if_neg (fun h => h1 h.1)]
theorem lineIs_many {word : List UInt8} {many : Nat} {l : List UInt8} {zs : List Int} (h : readNs (tailW l) = some zs) (h2 : zs.length ≠ many) : lineIs word many l = none := by
  unfold lineIs; rw [if_neg (fun k => h2 (by rw [readNs_len _ _ h]; exact k.2))]

theorem word_is (x y : List UInt8) : ((tx x).toList == y) = decide (x = y) := by
  rw [ByteArray.toList_eq, tx_data, Bool.eq_iff_iff, beq_iff_eq, decide_eq_true_eq]
theorem cells2W (w : World) (p : Int × Int) (t : TypeId) : ∀ j u, (cellsP [p])[j]? = some u → (w.alloc (.cells #[.int .i64 p.1, .int .i64 p.2] t)).cell? ((⟨w.heap.size, 0, none⟩ : Addr).add j) = some u := by
  intro j u h
  rw [Addr.add_lit, Nat.zero_add, cell_of_block (heap_alloc_new w _)]
  rw [← h]
  match j with
  | 0 | 1 => rfl
  | j + 2 => simp [cellsP]

/-- What withLine answers. -/
def WithMade (w : World) (base : Nat) (r : Option (List (Int × Int) × List A3)) (e : Ending) (w' : World) : Prop :=
  Below base w w' ∧ match r with
    | some st => ∃ NV V, e = .returned (.tuple #[.agg #[NV, V], .bool true]) ∧ NRow w' base NV V st.1 st.2
    | none => e = .returned (.tuple #[.agg #[.slice none 0 0, .slice none 0 0], .bool false])

set_option maxRecDepth 100000 in
set_option maxHeartbeats 4000000 in
theorem withLine_any (l : List UInt8) (NV V : Value) (ps : List (Int × Int)) (rs : List A3) (base : Nat) (w : World) (hl : l.length < 1048576) (hps : ps.length ≤ 5000) (hrs : rs.length ≤ 5000) (hbw : base ≤ w.heap.size) (N : NRow w base NV V ps rs) (hx : MaxV w) (hv : LibVars w) :
    Calls Tryd.prog 28 #[.agg #[NV, V], .string (tx l)] w (WithMade w base (addL ps rs l)) := by
  obtain ⟨i0, hi, hz0, hz1, hz2⟩ := info_parts Tryd.infoPt
  obtain ⟨i1, hi', hy0, hy1, hy2⟩ := info_parts Tryd.infoArc
  obtain ⟨A, ca, B, cb, rfl, rfl⟩ := N.vals
  have Q := (Pair.new w 27 (.slice A ps.length ca) (.slice B rs.length cb)).alloc (.cells #[.slice none 0 0, .slice none 0 0] 27)
  have R : Pair ((w.alloc (.cells #[.slice A ps.length ca, .slice B rs.length cb] 27)).alloc (.cells #[.slice none 0 0, .slice none 0 0] 27)) (w.heap.size + 1) 27 (.slice none 0 0) (.slice none 0 0) := by
    have := Pair.new (w.alloc (.cells #[.slice A ps.length ca, .slice B rs.length cb] 27)) 27 (.slice none 0 0) (.slice none 0 0); rwa [World.size_alloc] at this
  have K := below2 w (.cells #[.slice A ps.length ca, .slice B rs.length cb] 27) (.cells #[.slice none 0 0, .slice none 0 0] 27)
  obtain ⟨nb, vb⟩ := N.blocks
  replace N := N.below K
  have HAD := Lib.hid (show addL ps rs l = match (if rs.length = 0 then lineIs nodeW 2 l else none) with
    | some zs => some (ps ++ [(zs.getD 0 0, zs.getD 1 0)], rs)
    | none => match lineIs arcW 3 l with
      | some zs => some (ps, rs ++ [(zs.getD 0 0, zs.getD 1 0, zs.getD 2 0)])
      | none => none from rfl)
  go_enter Tryd.func28, Tryd.ntmps28
  go_wp2_with fail
  refine (lineRead_any l _ hl (hx.below K) (hv.below K)).mono ?_; rintro e w1 ⟨b1, M⟩
  replace Q := Q.below b1
  replace R := R.below b1
  replace N := N.below b1
  replace K := K.trans (b1.mono K.size)
  clear b1 hx hv
  cases hr : readNs (tailW l) with
  | none =>
    rw [hr] at M
    obtain rfl := M
    have HQ : Hid (addL ps rs l = none) := Lib.hid (by
      rw [HAD.out, lineIs_none hr, lineIs_none hr, ite_self])
    obtain ⟨r0, r1, r2, r3⟩ := R.cells
    obtain ⟨q0, q1, q2, q3⟩ := Q.cells
    clear HAD
    go_wp2
    refine bodyPost_ret (v := .tuple #[.agg #[.slice none 0 0, .slice none 0 0], .bool false]) (by simp [results, Tryd.results28, go_sem, r0, r1]) rfl ⟨((K.mono hbw).setCell (by simp; omega) _).setCell (by simp; omega) _, ?_⟩
    rw [HQ.out]
  | some zs =>
    rw [hr] at M
    obtain ⟨A2, c2, rfl, O2⟩ := M
    have hin := O2.ints
    obtain ⟨r0, r1, r2, r3⟩ := R.cells
    obtain ⟨q0, q1, q2, q3⟩ := Q.cells
    obtain ⟨hw, HHW⟩ : ∃ hw, Hid (headW l = hw) := ⟨_, rfl⟩
    rw [HHW.out]
    clear O2
    have hnw := word_is hw [110, 111, 100, 101]
    have haw := word_is hw [97, 114, 99]
    by_cases h1 : hw = nodeW
    · have hna : hw ≠ arcW := by rw [h1]; decide
      rw [decide_eq_true (show hw = [110, 111, 100, 101] from h1)] at hnw
      rw [decide_eq_false (show ¬ hw = [97, 114, 99] from hna)] at haw
      by_cases h2 : zs.length = 2
      · by_cases h3 : rs.length = 0
        · have HQ : Hid (addL ps rs l = some (ps ++ [(zg zs 0, zg zs 1)], rs)) := Lib.hid (by rw [HAD.out]; rw [if_pos h3, lineIs_some hr (HHW.out.trans h1) h2]; rfl)
          obtain ⟨b2, o2, rfl, -, z0⟩ := hin.at_ (k := 0) (by omega)
          obtain ⟨b2', o2', e2, -, z1⟩ := hin.at_ (k := 1) (by omega)
          cases e2
          rw [Nat.add_zero] at z0
          have z0d : w1.drew.cell? ⟨b2, o2, none⟩ = some (.int .i64 (zg zs 0)) := z0
          have z1d : w1.drew.cell? ⟨b2, o2 + 1, none⟩ = some (.int .i64 (zg zs 1)) := z1
          have hl2 : (((zs.length : Nat) : Int) == 2) = true := by rw [h2]; rfl
          have hl3 : (((rs.length : Nat) : Int) == 0) = true := by rw [h3]; rfl
          have k4 := (below1 w1 (.cells #[.int .i64 (zg zs 0), .int .i64 (zg zs 1)] 44)).drew
          have N4 := N.below k4
          have Q4 : Pair (w1.alloc (.cells #[.int .i64 (zg zs 0), .int .i64 (zg zs 1)] 44)).drew w.heap.size 27 (.slice A ps.length ca) (.slice B rs.length cb) := Q.below k4
          have R4 : Pair (w1.alloc (.cells #[.int .i64 (zg zs 0), .int .i64 (zg zs 1)] 44)).drew (w.heap.size + 1) 27 (.slice none 0 0) (.slice none 0 0) := R.below k4
          have K4 := K.trans (k4.mono K.size)
          have qFa : (w1.alloc (.cells #[.int .i64 (zg zs 0), .int .i64 (zg zs 1)] 44)).drew.cell? ⟨w.heap.size, 0, none⟩ = some (.slice A ps.length ca) := cell_under k4 q0
          have qFd : w1.drew.cell? ⟨w.heap.size, 0, none⟩ = some (.slice A ps.length ca) := q0
          have hs4 : w1.heap.size + 1 = (w1.alloc (.cells #[.int .i64 (zg zs 0), .int .i64 (zg zs 1)] 44)).drew.heap.size := (World.size_alloc w1 _).symm
          have hq1 := R.lt
          have hb0 : 0 < zs.length := by omega
          have hb1 : 1 < zs.length := by omega
          have hb1i : (1 : Int) < ((zs.length : Nat) : Int) := by omega
          clear HAD k4 z0 z1 h1 h2 h3 hna hin
          go_wp2_with fail
          clear q0 q1 q2 q3 r0 r1 r2 r3 hnw haw
          go_region_law (first
            | (refine step_append_lies _ rfl (.tmp 33) (.tmp 41) 24 rfl base 44 i0 (.agg #[.int .i64 0, .int .i64 0]) 2 16 Tryd.underlying24 hi hz0 hz1 hz2 rfl (by decide) _ ps.length _ rfl N4.pts ⟨w1.heap.size, 0, none⟩ 1 1 (cellsP [(zg zs 0, zg zs 1)]) rfl rfl (fun j u h => cells2W w1 (zg zs 0, zg zs 1) _ j u h) (cellsP_one _) (by decide) (by unfold maxLen; omega) (by omega) (by rw [← hs4]; omega) _ rfl ?_; intro g6 cap6 w6 own6 gr6 hg6 hl6; have Q6 := Q4.grown' gr6 (fun g e => by have := nb g e; omega); have R6 := R4.grown' gr6 (fun g e => by have := nb g e; omega); obtain ⟨q60, q61, q62, q63⟩ := Q6.cells))
          all_goals (
            have hg7 : g6 ≠ w.heap.size ∧ g6 ≠ w.heap.size + 1 := by
              rcases hg6 with h | h
              · have := nb g6 h; omega
              · rw [← hs4] at h; omega
            have N6 := N4.node rfl own6 gr6 hg6
            have K6 := (K4.mono hbw).grown gr6 (by rw [← hs4]; omega) (fun g e => (nb g e).1)
            replace Q6 := Q6.set0 (.slice (some ⟨g6, 0, none⟩) (ps.length + 1) cap6)
            replace R6 := R6.far (c := w.heap.size) (by omega) 0 (.slice (some ⟨g6, 0, none⟩) (ps.length + 1) cap6)
            replace N6 := N6.other (c := w.heap.size) (fun e => by simp [Value.ownBlock] at e; exact hg7.1 e) (fun e => by have := vb _ e; omega) 0 (.slice (some ⟨g6, 0, none⟩) (ps.length + 1) cap6)
            replace K6 : Below base w (w6.setCell ⟨w.heap.size, 0, none⟩ (.slice (some ⟨g6, 0, none⟩) (ps.length + 1) cap6)) := K6.setCell (by simpa using hbw) _
            clear own6 gr6 hg6 hl6 q60 q61 q62 q63 N4 R4 K4 Q4 qFa qFd hs4 N Q R K
            obtain ⟨q0, q1, q2, q3⟩ := Q6.cells
            obtain ⟨r0, r1, r2, r3⟩ := R6.cells
            go_wp2
            refine bodyPost_ret (v := .tuple #[.agg #[.slice (some ⟨g6, 0, none⟩) (ps.length + 1) cap6, .slice B rs.length cb], .bool true]) (by simp [results, Tryd.results28, go_sem, r0, r1]) rfl ⟨(K6.setCell (by simp; omega) _).setCell (by simp; omega) _, ?_⟩
            rw [HQ.out]
            exact ⟨_, _, rfl, (N6.other (c := w.heap.size + 1) (fun e => by simp [Value.ownBlock] at e; exact hg7.2 e) (fun e => by have := vb _ e; omega) 0 _).other (fun e => by simp [Value.ownBlock] at e; exact hg7.2 e) (fun e => by have := vb _ e; omega) 1 _⟩)
        · have HQ : Hid (addL ps rs l = none) := Lib.hid (by rw [HAD.out, if_neg h3, lineIs_head (word := arcW) (by rw [HHW.out]; exact hna)])
          have hl2 : (((zs.length : Nat) : Int) == 2) = true := by rw [h2]; rfl
          have hl3 : (((rs.length : Nat) : Int) == 0) = false := beq_eq_false_iff_ne.2 (by omega)
          clear HAD h1 h2 h3 hna hin
          go_wp2
          refine bodyPost_ret (v := .tuple #[.agg #[.slice none 0 0, .slice none 0 0], .bool false]) (by simp [results, Tryd.results28, go_sem, r0, r1]) rfl ⟨((K.mono hbw).setCell (by simp; omega) _).setCell (by simp; omega) _, ?_⟩
          rw [HQ.out]
      · have HQ : Hid (addL ps rs l = none) := Lib.hid (by rw [HAD.out, lineIs_many hr h2, ite_self, lineIs_head (word := arcW) (by rw [HHW.out]; exact hna)])
        have hl2 : (((zs.length : Nat) : Int) == 2) = false := beq_eq_false_iff_ne.2 (by omega)
        clear HAD h1 h2 hna hin
        go_wp2
        refine bodyPost_ret (v := .tuple #[.agg #[.slice none 0 0, .slice none 0 0], .bool false]) (by simp [results, Tryd.results28, go_sem, r0, r1]) rfl ⟨((K.mono hbw).setCell (by simp; omega) _).setCell (by simp; omega) _, ?_⟩
        rw [HQ.out]
    · rw [decide_eq_false (show ¬ hw = [110, 111, 100, 101] from h1)] at hnw
      by_cases h4 : hw = arcW
      · rw [decide_eq_true (show hw = [97, 114, 99] from h4)] at haw
        by_cases h2 : zs.length = 3
        · have HQ : Hid (addL ps rs l = some (ps, rs ++ [(zg zs 0, zg zs 1, zg zs 2)])) := Lib.hid (by rw [HAD.out]; rw [lineIs_head (word := nodeW) (by rw [HHW.out]; exact h1), ite_self, lineIs_some hr (HHW.out.trans h4) h2]; rfl)
          obtain ⟨b2, o2, rfl, -, z0⟩ := hin.at_ (k := 0) (by omega)
          obtain ⟨b2', o2', e2, -, z1⟩ := hin.at_ (k := 1) (by omega)
          cases e2
          obtain ⟨b2', o2', e2, -, z2⟩ := hin.at_ (k := 2) (by omega)
          cases e2
          rw [Nat.add_zero] at z0
          have z0d : w1.drew.cell? ⟨b2, o2, none⟩ = some (.int .i64 (zg zs 0)) := z0
          have z1d : w1.drew.cell? ⟨b2, o2 + 1, none⟩ = some (.int .i64 (zg zs 1)) := z1
          have z2d : w1.drew.cell? ⟨b2, o2 + 2, none⟩ = some (.int .i64 (zg zs 2)) := z2
          have hl2 : (((zs.length : Nat) : Int) == 3) = true := by rw [h2]; rfl
          have k4 := (below1 w1 (.cells #[.int .i64 (zg zs 0), .int .i64 (zg zs 1), .int .i64 (zg zs 2)] 51)).drew
          have N4 := N.below k4
          have Q4 : Pair (w1.alloc (.cells #[.int .i64 (zg zs 0), .int .i64 (zg zs 1), .int .i64 (zg zs 2)] 51)).drew w.heap.size 27 (.slice A ps.length ca) (.slice B rs.length cb) := Q.below k4
          have R4 : Pair (w1.alloc (.cells #[.int .i64 (zg zs 0), .int .i64 (zg zs 1), .int .i64 (zg zs 2)] 51)).drew (w.heap.size + 1) 27 (.slice none 0 0) (.slice none 0 0) := R.below k4
          have K4 := K.trans (k4.mono K.size)
          have qFa : (w1.alloc (.cells #[.int .i64 (zg zs 0), .int .i64 (zg zs 1), .int .i64 (zg zs 2)] 51)).drew.cell? ⟨w.heap.size, 1, none⟩ = some (.slice B rs.length cb) := cell_under k4 q1
          have qFd : w1.drew.cell? ⟨w.heap.size, 1, none⟩ = some (.slice B rs.length cb) := q1
          have hs4 : w1.heap.size + 1 = (w1.alloc (.cells #[.int .i64 (zg zs 0), .int .i64 (zg zs 1), .int .i64 (zg zs 2)] 51)).drew.heap.size := (World.size_alloc w1 _).symm
          have hq1 := R.lt
          have hb0 : 0 < zs.length := by omega
          have hb1 : 1 < zs.length := by omega
          have hb1i : (1 : Int) < ((zs.length : Nat) : Int) := by omega
          have hb2 : 2 < zs.length := by omega
          have hb2i : (2 : Int) < ((zs.length : Nat) : Int) := by omega
          clear HAD k4 z0 z1 z2 h1 h2 h4 hin
          go_wp2_with fail
          clear q0 q1 q2 q3 r0 r1 r2 r3 hnw haw
          go_region_law (first
            | (refine step_append_lies _ rfl (.tmp 57) (.tmp 68) 25 rfl base 51 i1 (.agg #[.int .i64 0, .int .i64 0, .int .i64 0]) 3 24 Tryd.underlying25 hi' hy0 hy1 hy2 rfl (by decide) _ rs.length _ rfl N4.arcs ⟨w1.heap.size, 0, none⟩ 1 1 (cellsA [(zg zs 0, zg zs 1, zg zs 2)]) rfl rfl (fun j u h => cells3_new w1 (zg zs 0, zg zs 1, zg zs 2) _ j u h) (cellsA_one _) (by decide) (by unfold maxLen; omega) (by omega) (by rw [← hs4]; omega) _ rfl ?_; intro g6 cap6 w6 own6 gr6 hg6 hl6; have Q6 := Q4.grown' gr6 (fun g e => by have := vb g e; omega); have R6 := R4.grown' gr6 (fun g e => by have := vb g e; omega); obtain ⟨q60, q61, q62, q63⟩ := Q6.cells))
          all_goals (
            have hg7 : g6 ≠ w.heap.size ∧ g6 ≠ w.heap.size + 1 := by
              rcases hg6 with h | h
              · have := vb g6 h; omega
              · rw [← hs4] at h; omega
            have N6 := N4.arc rfl own6 gr6 hg6
            have K6 := (K4.mono hbw).grown gr6 (by rw [← hs4]; omega) (fun g e => (vb g e).1)
            replace Q6 := Q6.set1 (.slice (some ⟨g6, 0, none⟩) (rs.length + 1) cap6)
            replace R6 := R6.far (c := w.heap.size) (by omega) 1 (.slice (some ⟨g6, 0, none⟩) (rs.length + 1) cap6)
            replace N6 := N6.other (c := w.heap.size) (fun e => by have := nb _ e; omega) (fun e => by simp [Value.ownBlock] at e; exact hg7.1 e) 1 (.slice (some ⟨g6, 0, none⟩) (rs.length + 1) cap6)
            replace K6 : Below base w (w6.setCell ⟨w.heap.size, 1, none⟩ (.slice (some ⟨g6, 0, none⟩) (rs.length + 1) cap6)) := K6.setCell (by simpa using hbw) _
            clear own6 gr6 hg6 hl6 q60 q61 q62 q63 N4 R4 K4 Q4 qFa qFd hs4 N Q R K
            obtain ⟨q0, q1, q2, q3⟩ := Q6.cells
            obtain ⟨r0, r1, r2, r3⟩ := R6.cells
            go_wp2
            refine bodyPost_ret (v := .tuple #[.agg #[.slice A ps.length ca, .slice (some ⟨g6, 0, none⟩) (rs.length + 1) cap6], .bool true]) (by simp [results, Tryd.results28, go_sem, r0, r1]) rfl ⟨(K6.setCell (by simp; omega) _).setCell (by simp; omega) _, ?_⟩
            rw [HQ.out]
            exact ⟨_, _, rfl, (N6.other (c := w.heap.size + 1) (fun e => by have := nb _ e; omega) (fun e => by simp [Value.ownBlock] at e; exact hg7.2 e) 0 _).other (fun e => by have := nb _ e; omega) (fun e => by simp [Value.ownBlock] at e; exact hg7.2 e) 1 _⟩)
        · have HQ : Hid (addL ps rs l = none) := Lib.hid (by rw [HAD.out, lineIs_head (word := nodeW) (by rw [HHW.out]; exact h1), ite_self, lineIs_many hr h2])
          have hl2 : (((zs.length : Nat) : Int) == 3) = false := beq_eq_false_iff_ne.2 (by omega)
          clear HAD h1 h2 h4 hin
          go_wp2
          refine bodyPost_ret (v := .tuple #[.agg #[.slice none 0 0, .slice none 0 0], .bool false]) (by simp [results, Tryd.results28, go_sem, r0, r1]) rfl ⟨((K.mono hbw).setCell (by simp; omega) _).setCell (by simp; omega) _, ?_⟩
          rw [HQ.out]
      · rw [decide_eq_false (show ¬ hw = [97, 114, 99] from h4)] at haw
        have HQ : Hid (addL ps rs l = none) := Lib.hid (by rw [HAD.out, lineIs_head (word := nodeW) (by rw [HHW.out]; exact h1), ite_self, lineIs_head (word := arcW) (by rw [HHW.out]; exact h4)])
        clear HAD h1 h4 hin
        go_wp2
        refine bodyPost_ret (v := .tuple #[.agg #[.slice none 0 0, .slice none 0 0], .bool false]) (by simp [results, Tryd.results28, go_sem, r0, r1]) rfl ⟨((K.mono hbw).setCell (by simp; omega) _).setCell (by simp; omega) _, ?_⟩
        rw [HQ.out]

end Go.Proofs.YtjaifbbkfgfdeaaDoor
