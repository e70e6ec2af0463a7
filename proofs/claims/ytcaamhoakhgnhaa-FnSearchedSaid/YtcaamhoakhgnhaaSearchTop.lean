/-
  What spec.Search computes.
-/
import Derived.Test.YtcaamhoakhgnhaaSpAll
namespace Go.Proofs.Ytcaamhoakhgnhaa
open Go.RowKit Go.Deep Go.Maps

set_option maxRecDepth 100000 in
set_option maxHeartbeats 4000000 in
theorem specSearch_no (A B : Option Addr) (ca cb : Nat) (ps : List (Int × Int)) (rs : List A3) (s t : Int) (w : World) (hn : ps.length ≤ 1048576) (hm : rs.length ≤ 1048576) (ha : IsPts w A ps) (hb : IsArcs w B rs) (hno : netB ps rs = false ∨ btB s 0 ((ps.length : Int) - 1) = false ∨ btB t 0 ((ps.length : Int) - 1) = false) :
    Calls Try.prog 15 #[.agg #[.slice A ps.length ca, .slice B rs.length cb], .int .i64 s, .int .i64 t] w (SeenMade w (idsL (srL ps rs s t)) (keysL (srL ps rs s t))) := by
  have HN := Lib.hid (srL_no hno)
  have X := (Pair.new w 32 (.slice A ps.length ca) (.slice B rs.length cb)).alloc (.cells #[.slice none 0 0, .slice none 0 0] 42)
  have Y : Pair ((w.alloc (.cells #[.slice A ps.length ca, .slice B rs.length cb] 32)).alloc (.cells #[.slice none 0 0, .slice none 0 0] 42)) (w.heap.size + 1) 42 (.slice none 0 0) (.slice none 0 0) := by
    have := Pair.new (w.alloc (.cells #[.slice A ps.length ca, .slice B rs.length cb] 32)) 42 (.slice none 0 0) (.slice none 0 0); rwa [World.size_alloc] at this
  have K := below2 w (.cells #[.slice A ps.length ca, .slice B rs.length cb] 32) (.cells #[.slice none 0 0, .slice none 0 0] 42)
  obtain ⟨x0, x1, -, -⟩ := X.cells
  cases h1 : netB ps rs with
  | false =>
    go_enter Try.func15, Try.ntmps15
    go_wp2_with fail
    refine (specNetOk_any A B ca cb ps rs _ hn hm (ha.below K) (hb.below K)).mono ?_; rw [h1]; rintro e w1 ⟨rfl, b1⟩
    replace X := X.below b1
    replace Y := Y.below b1
    replace K := K.trans (b1.mono K.size)
    clear b1 x0 x1
    obtain ⟨y0, y1, y2, y3⟩ := Y.cells
    clear X
    go_wp2
    exact bodyPost_ret (v := .agg #[.slice none 0 0, .slice none 0 0]) (by simp [results, Try.results15, go_sem, y0, y1]) rfl (seenMade_nil HN.out ((K.setCell (by simp) _).setCell (by simp) _))
  | true =>
    cases h2 : btB s 0 ((ps.length : Int) - 1) with
    | false =>
      go_enter Try.func15, Try.ntmps15
      go_wp2_with fail
      refine (specNetOk_any A B ca cb ps rs _ hn hm (ha.below K) (hb.below K)).mono ?_; rw [h1]; rintro e w1 ⟨rfl, b1⟩
      replace X := X.below b1
      replace Y := Y.below b1
      replace K := K.trans (b1.mono K.size)
      clear b1 x0 x1
      obtain ⟨x0, x1, -, -⟩ := X.cells
      go_wp2_with fail
      refine (l04Node_any A B ps.length rs.length ca cb s _ hn).mono ?_; rw [h2]; rintro e w2 ⟨rfl, b2⟩
      replace X := X.below b2
      replace Y := Y.below b2
      replace K := K.trans (b2.mono K.size)
      clear b2 x0 x1
      obtain ⟨y0, y1, y2, y3⟩ := Y.cells
      clear X
      go_wp2
      exact bodyPost_ret (v := .agg #[.slice none 0 0, .slice none 0 0]) (by simp [results, Try.results15, go_sem, y0, y1]) rfl (seenMade_nil HN.out ((K.setCell (by simp) _).setCell (by simp) _))
    | true =>
      have h3 : btB t 0 ((ps.length : Int) - 1) = false := by
        rcases hno with h | h | h
        · rw [h1] at h; cases h
        · rw [h2] at h; cases h
        · exact h
      go_enter Try.func15, Try.ntmps15
      go_wp2_with fail
      refine (specNetOk_any A B ca cb ps rs _ hn hm (ha.below K) (hb.below K)).mono ?_; rw [h1]; rintro e w1 ⟨rfl, b1⟩
      replace X := X.below b1
      replace Y := Y.below b1
      replace K := K.trans (b1.mono K.size)
      clear b1 x0 x1
      obtain ⟨x0, x1, -, -⟩ := X.cells
      go_wp2_with fail
      refine (l04Node_any A B ps.length rs.length ca cb s _ hn).mono ?_; rw [h2]; rintro e w2 ⟨rfl, b2⟩
      replace X := X.below b2
      replace Y := Y.below b2
      replace K := K.trans (b2.mono K.size)
      clear b2 x0 x1
      obtain ⟨x0, x1, -, -⟩ := X.cells
      go_wp2_with fail
      refine (l04Node_any A B ps.length rs.length ca cb t _ hn).mono ?_; rw [h3]; rintro e w3 ⟨rfl, b3⟩
      replace X := X.below b3
      replace Y := Y.below b3
      replace K := K.trans (b3.mono K.size)
      clear b3 x0 x1
      obtain ⟨y0, y1, y2, y3⟩ := Y.cells
      clear X
      go_wp2
      exact bodyPost_ret (v := .agg #[.slice none 0 0, .slice none 0 0]) (by simp [results, Try.results15, go_sem, y0, y1]) rfl (seenMade_nil HN.out ((K.setCell (by simp) _).setCell (by simp) _))

/-- A network in its box. -/
abbrev BxS (b : Nat) (u v : Value) (w : World) : Prop := w.cell? ⟨b, 0, none⟩ = some u ∧ w.cell? ⟨b, 1, none⟩ = some v
theorem BxS.under {b : Nat} {u v : Value} {w w' : World} (hb : Below w.heap.size w w') (h : BxS b u v w) : BxS b u v w' := ⟨cell_under hb h.1, cell_under hb h.2⟩
theorem BxS.set2 {b : Nat} {u v : Value} {w : World} {ob : Nat} (hb : b ≠ ob) (h : BxS b u v w) (x y : Value) : BxS b u v ((w.setCell ⟨ob, 0, none⟩ x).setCell ⟨ob, 1, none⟩ y) := by
  have e : ((w.setCell ⟨ob, 0, none⟩ x).setCell ⟨ob, 1, none⟩ y).heap[b]? = w.heap[b]? := by rw [Below.heap_setCell _ _ _ _ (by simpa using hb), Below.heap_setCell _ _ _ _ (by simpa using hb)]
  exact ⟨(World.cell?_of_block (w := w) (a := ⟨b, 0, none⟩) e).trans h.1, (World.cell?_of_block (w := w) (a := ⟨b, 1, none⟩) e).trans h.2⟩
theorem zeros_made (w : World) (n : Nat) : IsInts (w.alloc (.cells (madeCells #[.int .i64 0] n) 3)) (some ⟨w.heap.size, 0, none⟩) (List.replicate n 0) := fun hp => by
  have I := IRow.made w n
  exact ⟨w.heap.size, 0, rfl, I.lt, fun i hi => by
    have hi' : i < n := by simpa using hi
    rw [Nat.zero_add, I.cell hi', zg_zeros]⟩

set_option maxRecDepth 100000 in
set_option maxHeartbeats 4000000 in
theorem specSearch_yes (A B : Option Addr) (ca cb : Nat) (ps : List (Int × Int)) (rs : List A3) (s t : Nat) (w : World) (hn : ps.length ≤ 1048576) (hm : rs.length ≤ 1048576) (ha : IsPts w A ps) (hb : IsArcs w B rs) (h1 : netB ps rs = true) (hs : s < ps.length) (ht : t < ps.length) :
    Calls Try.prog 15 #[.agg #[.slice A ps.length ca, .slice B rs.length cb], .int .i64 (s : Int), .int .i64 (t : Int)] w (SeenMade w (idsL (srL ps rs s t)) (keysL (srL ps rs s t))) := by
  have hz := netZ_zero h1
  have hL := srL_yes h1 hs ht
  have HSP := Lib.hid (fun (V : World) (C : Option Addr) (cc : Nat) (hv : IsArcs V B rs) (hc : IsInts V C (List.replicate ps.length 0)) => (by
    have h := l06Search_any A B C ca cb cc ps.length rs (List.replicate ps.length 0) s t V hz hs hv hc
    rw [List.length_replicate] at h; exact h : Calls Try.prog 51 #[.agg #[.slice A ps.length ca, .slice B rs.length cb], .int .i64 (s : Int), .int .i64 (t : Int), .slice C ps.length cc] V (SeenMade V (idsL (took ps.length rs (List.replicate ps.length 0) s t)) (dsL (List.replicate ps.length 0) (took ps.length rs (List.replicate ps.length 0) s t)))))
  have hdz := dsL_zero ps.length (took ps.length rs (List.replicate ps.length 0) s t)
  rw [hdz] at HSP
  rw [hL]
  generalize took ps.length rs (List.replicate ps.length 0) s t = L at HSP ⊢
  clear hL hdz
  have h20 := hz.n20
  clear hz
  have h2 : btB (s : Int) 0 ((ps.length : Int) - 1) = true := btB_true (by omega) (by omega)
  have h3 : btB (t : Int) 0 ((ps.length : Int) - 1) = true := btB_true (by omega) (by omega)
  have hmk := fun V => run_make_row' (P := Try.prog) (w := V) 40 3 (.int .i64 0) 8 Try.underlying40 Try.infoInt rfl .i64 .i64 ps.length (by omega) (by omega)
  have X := (Pair.new w 32 (.slice A ps.length ca) (.slice B rs.length cb)).alloc (.cells #[.slice none 0 0, .slice none 0 0] 42)
  have Y : Pair ((w.alloc (.cells #[.slice A ps.length ca, .slice B rs.length cb] 32)).alloc (.cells #[.slice none 0 0, .slice none 0 0] 42)) (w.heap.size + 1) 42 (.slice none 0 0) (.slice none 0 0) := by
    have := Pair.new (w.alloc (.cells #[.slice A ps.length ca, .slice B rs.length cb] 32)) 42 (.slice none 0 0) (.slice none 0 0); rwa [World.size_alloc] at this
  have K := below2 w (.cells #[.slice A ps.length ca, .slice B rs.length cb] 32) (.cells #[.slice none 0 0, .slice none 0 0] 42)
  obtain ⟨x0, x1, -, -⟩ := X.cells
  go_enter Try.func15, Try.ntmps15
  go_wp2_with fail
  refine (specNetOk_any A B ca cb ps rs _ hn hm (ha.below K) (hb.below K)).mono ?_; rw [h1]; rintro e w1 ⟨rfl, b1⟩
  replace X := X.below b1
  replace Y := Y.below b1
  replace K := K.trans (b1.mono K.size)
  clear b1 x0 x1
  obtain ⟨x0, x1, -, -⟩ := X.cells
  go_wp2_with fail
  refine (l04Node_any A B ps.length rs.length ca cb (s : Int) _ hn).mono ?_; rw [h2]; rintro e w2 ⟨rfl, b2⟩
  replace X := X.below b2
  replace Y := Y.below b2
  replace K := K.trans (b2.mono K.size)
  clear b2 x0 x1
  obtain ⟨x0, x1, -, -⟩ := X.cells
  go_wp2_with fail
  refine (l04Node_any A B ps.length rs.length ca cb (t : Int) _ hn).mono ?_; rw [h3]; rintro e w3 ⟨rfl, b3⟩
  replace X := X.below b3
  replace Y := Y.below b3
  replace K := K.trans (b3.mono K.size)
  clear b3 x0 x1
  obtain ⟨x0, x1, -, -⟩ := X.cells
  have T : BxS w.heap.size (.slice A ps.length ca) (.slice B rs.length cb) w3.drew := ⟨x0, x1⟩
  have kd : Below w3.heap.size w3 w3.drew := (Below.refl _ w3).drew
  have k4 : Below w3.heap.size w3.drew (w3.drew.alloc (.cells (madeCells #[.int .i64 0] ps.length) 3)) := below1 w3.drew _
  have k45 := kd.trans k4
  have HB := (hb.below K).below k45
  have TM : BxS w.heap.size (.slice A ps.length ca) (.slice B rs.length cb) (w3.drew.alloc (.cells (madeCells #[.int .i64 0] ps.length) 3)) := T.under (below1 w3.drew _)
  have ZM := zeros_made w3.drew ps.length
  have h1d := hmk w3.drew
  replace Y := Y.below k45
  replace K := K.trans (k45.mono K.size)
  have hww : w.heap.size ≠ w.heap.size + 1 := by omega
  clear kd k4 k45 X hmk
  go_wp2_with fail
  go_region_held3 (fun w' => BxS w.heap.size (.slice A ps.length ca) (.slice B rs.length cb) w')
    (first | exact T | exact TM | assumption | (refine BxS.under (by assumption) ?_; first | exact T | exact TM | assumption) | (refine BxS.set2 hww ?_ _ _; assumption))
    (first | (go_at_call 51; refine (HSP.out _ _ _ HB ZM).mono ?_; rintro e w5 ⟨A5, A6, c5, c6, rfl, O5, O6, PT, b5⟩; have T5 := TM.under b5; obtain ⟨y0, y1, y2, y3⟩ := (Y.below b5).cells))
  clear T TM ZM h1d HB x0 x1 y0 y1 y2 y3
  have hw4 := K.size
  have hyl := Y.lt
  have hs5 := b5.size
  replace Y := Y.below b5
  replace K := K.trans (b5.mono K.size)
  obtain ⟨y0, y1, y2, y3⟩ := Y.cells
  have HFIN : Hid (SeenMade w (idsL L) (keysL L) (.returned (.agg #[.slice A5 (idsL L).length c5, .slice A6 (keysL L).length c6])) ((w5.setCell ⟨w.heap.size + 1, 0, none⟩ (.slice A5 (idsL L).length c5)).setCell ⟨w.heap.size + 1, 1, none⟩ (.slice A6 (keysL L).length c6))) := Lib.hid ⟨A5, A6, c5, c6, rfl,
    OwnSl.low (O5.of_block (fun g e _ => by rw [Below.heap_setCell _ _ _ _ (by have := (blk_own O5 e).1; simp; omega), Below.heap_setCell _ _ _ _ (by have := (blk_own O5 e).1; simp; omega)])) (by omega),
    OwnSl.low (O6.of_block (fun g e _ => by rw [Below.heap_setCell _ _ _ _ (by have := (blk_own O6 e).1; simp; omega), Below.heap_setCell _ _ _ _ (by have := (blk_own O6 e).1; simp; omega)])) (by omega),
    PT, (K.setCell (by simp) _).setCell (by simp) _⟩
  clear O5 O6 PT K
  go_wp2
  exact bodyPost_ret (v := .agg #[.slice A5 (idsL L).length c5, .slice A6 (keysL L).length c6]) (by simp [results, Try.results15, go_sem, y0, y1]) rfl HFIN.out

theorem specSearch_any (A B : Option Addr) (ca cb : Nat) (ps : List (Int × Int)) (rs : List A3) (s t : Int) (w : World) (hn : ps.length ≤ 1048576) (hm : rs.length ≤ 1048576) (ha : IsPts w A ps) (hb : IsArcs w B rs) :
    Calls Try.prog 15 #[.agg #[.slice A ps.length ca, .slice B rs.length cb], .int .i64 s, .int .i64 t] w (SeenMade w (idsL (srL ps rs s t)) (keysL (srL ps rs s t))) := by
  by_cases h : netB ps rs = false ∨ btB s 0 ((ps.length : Int) - 1) = false ∨ btB t 0 ((ps.length : Int) - 1) = false
  · exact specSearch_no A B ca cb ps rs s t w hn hm ha hb h
  · have hb' : ∀ b : Bool, ¬ b = false → b = true := fun b hb => by cases b <;> simp_all
    have h1 := hb' _ (fun e => h (.inl e))
    have h2 := hb' _ (fun e => h (.inr (.inl e)))
    have h3 := hb' _ (fun e => h (.inr (.inr e)))
    obtain ⟨S, rfl, hS⟩ := node_is h2
    obtain ⟨T, rfl, hT⟩ := node_is h3
    exact specSearch_yes A B ca cb ps rs S T w hn hm ha hb h1 hS hT

end Go.Proofs.Ytcaamhoakhgnhaa
