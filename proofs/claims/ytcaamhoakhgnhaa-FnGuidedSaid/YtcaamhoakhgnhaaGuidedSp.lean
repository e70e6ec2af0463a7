/-
  What spec.Guided computes.
-/
import Derived.Test.YtcaamhoakhgnhaaSpAll
import Derived.Test.YtcaamhoakhgnhaaPots
namespace Go.Proofs.Ytcaamhoakhgnhaa
open Go.RowKit Go.Deep Go.Maps

/-- The items that Guided takes: none where the network, a node or the potential is not valid. -/
def gdL (ps : List (Int × Int)) (rs : List A3) (zs : List Int) (s t : Int) : List (Int × Int) := if potB ps rs zs = true ∧ btB s 0 ((ps.length : Int) - 1) = true ∧ btB t 0 ((ps.length : Int) - 1) = true then took ps.length rs zs s.toNat t.toNat else []
theorem gdL_no {ps : List (Int × Int)} {rs : List A3} {zs : List Int} {s t : Int} (h : potB ps rs zs = false ∨ btB s 0 ((ps.length : Int) - 1) = false ∨ btB t 0 ((ps.length : Int) - 1) = false) : gdL ps rs zs s t = [] := by
  unfold gdL; rw [if_neg]; rintro ⟨h1, h2, h3⟩; rcases h with h | h | h
  · rw [h1] at h; cases h
  · rw [h2] at h; cases h
  · rw [h3] at h; cases h
theorem gdL_yes {ps : List (Int × Int)} {rs : List A3} {zs : List Int} {s t : Nat} (h : potB ps rs zs = true) (hs : s < ps.length) (ht : t < ps.length) : gdL ps rs zs s t = took ps.length rs zs s t := by
  unfold gdL; rw [if_pos ⟨h, btB_true (by omega) (by omega), btB_true (by omega) (by omega)⟩, Int.toNat_natCast, Int.toNat_natCast]
theorem gdL_len (ps : List (Int × Int)) (rs : List A3) (zs : List Int) (s t : Int) : (gdL ps rs zs s t).length ≤ 20 := by
  unfold gdL; split
  · rename_i h
    have h2 := btB_iff.1 h.2.1
    have h3 := btB_iff.1 h.2.2
    exact took_len (netZ_of h.1) (by omega) (by omega)
  · simp
theorem gd_lens (ps : List (Int × Int)) (rs : List A3) (zs : List Int) (s t : Int) : (idsL (gdL ps rs zs s t)).length ≤ 1048576 ∧ (dsL zs (gdL ps rs zs s t)).length ≤ 1048576 := by
  have := gdL_len ps rs zs s t
  unfold idsL dsL
  rw [List.length_map, List.length_map]; omega
theorem sr_lens (ps : List (Int × Int)) (rs : List A3) (s t : Int) : (idsL (srL ps rs s t)).length ≤ 1048576 ∧ (keysL (srL ps rs s t)).length ≤ 1048576 := by
  have := srL_len ps rs s t
  unfold idsL keysL
  rw [List.length_map, List.length_map]; omega
theorem seenMade_gd {w w' : World} {zs : List Int} {L : List (Int × Int)} (hL : L = []) (K : Below w.heap.size w w') : SeenMade w (idsL L) (dsL zs L) (.returned (.agg #[.slice none 0 0, .slice none 0 0])) w' := by
  subst hL; exact ⟨none, none, 0, 0, rfl, fun h => by simp [idsL] at h, fun h => by simp [dsL] at h, fun g e => by simp [blk, idsL] at e, K⟩

set_option maxRecDepth 100000 in
set_option maxHeartbeats 4000000 in
theorem specGuided_no (A B C : Option Addr) (ca cb cc : Nat) (ps : List (Int × Int)) (rs : List A3) (zs : List Int) (s t : Int) (w : World) (hn : ps.length ≤ 1048576) (hm : rs.length ≤ 1048576) (hk : zs.length ≤ 1048576) (ha : IsPts w A ps) (hb : IsArcs w B rs) (hzz : IsInts w C zs) (hno : potB ps rs zs = false ∨ btB s 0 ((ps.length : Int) - 1) = false ∨ btB t 0 ((ps.length : Int) - 1) = false) :
    Calls Try.prog 22 #[.agg #[.slice A ps.length ca, .slice B rs.length cb], .int .i64 s, .int .i64 t, .slice C zs.length cc] w (SeenMade w (idsL (gdL ps rs zs s t)) (dsL zs (gdL ps rs zs s t))) := by
  have HN := Lib.hid (gdL_no hno)
  have X := (Pair.new w 32 (.slice A ps.length ca) (.slice B rs.length cb)).alloc (.cells #[.slice none 0 0, .slice none 0 0] 42)
  have Y : Pair ((w.alloc (.cells #[.slice A ps.length ca, .slice B rs.length cb] 32)).alloc (.cells #[.slice none 0 0, .slice none 0 0] 42)) (w.heap.size + 1) 42 (.slice none 0 0) (.slice none 0 0) := by
    have := Pair.new (w.alloc (.cells #[.slice A ps.length ca, .slice B rs.length cb] 32)) 42 (.slice none 0 0) (.slice none 0 0); rwa [World.size_alloc] at this
  have K := below2 w (.cells #[.slice A ps.length ca, .slice B rs.length cb] 32) (.cells #[.slice none 0 0, .slice none 0 0] 42)
  obtain ⟨x0, x1, -, -⟩ := X.cells
  cases h1 : potB ps rs zs with
  | false =>
    go_enter Try.func22, Try.ntmps22
    go_wp2_with fail
    refine (specPotOk_any A B C ca cb cc ps rs zs _ hn hm hk (ha.below K) (hb.below K) (hzz.below K)).mono ?_; rw [h1]; rintro e w1 ⟨rfl, b1⟩
    replace X := X.below b1
    replace Y := Y.below b1
    replace K := K.trans (b1.mono K.size)
    clear b1 x0 x1
    obtain ⟨y0, y1, y2, y3⟩ := Y.cells
    clear X
    go_wp2
    exact bodyPost_ret (v := .agg #[.slice none 0 0, .slice none 0 0]) (by simp [results, Try.results22, go_sem, y0, y1]) rfl (seenMade_gd HN.out ((K.setCell (by simp) _).setCell (by simp) _))
  | true =>
    cases h2 : btB s 0 ((ps.length : Int) - 1) with
    | false =>
      go_enter Try.func22, Try.ntmps22
      go_wp2_with fail
      refine (specPotOk_any A B C ca cb cc ps rs zs _ hn hm hk (ha.below K) (hb.below K) (hzz.below K)).mono ?_; rw [h1]; rintro e w1 ⟨rfl, b1⟩
      replace X := X.below b1
      replace Y := Y.below b1
      replace K := K.trans (b1.mono K.size)
      clear b1 x0 x1
      obtain ⟨x0, x1, -, -⟩ := X.cells
      go_wp2_with fail
      refine (l04Node_any A B ps.length rs.length ca cb s _ hn).mono ?_; rw [h2]; rintro e w2 ⟨rfl, b2⟩
      replace X := X.below b2
      replace Y := Y.below b2
      replace K := K.trans (b2.mono K.size)
      clear b2 x0 x1
      obtain ⟨y0, y1, y2, y3⟩ := Y.cells
      clear X
      go_wp2
      exact bodyPost_ret (v := .agg #[.slice none 0 0, .slice none 0 0]) (by simp [results, Try.results22, go_sem, y0, y1]) rfl (seenMade_gd HN.out ((K.setCell (by simp) _).setCell (by simp) _))
    | true =>
      have h3 : btB t 0 ((ps.length : Int) - 1) = false := by
        rcases hno with h | h | h
        · rw [h1] at h; cases h
        · rw [h2] at h; cases h
        · exact h
      go_enter Try.func22, Try.ntmps22
      go_wp2_with fail
      refine (specPotOk_any A B C ca cb cc ps rs zs _ hn hm hk (ha.below K) (hb.below K) (hzz.below K)).mono ?_; rw [h1]; rintro e w1 ⟨rfl, b1⟩
      replace X := X.below b1
      replace Y := Y.below b1
      replace K := K.trans (b1.mono K.size)
      clear b1 x0 x1
      obtain ⟨x0, x1, -, -⟩ := X.cells
      go_wp2_with fail
      refine (l04Node_any A B ps.length rs.length ca cb s _ hn).mono ?_; rw [h2]; rintro e w2 ⟨rfl, b2⟩
      replace X := X.below b2
      replace Y := Y.below b2
      replace K := K.trans (b2.mono K.size)
      clear b2 x0 x1
      obtain ⟨x0, x1, -, -⟩ := X.cells
      go_wp2_with fail
      refine (l04Node_any A B ps.length rs.length ca cb t _ hn).mono ?_; rw [h3]; rintro e w3 ⟨rfl, b3⟩
      replace X := X.below b3
      replace Y := Y.below b3
      replace K := K.trans (b3.mono K.size)
      clear b3 x0 x1
      obtain ⟨y0, y1, y2, y3⟩ := Y.cells
      clear X
      go_wp2
      exact bodyPost_ret (v := .agg #[.slice none 0 0, .slice none 0 0]) (by simp [results, Try.results22, go_sem, y0, y1]) rfl (seenMade_gd HN.out ((K.setCell (by simp) _).setCell (by simp) _))

set_option maxRecDepth 100000 in
set_option maxHeartbeats 4000000 in
theorem specGuided_yes (A B C : Option Addr) (ca cb cc : Nat) (ps : List (Int × Int)) (rs : List A3) (zs : List Int) (s t : Nat) (w : World) (hn : ps.length ≤ 1048576) (hm : rs.length ≤ 1048576) (hk : zs.length ≤ 1048576) (ha : IsPts w A ps) (hb : IsArcs w B rs) (hzz : IsInts w C zs) (h1 : potB ps rs zs = true) (hs : s < ps.length) (ht : t < ps.length) :
    Calls Try.prog 22 #[.agg #[.slice A ps.length ca, .slice B rs.length cb], .int .i64 (s : Int), .int .i64 (t : Int), .slice C zs.length cc] w (SeenMade w (idsL (gdL ps rs zs s t)) (dsL zs (gdL ps rs zs s t))) := by
  have hz := netZ_of h1
  rw [gdL_yes h1 hs ht]
  have HSP := Lib.hid (fun (V : World) (hv : IsArcs V B rs) (hc : IsInts V C zs) => l06Search_any A B C ca cb cc ps.length rs zs s t V hz hs hv hc)
  generalize took ps.length rs zs s t = L at HSP ⊢
  clear hz
  have h2 : btB (s : Int) 0 ((ps.length : Int) - 1) = true := btB_true (by omega) (by omega)
  have h3 : btB (t : Int) 0 ((ps.length : Int) - 1) = true := btB_true (by omega) (by omega)
  have X := (Pair.new w 32 (.slice A ps.length ca) (.slice B rs.length cb)).alloc (.cells #[.slice none 0 0, .slice none 0 0] 42)
  have Y : Pair ((w.alloc (.cells #[.slice A ps.length ca, .slice B rs.length cb] 32)).alloc (.cells #[.slice none 0 0, .slice none 0 0] 42)) (w.heap.size + 1) 42 (.slice none 0 0) (.slice none 0 0) := by
    have := Pair.new (w.alloc (.cells #[.slice A ps.length ca, .slice B rs.length cb] 32)) 42 (.slice none 0 0) (.slice none 0 0); rwa [World.size_alloc] at this
  have K := below2 w (.cells #[.slice A ps.length ca, .slice B rs.length cb] 32) (.cells #[.slice none 0 0, .slice none 0 0] 42)
  obtain ⟨x0, x1, -, -⟩ := X.cells
  go_enter Try.func22, Try.ntmps22
  go_wp2_with fail
  refine (specPotOk_any A B C ca cb cc ps rs zs _ hn hm hk (ha.below K) (hb.below K) (hzz.below K)).mono ?_; rw [h1]; rintro e w1 ⟨rfl, b1⟩
  replace X := X.below b1
  replace Y := Y.below b1
  replace K := K.trans (b1.mono K.size)
  clear b1 x0 x1
  obtain ⟨x0, x1, -, -⟩ := X.cells
  go_wp2_with fail
  refine (l04Node_any A B ps.length rs.length ca cb (s : Int) _ hn).mono ?_; rw [h2]; rintro e w2 ⟨rfl, b2⟩
  replace X := X.below b2
  replace Y := Y.below b2
  replace K := K.trans (b2.mono K.size)
  clear b2 x0 x1
  obtain ⟨x0, x1, -, -⟩ := X.cells
  go_wp2_with fail
  refine (l04Node_any A B ps.length rs.length ca cb (t : Int) _ hn).mono ?_; rw [h3]; rintro e w3 ⟨rfl, b3⟩
  replace X := X.below b3
  replace Y := Y.below b3
  replace K := K.trans (b3.mono K.size)
  clear b3 x0 x1
  obtain ⟨x0, x1, -, -⟩ := X.cells
  go_wp2_with fail
  refine (HSP.out _ (hb.below K) (hzz.below K)).mono ?_; rintro e w5 ⟨A5, A6, c5, c6, rfl, O5, O6, PT, b5⟩
  clear HSP
  have hw4 := K.size
  have hyl := Y.lt
  have hs5 := b5.size
  replace Y := Y.below b5
  replace K := K.trans (b5.mono K.size)
  obtain ⟨y0, y1, y2, y3⟩ := Y.cells
  have HFIN : Hid (SeenMade w (idsL L) (dsL zs L) (.returned (.agg #[.slice A5 (idsL L).length c5, .slice A6 (dsL zs L).length c6])) ((w5.setCell ⟨w.heap.size + 1, 0, none⟩ (.slice A5 (idsL L).length c5)).setCell ⟨w.heap.size + 1, 1, none⟩ (.slice A6 (dsL zs L).length c6))) := Lib.hid ⟨A5, A6, c5, c6, rfl,
    OwnSl.low (O5.of_block (fun g e _ => by rw [Below.heap_setCell _ _ _ _ (by have := (blk_own O5 e).1; simp; omega), Below.heap_setCell _ _ _ _ (by have := (blk_own O5 e).1; simp; omega)])) (by omega),
    OwnSl.low (O6.of_block (fun g e _ => by rw [Below.heap_setCell _ _ _ _ (by have := (blk_own O6 e).1; simp; omega), Below.heap_setCell _ _ _ _ (by have := (blk_own O6 e).1; simp; omega)])) (by omega),
    PT, (K.setCell (by simp) _).setCell (by simp) _⟩
  clear O5 O6 PT K
  go_wp2
  exact bodyPost_ret (v := .agg #[.slice A5 (idsL L).length c5, .slice A6 (dsL zs L).length c6]) (by simp [results, Try.results22, go_sem, y0, y1]) rfl HFIN.out

theorem specGuided_any (A B C : Option Addr) (ca cb cc : Nat) (ps : List (Int × Int)) (rs : List A3) (zs : List Int) (s t : Int) (w : World) (hn : ps.length ≤ 1048576) (hm : rs.length ≤ 1048576) (hk : zs.length ≤ 1048576) (ha : IsPts w A ps) (hb : IsArcs w B rs) (hzz : IsInts w C zs) :
    Calls Try.prog 22 #[.agg #[.slice A ps.length ca, .slice B rs.length cb], .int .i64 s, .int .i64 t, .slice C zs.length cc] w (SeenMade w (idsL (gdL ps rs zs s t)) (dsL zs (gdL ps rs zs s t))) := by
  by_cases h : potB ps rs zs = false ∨ btB s 0 ((ps.length : Int) - 1) = false ∨ btB t 0 ((ps.length : Int) - 1) = false
  · exact specGuided_no A B C ca cb cc ps rs zs s t w hn hm hk ha hb hzz h
  · have hb' : ∀ b : Bool, ¬ b = false → b = true := fun b hb => by cases b <;> simp_all
    have h1 := hb' _ (fun e => h (.inl e))
    have h2 := hb' _ (fun e => h (.inr (.inl e)))
    have h3 := hb' _ (fun e => h (.inr (.inr e)))
    obtain ⟨S, rfl, hS⟩ := node_is h2
    obtain ⟨T, rfl, hT⟩ := node_is h3
    exact specGuided_yes A B C ca cb cc ps rs zs S T w hn hm hk ha hb hzz h1 hS hT

end Go.Proofs.Ytcaamhoakhgnhaa
