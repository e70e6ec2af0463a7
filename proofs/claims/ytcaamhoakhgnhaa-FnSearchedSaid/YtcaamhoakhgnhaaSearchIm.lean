/-
  What impl.Search computes.
-/
import Derived.Test.YtcaamhoakhgnhaaSeenOf
import Derived.Test.YtcaamhoakhgnhaaLowAll
import Derived.Test.YtcaamhoakhgnhaaBetAll
namespace Go.Proofs.Ytcaamhoakhgnhaa
open Go.RowKit Go.Deep Go.Maps

/-- The items that Search takes: none where the network or a node is not valid. -/
def srL (ps : List (Int × Int)) (rs : List A3) (s t : Int) : List (Int × Int) := if netB ps rs = true ∧ btB s 0 ((ps.length : Int) - 1) = true ∧ btB t 0 ((ps.length : Int) - 1) = true then took ps.length rs (List.replicate ps.length 0) s.toNat t.toNat else []
theorem srL_no {ps : List (Int × Int)} {rs : List A3} {s t : Int} (h : netB ps rs = false ∨ btB s 0 ((ps.length : Int) - 1) = false ∨ btB t 0 ((ps.length : Int) - 1) = false) : srL ps rs s t = [] := by
  unfold srL; rw [if_neg]; rintro ⟨h1, h2, h3⟩; rcases h with h | h | h
  · rw [h1] at h; cases h
  · rw [h2] at h; cases h
  · rw [h3] at h; cases h
theorem srL_yes {ps : List (Int × Int)} {rs : List A3} {s t : Nat} (h : netB ps rs = true) (hs : s < ps.length) (ht : t < ps.length) : srL ps rs s t = took ps.length rs (List.replicate ps.length 0) s t := by
  unfold srL; rw [if_pos ⟨h, btB_true (by omega) (by omega), btB_true (by omega) (by omega)⟩, Int.toNat_natCast, Int.toNat_natCast]
theorem took_len {n : Nat} {rs : List A3} {zs : List Int} {s t : Nat} (hz : NetZ n rs zs) (hs : s < n) (ht : t < n) : (took n rs zs s t).length ≤ 20 := by
  have F := took_found hz hs ht
  have := nodup_len n ((took n rs zs s t).map Prod.snd) F.nod (fun x hx => by obtain ⟨p, hp, rfl⟩ := List.mem_map.1 hx; exact F.rin p hp)
  rw [List.length_map] at this
  have := hz.n20
  omega
theorem srL_len (ps : List (Int × Int)) (rs : List A3) (s t : Int) : (srL ps rs s t).length ≤ 20 := by
  unfold srL; split
  · rename_i h
    have h2 := btB_iff.1 h.2.1
    have h3 := btB_iff.1 h.2.2
    exact took_len (netZ_zero h.1) (by omega) (by omega)
  · simp
theorem red_zero (rs : List A3) (n i : Nat) : red rs (List.replicate n 0) i = (arg rs i).2.2 := by unfold red; rw [zg_zeros, zg_zeros]; omega
theorem taken_is {w : World} {base : Nat} {v : Value} {L : List (Int × Int)} (own : w.ownsRow base 73 2 v L.length (cellsP L)) : ∃ A ca, v = .slice A L.length ca ∧ IsPts w A L := by
  obtain ⟨A, ca, rfl, -, hA⟩ := ownI_is own
  refine ⟨A, ca, rfl, fun hp => ?_⟩
  obtain ⟨g, rfl, -, ho⟩ := hA hp
  exact ⟨g, 0, rfl, ho.lt, fun i hi => ⟨by rw [ho.cell (i := i * 2) (by omega), flatP_0], by rw [show 0 + i * 2 + 1 = 0 + (i * 2 + 1) by omega, ho.cell (i := i * 2 + 1) (by omega), flatP_1]⟩⟩

theorem searchCost_any (nb : Nat) (_u : Value) (B : Option Addr) (cb i : Nat) (rs : List A3) (W : World) (hi : i < rs.length) (c1 : W.cell? ⟨nb, 1, none⟩ = some (.slice B rs.length cb)) (hb : IsArcs W B rs) :
    Calls Try.prog 48 #[.int .i64 (i : Int), .pointer (some ⟨nb, 0, none⟩)] W fun e w' => e = .returned (.int .i64 (arg rs i).2.2) ∧ Below W.heap.size W w' := by
  obtain ⟨b, off, rfl, -, -, -, c2⟩ := hb.at_ hi
  have hil : (i : Int) < rs.length := by omega
  generalize (arg rs i).2.2 = L at c2
  go_enter Try.func48, Try.ntmps48
  go_wp2
  go_ret
  exact ⟨rfl, Below.refl _ _⟩

theorem seenMade_nil {w w' : World} {L : List (Int × Int)} (hL : L = []) (K : Below w.heap.size w w') : SeenMade w (idsL L) (keysL L) (.returned (.agg #[.slice none 0 0, .slice none 0 0])) w' := by
  subst hL; exact ⟨none, none, 0, 0, rfl, fun h => by simp [idsL] at h, fun h => by simp [keysL] at h, fun g e => by simp [blk, idsL] at e, K⟩

theorem seenCap_nil {w w' : World} {L : List (Int × Int)} (hL : L = []) (K : Below w.heap.size w w') : SeenCap w (idsL L) (keysL L) (.returned (.agg #[.slice none 0 0, .slice none 0 0])) w' := by
  subst hL; exact ⟨none, none, 0, 0, rfl, fun h => by simp [idsL] at h, fun h => by simp [keysL] at h, ⟨fun g e => by simp [blk, idsL] at e, by simp [idsL]⟩, K⟩

set_option maxRecDepth 100000 in
set_option maxHeartbeats 4000000 in
theorem implSearch_no (A B : Option Addr) (ca cb : Nat) (ps : List (Int × Int)) (rs : List A3) (s t : Int) (w : World) (hn : ps.length ≤ 1048576) (hm : rs.length ≤ 1048576) (ha : IsPts w A ps) (hb : IsArcs w B rs) (hno : netB ps rs = false ∨ btB s 0 ((ps.length : Int) - 1) = false ∨ btB t 0 ((ps.length : Int) - 1) = false) :
    Calls Try.prog 14 #[.agg #[.slice A ps.length ca, .slice B rs.length cb], .int .i64 s, .int .i64 t] w (SeenCap w (idsL (srL ps rs s t)) (keysL (srL ps rs s t))) := by
  have HN := Lib.hid (srL_no hno)
  have X := (Pair.new w 32 (.slice A ps.length ca) (.slice B rs.length cb)).alloc (.cells #[.slice none 0 0, .slice none 0 0] 42)
  have Y : Pair ((w.alloc (.cells #[.slice A ps.length ca, .slice B rs.length cb] 32)).alloc (.cells #[.slice none 0 0, .slice none 0 0] 42)) (w.heap.size + 1) 42 (.slice none 0 0) (.slice none 0 0) := by
    have := Pair.new (w.alloc (.cells #[.slice A ps.length ca, .slice B rs.length cb] 32)) 42 (.slice none 0 0) (.slice none 0 0); rwa [World.size_alloc] at this
  have K := below2 w (.cells #[.slice A ps.length ca, .slice B rs.length cb] 32) (.cells #[.slice none 0 0, .slice none 0 0] 42)
  obtain ⟨x0, x1, -, -⟩ := X.cells
  cases h1 : netB ps rs with
  | false =>
    go_enter Try.func14, Try.ntmps14
    go_wp2_with fail
    refine (implNetOk_any A B ca cb ps rs _ hn hm (ha.below K) (hb.below K)).mono ?_; rw [h1]; rintro e w1 ⟨rfl, b1⟩
    replace X := X.below b1
    replace Y := Y.below b1
    replace K := K.trans (b1.mono K.size)
    clear b1 x0 x1
    obtain ⟨y0, y1, y2, y3⟩ := Y.cells
    go_wp2
    exact bodyPost_ret (v := .agg #[.slice none 0 0, .slice none 0 0]) (by simp [results, Try.results14, go_sem, y0, y1]) rfl (seenCap_nil HN.out ((K.setCell (by simp) _).setCell (by simp) _))
  | true =>
    cases h2 : btB s 0 ((ps.length : Int) - 1) with
    | false =>
      go_enter Try.func14, Try.ntmps14
      go_wp2_with fail
      refine (implNetOk_any A B ca cb ps rs _ hn hm (ha.below K) (hb.below K)).mono ?_; rw [h1]; rintro e w1 ⟨rfl, b1⟩
      replace X := X.below b1
      replace Y := Y.below b1
      replace K := K.trans (b1.mono K.size)
      clear b1 x0 x1
      obtain ⟨x0, x1, -, -⟩ := X.cells
      go_wp2_with fail
      refine (hasNode_any A B ps.length rs.length ca cb s _).mono ?_; rw [h2]; rintro e w2 ⟨rfl, b2⟩
      replace Y := Y.below b2
      replace K := K.trans (b2.mono K.size)
      clear b2 x0 x1
      obtain ⟨y0, y1, y2, y3⟩ := Y.cells
      go_wp2
      exact bodyPost_ret (v := .agg #[.slice none 0 0, .slice none 0 0]) (by simp [results, Try.results14, go_sem, y0, y1]) rfl (seenCap_nil HN.out ((K.setCell (by simp) _).setCell (by simp) _))
    | true =>
      have h3 : btB t 0 ((ps.length : Int) - 1) = false := by rcases hno with h | h | h
                                                              · rw [h1] at h; cases h
                                                              · rw [h2] at h; cases h
                                                              · exact h
      go_enter Try.func14, Try.ntmps14
      go_wp2_with fail
      refine (implNetOk_any A B ca cb ps rs _ hn hm (ha.below K) (hb.below K)).mono ?_; rw [h1]; rintro e w1 ⟨rfl, b1⟩
      replace X := X.below b1
      replace Y := Y.below b1
      replace K := K.trans (b1.mono K.size)
      clear b1 x0 x1
      obtain ⟨x0, x1, -, -⟩ := X.cells
      go_wp2_with fail
      refine (hasNode_any A B ps.length rs.length ca cb s _).mono ?_; rw [h2]; rintro e w2 ⟨rfl, b2⟩
      replace X := X.below b2
      replace Y := Y.below b2
      replace K := K.trans (b2.mono K.size)
      clear b2 x0 x1
      obtain ⟨x0, x1, -, -⟩ := X.cells
      go_wp2_with fail
      refine (hasNode_any A B ps.length rs.length ca cb t _).mono ?_; rw [h3]; rintro e w3 ⟨rfl, b3⟩
      replace Y := Y.below b3
      replace K := K.trans (b3.mono K.size)
      clear b3 x0 x1
      obtain ⟨y0, y1, y2, y3⟩ := Y.cells
      go_wp2
      exact bodyPost_ret (v := .agg #[.slice none 0 0, .slice none 0 0]) (by simp [results, Try.results14, go_sem, y0, y1]) rfl (seenCap_nil HN.out ((K.setCell (by simp) _).setCell (by simp) _))

set_option maxRecDepth 100000 in
set_option maxHeartbeats 4000000 in
theorem implSearch_yes (A B : Option Addr) (ca cb : Nat) (ps : List (Int × Int)) (rs : List A3) (s t : Nat) (w : World) (hn : ps.length ≤ 1048576) (hm : rs.length ≤ 1048576) (ha : IsPts w A ps) (hb : IsArcs w B rs) (h1 : netB ps rs = true) (hs : s < ps.length) (ht : t < ps.length) :
    Calls Try.prog 14 #[.agg #[.slice A ps.length ca, .slice B rs.length cb], .int .i64 (s : Int), .int .i64 (t : Int)] w (SeenCap w (idsL (srL ps rs s t)) (keysL (srL ps rs s t))) := by
  have hz := netZ_zero h1
  have hL := srL_yes h1 hs ht
  have hlen := srL_len ps rs s t
  rw [hL] at hlen ⊢
  have HST := Lib.hid (fun (V : World) (nb : Nat) (hx : nb < V.heap.size) (c1 : V.cell? ⟨nb, 1, none⟩ = some (.slice B rs.length cb)) (hv : IsArcs V B rs) => settledS_any A B ca cb ps rs (List.replicate ps.length 0) s t nb V hz hs hv (Lib.hid fun V' k i hi => by
    rw [red_zero]
    exact searchCost_any nb (.slice none 0 0) B cb i rs V' hi (cell_under k c1) (hv.below k)))
  rw [zg_zeros] at HST
  generalize took ps.length rs (List.replicate ps.length 0) s t = L at HST hlen ⊢
  clear hL hz
  have h2 : btB (s : Int) 0 ((ps.length : Int) - 1) = true := btB_true (by omega) (by omega)
  have h3 : btB (t : Int) 0 ((ps.length : Int) - 1) = true := btB_true (by omega) (by omega)
  have X := (Pair.new w 32 (.slice A ps.length ca) (.slice B rs.length cb)).alloc (.cells #[.slice none 0 0, .slice none 0 0] 42)
  have Y : Pair ((w.alloc (.cells #[.slice A ps.length ca, .slice B rs.length cb] 32)).alloc (.cells #[.slice none 0 0, .slice none 0 0] 42)) (w.heap.size + 1) 42 (.slice none 0 0) (.slice none 0 0) := by
    have := Pair.new (w.alloc (.cells #[.slice A ps.length ca, .slice B rs.length cb] 32)) 42 (.slice none 0 0) (.slice none 0 0); rwa [World.size_alloc] at this
  have K := below2 w (.cells #[.slice A ps.length ca, .slice B rs.length cb] 32) (.cells #[.slice none 0 0, .slice none 0 0] 42)
  have hmf : ∀ (fn : Fn) (first cap : Array Value) (w : World), (Instr.makeFunc fn first cap).run Try.prog w = .ok (.func fn first cap) w := fun _ _ _ _ => rfl
  obtain ⟨x0, x1, -, -⟩ := X.cells
  go_enter Try.func14, Try.ntmps14
  go_wp2_with fail
  refine (implNetOk_any A B ca cb ps rs _ hn hm (ha.below K) (hb.below K)).mono ?_; rw [h1]; rintro e w1 ⟨rfl, b1⟩
  replace X := X.below b1
  replace Y := Y.below b1
  replace K := K.trans (b1.mono K.size)
  clear b1 x0 x1
  obtain ⟨x0, x1, -, -⟩ := X.cells
  go_wp2_with fail
  refine (hasNode_any A B ps.length rs.length ca cb (s : Int) _).mono ?_; rw [h2]; rintro e w2 ⟨rfl, b2⟩
  replace X := X.below b2
  replace Y := Y.below b2
  replace K := K.trans (b2.mono K.size)
  clear b2 x0 x1
  obtain ⟨x0, x1, -, -⟩ := X.cells
  go_wp2_with fail
  refine (hasNode_any A B ps.length rs.length ca cb (t : Int) _).mono ?_; rw [h3]; rintro e w3 ⟨rfl, b3⟩
  replace X := X.below b3
  replace Y := Y.below b3
  replace K := K.trans (b3.mono K.size)
  clear b3 x0 x1
  obtain ⟨x0, x1, -, -⟩ := X.cells
  go_wp2_with fail
  refine (HST.out w3 w.heap.size X.lt x1 (hb.below K)).mono ?_; rintro e w4 ⟨v4, rfl, own4, b4⟩
  obtain ⟨A4, c4, rfl, I4⟩ := taken_is own4
  replace Y := Y.below b4
  replace K := K.trans (b4.mono K.size)
  clear b4 x0 x1 own4 HST X
  go_wp2_with fail
  refine (seenOf_cap A4 c4 L _ (by omega) I4).mono ?_; rintro e w5 ⟨A5, A6, c5, c6, rfl, O5, O6, PT, b5⟩
  have h45 : w.heap.size + 1 < w4.heap.size := Y.lt
  replace Y := Y.below b5
  have hw4 := K.size
  have hyl := Y.lt
  replace K := K.trans (b5.mono K.size)
  obtain ⟨y0, y1, y2, y3⟩ := Y.cells
  have hs5 := b5.size
  have HFIN : Hid (SeenCap w (idsL L) (keysL L) (.returned (.agg #[.slice A5 (idsL L).length c5, .slice A6 (keysL L).length c6])) ((w5.setCell ⟨w.heap.size + 1, 0, none⟩ (.slice A5 (idsL L).length c5)).setCell ⟨w.heap.size + 1, 1, none⟩ (.slice A6 (keysL L).length c6))) := Lib.hid ⟨A5, A6, c5, c6, rfl,
    OwnSl.low (O5.of_block (fun g e _ => by rw [Below.heap_setCell _ _ _ _ (by have := (blk_own O5 e).1; simp; omega), Below.heap_setCell _ _ _ _ (by have := (blk_own O5 e).1; simp; omega)])) (by omega),
    OwnSl.low (O6.of_block (fun g e _ => by rw [Below.heap_setCell _ _ _ _ (by have := (blk_own O6 e).1; simp; omega), Below.heap_setCell _ _ _ _ (by have := (blk_own O6 e).1; simp; omega)])) (by omega),
    PT, (K.setCell (by simp) _).setCell (by simp) _⟩
  clear O5 O6 PT K
  go_wp2
  exact bodyPost_ret (v := .agg #[.slice A5 (idsL L).length c5, .slice A6 (keysL L).length c6]) (by simp [results, Try.results14, go_sem, y0, y1]) rfl HFIN.out

theorem implSearch_cap (A B : Option Addr) (ca cb : Nat) (ps : List (Int × Int)) (rs : List A3) (s t : Int) (w : World) (hn : ps.length ≤ 1048576) (hm : rs.length ≤ 1048576) (ha : IsPts w A ps) (hb : IsArcs w B rs) :
    Calls Try.prog 14 #[.agg #[.slice A ps.length ca, .slice B rs.length cb], .int .i64 s, .int .i64 t] w (SeenCap w (idsL (srL ps rs s t)) (keysL (srL ps rs s t))) := by
  by_cases h : netB ps rs = false ∨ btB s 0 ((ps.length : Int) - 1) = false ∨ btB t 0 ((ps.length : Int) - 1) = false
  · exact implSearch_no A B ca cb ps rs s t w hn hm ha hb h
  · have hb' : ∀ b : Bool, ¬ b = false → b = true := fun b hb => by cases b <;> simp_all
    have h1 := hb' _ (fun e => h (.inl e))
    have h2 := hb' _ (fun e => h (.inr (.inl e)))
    have h3 := hb' _ (fun e => h (.inr (.inr e)))
    obtain ⟨S, rfl, hS⟩ := node_is h2
    obtain ⟨T, rfl, hT⟩ := node_is h3
    exact implSearch_yes A B ca cb ps rs S T w hn hm ha hb h1 hS hT
theorem implSearch_any (A B : Option Addr) (ca cb : Nat) (ps : List (Int × Int)) (rs : List A3) (s t : Int) (w : World) (hn : ps.length ≤ 1048576) (hm : rs.length ≤ 1048576) (ha : IsPts w A ps) (hb : IsArcs w B rs) :
    Calls Try.prog 14 #[.agg #[.slice A ps.length ca, .slice B rs.length cb], .int .i64 s, .int .i64 t] w (SeenMade w (idsL (srL ps rs s t)) (keysL (srL ps rs s t))) :=
  (implSearch_cap A B ca cb ps rs s t w hn hm ha hb).mono fun _ _ h => h.made

end Go.Proofs.Ytcaamhoakhgnhaa
