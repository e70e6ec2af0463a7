/-
  What impl.Parts computes.
-/
import Derived.Test.YtbmfjfglkjhlnaaPartsSp
import Derived.WalkMore
import Derived.Deep.RegionHeld3
namespace Go.Proofs.Ytbmfjfglkjhlnaa
open Go.RowKit Go.Deep

theorem implParts_no (A B : Option Addr) (ca cb : Nat) (ps : List (Int × Int)) (rs : List A3) (w : World) (hn : ps.length ≤ 1048576) (hm : rs.length ≤ 1048576) (ha : IsPts w A ps) (hb : IsArcs w B rs) (hok : netB ps rs = false) :
    Calls Try.prog 41 #[.agg #[.slice A ps.length ca, .slice B rs.length cb]] w (IntsMade w []) := by
  have K := below1 w (.cells #[.slice A ps.length ca, .slice B rs.length cb] 34)
  go_enter Try.func41, Try.ntmps41
  go_wp2_with fail
  go_step3
  go_wp2_with fail
  refine (implNetOk_any A B ca cb ps rs _ hn hm (ha.below K) (hb.below K)).mono ?_; rintro e w1 ⟨rfl, b1⟩
  replace K := K.trans (b1.mono K.size)
  clear b1
  go_wp2
  try rw [Exit.noGoto_ret]
  go_ret
  exact intsMade_nil rfl _ _ K

/-- What a round reads: the network's box; the row that is filled. -/
abbrev PartS (base : World) (xb : Nat) (u v : Value) (g N : Nat) (f : Nat → Int) (w : World) : Prop :=
  w.cell? ⟨xb, 0, none⟩ = some u ∧ w.cell? ⟨xb, 1, none⟩ = some v ∧ IRow w g N f ∧ Below base.heap.size base w
section
variable {base w w' : World} {xb : Nat} {u v : Value} {g N : Nat} {f : Nat → Int}
theorem PartS.under (hb : Below w.heap.size w w') (h : PartS base xb u v g N f w) : PartS base xb u v g N f w' := ⟨cell_under hb h.1, cell_under hb h.2.1, h.2.2.1.below hb, h.2.2.2.trans (hb.mono h.2.2.2.size)⟩
theorem PartS.drew (h : PartS base xb u v g N f w) : PartS base xb u v g N f w.drew := ⟨h.1, h.2.1, OwnAt.of_block h.2.2.1 rfl, h.2.2.2.drew⟩
theorem PartS.bel (h : PartS base xb u v g N f w) : Below base.heap.size base w := h.2.2.2
end

/-- The row while it is filled. -/
def partF (n : Nat) (rs : List A3) (k j : Nat) : Int := if j < k then (prt n rs j : Int) else 0
theorem partF_step {w : World} {g n N : Nat} {rs : List A3} {k : Nat} {x : Nat} (h : IRow w g N (partF n rs k)) (hx : prt n rs k = x) : IRow (w.setCell ⟨g, k, none⟩ (.int .i64 (x : Int))) g N (partF n rs (k + 1)) :=
  (h.set k (x : Int)).congr fun j _ => by
    unfold partF
    by_cases e : j = k
    · subst e; rw [if_pos rfl, if_pos (by omega), hx]
    · rw [if_neg e]
      by_cases h' : j < k
      · rw [if_pos h', if_pos (by omega)]
      · rw [if_neg h', if_neg (by omega)]
theorem partF_end {w : World} {g n : Nat} {rs : List A3} (h : IRow w g n (partF n rs n)) : IRow w g n (zg (prtL n rs n)) :=
  h.congr fun j hj => by unfold partF prtL zg; rw [if_pos hj, List.getD_eq_getElem?_getD]; simp [hj]

set_option maxRecDepth 100000 in
set_option maxHeartbeats 2000000 in
theorem implParts_yes (ad : Addr) (B : Option Addr) (ca cb : Nat) (ps : List (Int × Int)) (rs : List A3) (w : World) (ha : IsPts w (some ad) ps) (hb : IsArcs w B rs) (hok : netB ps rs = true) :
    Calls Try.prog 41 #[.agg #[.slice (some ad) ps.length ca, .slice B rs.length cb]] w (IntsMade w (prtL ps.length rs ps.length)) := by
  obtain ⟨h20, h70, -, -⟩ := netB_iff.1 hok
  have HA := Lib.hid (arcsIn_net hok)
  have hmk := run_make_row' (P := Try.prog) 27 3 (.int .i64 0) 8 Try.underlying27 Try.infoInt rfl .i64 .i64 ps.length (by omega) (by omega)
  have X := Pair.new w 34 (.slice (some ad) ps.length ca) (.slice B rs.length cb)
  have K := below1 w (.cells #[.slice (some ad) ps.length ca, .slice B rs.length cb] 34)
  have HTO : Hid (∀ (u : Nat) (w : World), u < ps.length → IsPts w (some ad) ps → IsArcs w B rs → Calls Try.prog 42 #[.agg #[.slice (some ad) ps.length ca, .slice B rs.length cb], .int .i64 (u : Int)] w (fun e w' => ∃ A c, e = .returned (.slice A ps.length c) ∧ IsInts w' A (dst ps.length (turnL rs) u) ∧ Below w.heap.size w w')) := Lib.hid (fun u w hu g1 g2 => (implDistTo_any ad B ca cb ps rs u w (by omega) (by omega) g1 g2).mono fun e w' h => by
    obtain ⟨A, c, rfl, hc, O, b⟩ := h
    rw [dT_yes hok hu] at O ⊢
    exact ⟨A, c, by rw [dst_len], O.ints, b⟩)
  have HBK := Lib.hid (fun (u v : Nat) (hu : u < ps.length) (hv : v < ps.length) => dst_back h20 HA.out (turn_arcs hok).1 (turn_arcs hok).2.1 (turn_arcs hok).2.2 (s := v) (v := u) hv hu)
  go_enter Try.func41, Try.ntmps41
  go_wp2_with fail
  go_step3
  go_wp2_with fail
  refine (implNetOk_any _ B ca cb ps rs _ (by omega) (by omega) (ha.below K) (hb.below K)).mono ?_; rintro e w1 ⟨rfl, b1⟩
  replace K := K.trans (b1.mono K.size)
  replace X := X.below b1
  clear b1
  obtain ⟨x0, x1, -, -⟩ := X.cells
  have k2 := below1 w1 (.cells (madeCells #[.int .i64 0] ps.length) 3)
  have I := IRow.made w1 ps.length
  have hgx : w.heap.size ≠ w1.heap.size := by have := X.lt; omega
  have hgw : w.heap.size ≤ w1.heap.size := K.size
  replace X := X.below k2
  replace K := K.trans (k2.mono K.size)
  obtain ⟨g, hg⟩ : ∃ g, g = w1.heap.size := ⟨_, rfl⟩
  rw [← hg] at I hgx hgw
  have HG := Lib.hid hg
  clear hg k2
  go_wp2
  rw [← HG.out]
  clear x0 x1 hmk HG
  go_step3
  go_wp2
  have T0 : PartS w w.heap.size (.slice (some ad) ps.length ca) (.slice B rs.length cb) g ps.length (partF ps.length rs 0) _ := ⟨X.cells.1, X.cells.2.1, I.congr (fun j _ => by unfold partF; rw [if_neg (by omega)]), K⟩
  clear X I K
  have HLT := Lib.hid (fun u => dst_len ps.length (turnL rs) u)
  generalize turnL rs = ts at HTO HBK HLT
  go_loopg [17] ps.length (fun gk i wr => ∃ k : Nat, k ≤ ps.length ∧ ps.length - k ≤ gk ∧ i = .int .i64 k ∧ PartS w w.heap.size (.slice (some ad) ps.length ca) (.slice B rs.length cb) g ps.length (partF ps.length rs k) wr)
  case atStart => exact ⟨0, by omega, by omega, rfl, T0⟩
  case round =>
    clear T0
    obtain ⟨k, hk, hgk, rfl, T⟩ := hrel
    by_cases hlt : k < ps.length
    · have HBS := Lib.hid (both_self h20 HA.out hlt)
      have HBKk := Lib.hid (fun v hv => HBK.out k v hlt hv)
      go_wp2_with fail
      go_region_held3 (fun w' => PartS w w.heap.size (.slice (some ad) ps.length ca) (.slice B rs.length cb) g ps.length (partF ps.length rs k) w')
        (first | exact PartS.drew T | assumption | (refine PartS.under (by assumption) ?_; assumption))
        (first
          | (go_at_call 27; refine (implDistFrom_yes _ B ca cb ps rs k _ (ha.below (PartS.bel (by assumption))) (hb.below (PartS.bel (by assumption))) hok hlt).mono ?_; rintro e w7 ⟨g7, rfl, -, I7, b7⟩)
          | (go_at_call 42; refine (HTO.out k _ hlt (ha.below (PartS.bel (by assumption))) (hb.below (PartS.bel (by assumption)))).mono ?_; rintro e w8 ⟨A8, c8, rfl, I8, b8⟩; have I7' := I7.below b8))
      rename_i hU
      clear T I7 b7 b8
      go_wp2
      go_loopg [28] ps.length (fun gq i wr => ∃ q : Nat, q ≤ ps.length ∧ ps.length - q ≤ gq ∧ i = .int .i64 q ∧ Hid (∀ x, x < q → both ps.length rs k x = false) ∧ IRow wr g7 ps.length (zg (dst ps.length rs k)) ∧ IsInts wr A8 (dst ps.length ts k) ∧ PartS w w.heap.size (.slice (some ad) ps.length ca) (.slice B rs.length cb) g ps.length (partF ps.length rs k) wr)
      case atStart => exact ⟨0, by omega, by omega, rfl, Lib.hid (fun x hx => by omega), I7', I8, hU⟩
      case round =>
        clear hU I7' I8
        obtain ⟨q, hq, hgq, rfl, HN, I7, I8, T⟩ := hrel
        have hqk : q ≤ k := Nat.not_lt.1 (fun h => by have := HN.out k h; rw [HBS.out] at this; cases this)
        have hqn : q < ps.length := by omega
        have c7 := I7.cell hqn
        obtain ⟨b8, o8, rfl, -, c8'⟩ := I8.at_ (k := q) (by rw [HLT.out]; exact hqn)
        rw [HBKk.out q hqn] at c8'
        by_cases h1 : zg (dst ps.length rs k) q = -1
        · have HR := Lib.hid (show both ps.length rs k q = false from decide_eq_false (fun h => h.1 h1))
          rw [h1] at c7
          go_wp2
          go_roundg (ps.length - (q + 1))
          case measure => omega
          case rel => exact ⟨q + 1, by omega, by omega, by go_num, Lib.hid (fun x hx => by
            rcases Nat.lt_or_ge x q with h | h
            · exact HN.out x h
            · obtain rfl : x = q := by omega
              exact HR.out), I7, I8, T⟩
        · have h1' : (zg (dst ps.length rs k) q != -1) = true := by simpa using h1
          have H1 := Lib.hid h1
          generalize zg (dst ps.length rs k) q = z at c7 h1'
          clear h1
          by_cases h2 : zg (dst ps.length rs q) k = -1
          · have HR := Lib.hid (show both ps.length rs k q = false from decide_eq_false (fun h => h.2 h2))
            rw [h2] at c8'
            go_wp2
            go_roundg (ps.length - (q + 1))
            case measure => omega
            case rel => exact ⟨q + 1, by omega, by omega, by go_num, Lib.hid (fun x hx => by
              rcases Nat.lt_or_ge x q with h | h
              · exact HN.out x h
              · obtain rfl : x = q := by omega
                exact HR.out), I7, I8, T⟩
          · have h2' : (zg (dst ps.length rs q) k != -1) = true := by simpa using h2
            have HP := Lib.hid (prt_is hqn (show both ps.length rs k q = true from decide_eq_true ⟨H1.out, h2⟩) HN.out)
            generalize zg (dst ps.length rs q) k = y at c8' h2'
            clear h2
            have cg := T.2.2.1.cell hlt
            have fg := T.2.2.1.frozen k
            have T' : PartS w w.heap.size (.slice (some ad) ps.length ca) (.slice B rs.length cb) g ps.length (partF ps.length rs (k + 1)) (wr.setCell ⟨g, k, none⟩ (.int .i64 (q : Int))) :=
              ⟨by rw [World.cell?_setCell_far _ _ _ _ (by simpa using hgx.symm)]; exact T.1, by rw [World.cell?_setCell_far _ _ _ _ (by simpa using hgx.symm)]; exact T.2.1, partF_step T.2.2.1 HP.out, T.2.2.2.setCell (by simpa using hgw) _⟩
            clear T I7 I8 HN
            go_wp2
            go_roundg (ps.length - (k + 1))
            case measure => omega
            case rel => exact ⟨k + 1, by omega, by omega, by go_num, T'⟩
    · obtain rfl : k = ps.length := by omega
      obtain ⟨-, -, I, K⟩ := T
      have I' := partF_end I
      have HL := Lib.hid (prtL_len ps.length rs ps.length)
      clear I
      go_wp2
      try rw [Exit.noGoto_ret]
      go_ret
      exact intsMade_row HL.out hgw I' K

theorem implParts_any (ad : Addr) (B : Option Addr) (ca cb : Nat) (ps : List (Int × Int)) (rs : List A3) (w : World) (hn : ps.length ≤ 1048576) (hm : rs.length ≤ 1048576) (ha : IsPts w (some ad) ps) (hb : IsArcs w B rs) :
    Calls Try.prog 41 #[.agg #[.slice (some ad) ps.length ca, .slice B rs.length cb]] w (IntsMade w (prts ps rs)) := by
  cases hok : netB ps rs with
  | false => rw [prts_no hok]; exact implParts_no (some ad) B ca cb ps rs w hn hm ha hb hok
  | true => rw [prts_yes hok]; exact implParts_yes ad B ca cb ps rs w ha hb hok

end Go.Proofs.Ytbmfjfglkjhlnaa
