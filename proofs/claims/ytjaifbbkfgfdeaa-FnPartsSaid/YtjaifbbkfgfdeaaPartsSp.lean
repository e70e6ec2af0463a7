/-
  What spec.Parts computes: the smallest node of each strongly connected component.
-/
import Derived.Test.YtjaifbbkfgfdeaaDistTop
import Derived.Maps.AppendAt
namespace Go.Proofs.Ytjaifbbkfgfdeaa
open Go.RowKit Go.Deep

/-- The components of the first k nodes. -/
def prtL (n : Nat) (rs : List A3) (k : Nat) : List Int := (List.range k).map (fun u => (prt n rs u : Int))
theorem prtL_len (n : Nat) (rs : List A3) (k : Nat) : (prtL n rs k).length = k := by unfold prtL; simp
theorem prtL_succ (n : Nat) (rs : List A3) (k : Nat) : prtL n rs (k + 1) = prtL n rs k ++ [(prt n rs k : Int)] := by unfold prtL; rw [List.range_succ, List.map_append]; rfl
theorem prts_yes {ps : List (Int × Int)} {rs : List A3} (h : netB ps rs = true) : prts ps rs = prtL ps.length rs ps.length := by unfold prts; rw [if_pos h]; rfl
theorem prts_no {ps : List (Int × Int)} {rs : List A3} (h : netB ps rs = false) : prts ps rs = [] := by unfold prts; rw [if_neg (by rw [h]; simp)]
theorem prts_len (ps : List (Int × Int)) (rs : List A3) : (prts ps rs).length ≤ ps.length := by
  unfold prts; split
  · simp
  · simp

/-- What is at hand at the head of the outer loop. -/
def PartRel (w wr : World) (A B : Option Addr) (n ca m cb : Nat) (rs : List A3) (v : Value) (k : Nat) : Prop :=
  wr.ownsRow (w.heap.size + 1) 3 1 v k ((prtL n rs k).map (Value.int .i64)) ∧ Pair wr w.heap.size 27 (.slice A n ca) (.slice B m cb) ∧ Below w.heap.size w wr

set_option maxRecDepth 100000 in
set_option maxHeartbeats 2000000 in
theorem specParts_yes (A B : Option Addr) (ca cb : Nat) (ps : List (Int × Int)) (rs : List A3) (w : World) (ha : IsPts w A ps) (hb : IsArcs w B rs) (hok : netB ps rs = true) :
    Calls Try.prog 21 #[.agg #[.slice A ps.length ca, .slice B rs.length cb]] w (IntsMade w (prtL ps.length rs ps.length)) := by
  obtain ⟨h20, h70, -, -⟩ := netB_iff.1 hok
  have HA := Lib.hid (arcsIn_net hok)
  obtain ⟨i0, hi, hz0, hz1, hz2⟩ := info_parts Try.infoInt
  have X := (Pair.new w 27 (.slice A ps.length ca) (.slice B rs.length cb)).alloc (.cells #[] 3)
  have K := below2 w (.cells #[.slice A ps.length ca, .slice B rs.length cb] 27) (.cells #[] 3)
  have O : ((w.alloc (.cells #[.slice A ps.length ca, .slice B rs.length cb] 27)).alloc (.cells #[] 3)).ownsRow (w.heap.size + 1) 3 1 (.slice (some ⟨w.heap.size + 1, 0, none⟩) 0 0) 0 [] :=
    ⟨rfl, .inr ⟨w.heap.size + 1, 0, #[], rfl, by omega, by have := heap_alloc_new (w.alloc (.cells #[.slice A ps.length ca, .slice B rs.length cb] 27)) (.cells #[] 3); simpa using this, Nat.le_refl _, Nat.zero_le _, rfl, rfl⟩⟩
  go_enter Try.func21, Try.ntmps21
  go_wp2_with fail
  refine (specNetOk_any A B ca cb ps rs _ (by omega) (by omega) (ha.below K) (hb.below K)).mono ?_; rintro e w1 ⟨rfl, b1⟩
  have R0 : PartRel w w1 A B ps.length ca rs.length cb rs (.slice (some ⟨w.heap.size + 1, 0, none⟩) 0 0) 0 := ⟨ownsRow_below O b1, X.below b1, K.trans (b1.mono K.size)⟩
  clear X K O b1
  go_wp2
  go_loopw [3, 4] (fun v i wr => ∃ k : Nat, k ≤ ps.length ∧ i = .int .i64 k ∧ PartRel w wr A B ps.length ca rs.length cb rs v k) (fun _ i _ => ps.length - (intOf i).toNat)
  case atStart => exact ⟨0, by omega, rfl, R0⟩
  case round =>
    clear R0
    obtain ⟨k, hk, rfl, O, X, K⟩ := hrel
    obtain ⟨x0, x1, -, -⟩ := X.cells
    by_cases hlt : k < ps.length
    · go_wp2_with fail
      clear x0 x1
      refine (l04From_any A B ca cb ps.length k rs _ h20 h70 hlt HA.out (hb.below K)).mono ?_; rintro e w2 ⟨A2, c2, rfl, hc2, O2, b2⟩
      replace X := X.below b2
      replace O := ownsRow_below O b2
      replace K := K.trans (b2.mono K.size)
      have I := O2.ints
      have HL := Lib.hid (dst_len ps.length rs k)
      rw [HL.out] at hc2 ⊢
      clear b2 O2
      obtain ⟨x0, x1, -, -⟩ := X.cells
      have HBS := Lib.hid (both_self h20 HA.out hlt)
      go_wp2
      clear x0 x1
      go_loopw [6, 7] (fun b i wr => ∃ q l : Nat, q ≤ ps.length ∧ i = .int .i64 ((q : Int) - 1) ∧ b = .int .i64 l ∧ l < ps.length ∧ Hid (both ps.length rs k l = true ∧ ∀ x, q ≤ x → x < l → both ps.length rs k x = false) ∧ IsInts wr A2 (dst ps.length rs k) ∧ wr.ownsRow (w.heap.size + 1) 3 1 u3 k ((prtL ps.length rs k).map (Value.int .i64)) ∧ Pair wr w.heap.size 27 (.slice A ps.length ca) (.slice B rs.length cb) ∧ Below w.heap.size w wr) (fun _ i _ => (intOf i + 1).toNat)
      case atStart => exact ⟨ps.length, k, Nat.le_refl _, rfl, rfl, hlt, Lib.hid ⟨HBS.out, fun x h1 h2 => by omega⟩, I, O, X, K⟩
      case round =>
        clear I O X K
        obtain ⟨q, l, hq, rfl, rfl, hl, HB, I, O, X, K⟩ := hrel
        rcases Nat.eq_zero_or_pos q with h0 | hp
        · subst h0
          have HP := Lib.hid (prt_is hl HB.out.1 (fun i hi => HB.out.2 i (Nat.zero_le _) hi))
          clear HB I
          rw [show (((0 : Nat) : Int) - 1) = -1 by omega]
          go_wp2_with (at_builtin; refine wpList_append_own _ rfl _ _ 30 rfl (w.heap.size + 1) 3 i0 (.int .i64 0) 1 8 Try.underlying30 hi hz0 hz1 hz2 rfl (by decide) _ _ _ rfl (O.alloc _) ⟨wr.heap.size, 0, none⟩ 1 1 [.int .i64 l] rfl rfl ?c1 ?c2 ?c3 ?c4 ?c5 ?_)
          case c1 => exact cell_one_new _ _ _
          case c2 => intro u hu; simp at hu; subst hu; rfl
          case c3 => unfold maxLen; omega
          case c4 => omega
          case c5 => have := X.lt; simp; omega
          · intro v' w4 own4 g4 _
            have hown := ownsRow_block O
            have R : PartRel w w4 A B ps.length ca rs.length cb rs v' (k + 1) := by
              refine ⟨?_, (X.alloc _).grownUp g4 (fun g e => by have := hown g e; omega), (K.alloc K.size _).grown g4 (by have := K.size; simp; omega) (fun g e => by have := hown g e; omega)⟩
              rw [prtL_succ, HP.out]; simpa using own4
            clear own4 g4 O X K HP
            go_wp2
            go_roundw
            case rel => exact ⟨k + 1, by omega, by go_num, R⟩
            case measure => simp [intOf]; omega
        · obtain ⟨j, rfl⟩ : ∃ j, q = j + 1 := ⟨q - 1, by omega⟩
          have hj1 : (((j + 1 : Nat) : Int) - 1) = (j : Int) := by omega
          have hjn : j < ps.length := by omega
          rw [hj1]
          obtain ⟨b, off, rfl, -, cz⟩ := I.at_ (k := j) (by rw [HL.out]; exact hjn)
          by_cases h1 : zg (dst ps.length rs k) j = -1
          · have HR := Lib.hid (show both ps.length rs k j = false from decide_eq_false (fun h => h.1 h1))
            rw [h1] at cz
            go_wp2
            go_roundw
            case rel => exact ⟨j, l, by omega, by go_num, rfl, hl, Lib.hid ⟨HB.out.1, fun x h2 h3 => by
              rcases Nat.lt_or_ge j x with h | h
              · exact HB.out.2 x h h3
              · obtain rfl : x = j := by omega
                exact HR.out⟩, I, O, X, K⟩
            case measure => simp [intOf]
          · have h1' : (zg (dst ps.length rs k) j != -1) = true := by simpa using h1
            have H1 := Lib.hid h1
            obtain ⟨x0, x1, -, -⟩ := X.cells
            generalize zg (dst ps.length rs k) j = z at cz h1'
            clear h1
            go_wp2_with fail
            clear x0 x1 cz
            refine (l04From_any A B ca cb ps.length j rs _ h20 h70 hjn HA.out (hb.below K)).mono ?_; rintro e w3 ⟨A3, c3, rfl, hc3, O3, b3⟩
            replace X := X.below b3
            replace O := ownsRow_below O b3
            replace I := I.below b3
            replace K := K.trans (b3.mono K.size)
            have HL3 := Lib.hid (dst_len ps.length rs j)
            obtain ⟨b', off', rfl, -, cy⟩ := O3.ints.at_ (k := k) (by rw [HL3.out]; exact hlt)
            rw [HL3.out] at hc3 ⊢
            clear b3 O3
            by_cases h2 : zg (dst ps.length rs j) k = -1
            · have HR := Lib.hid (show both ps.length rs k j = false from decide_eq_false (fun h => h.2 h2))
              rw [h2] at cy
              go_wp2
              go_roundw
              case rel => exact ⟨j, l, by omega, by go_num, rfl, hl, Lib.hid ⟨HB.out.1, fun x h2 h3 => by
                rcases Nat.lt_or_ge j x with h | h
                · exact HB.out.2 x h h3
                · obtain rfl : x = j := by omega
                  exact HR.out⟩, I, O, X, K⟩
              case measure => simp [intOf]
            · have h2' : (zg (dst ps.length rs j) k != -1) = true := by simpa using h2
              have HR := Lib.hid (show both ps.length rs k j = true from decide_eq_true ⟨H1.out, h2⟩)
              generalize zg (dst ps.length rs j) k = y at cy h2'
              clear h2
              go_wp2
              go_roundw
              case rel => exact ⟨j, j, by omega, by go_num, rfl, hjn, Lib.hid ⟨HR.out, fun x h2 h3 => by omega⟩, I, O, X, K⟩
              case measure => simp [intOf]
    · obtain rfl : k = ps.length := by omega
      clear hk hlt
      go_wp2
      go_ret
      exact intsMade_of (ownsRow_base (by rw [prtL_len]; exact O) (by omega)) K

theorem specParts_no (A B : Option Addr) (ca cb : Nat) (ps : List (Int × Int)) (rs : List A3) (w : World) (hn : ps.length ≤ 1048576) (hm : rs.length ≤ 1048576) (ha : IsPts w A ps) (hb : IsArcs w B rs) (hok : netB ps rs = false) :
    Calls Try.prog 21 #[.agg #[.slice A ps.length ca, .slice B rs.length cb]] w (IntsMade w []) := by
  have K := below2 w (.cells #[.slice A ps.length ca, .slice B rs.length cb] 27) (.cells #[] 3)
  have X := (Pair.new w 27 (.slice A ps.length ca) (.slice B rs.length cb)).alloc (.cells #[] 3)
  obtain ⟨x0, x1, -, -⟩ := X.cells
  go_enter Try.func21, Try.ntmps21
  go_wp2_with fail
  refine (specNetOk_any A B ca cb ps rs _ hn hm (ha.below K) (hb.below K)).mono ?_; rintro e w1 ⟨rfl, b1⟩
  replace K := K.trans (b1.mono K.size)
  clear b1 x0 x1 X
  go_wp2
  go_ret
  exact intsMade_nil rfl _ _ K

theorem specParts_any (A B : Option Addr) (ca cb : Nat) (ps : List (Int × Int)) (rs : List A3) (w : World) (hn : ps.length ≤ 1048576) (hm : rs.length ≤ 1048576) (ha : IsPts w A ps) (hb : IsArcs w B rs) :
    Calls Try.prog 21 #[.agg #[.slice A ps.length ca, .slice B rs.length cb]] w (IntsMade w (prts ps rs)) := by
  cases hok : netB ps rs with
  | false => rw [prts_no hok]; exact specParts_no A B ca cb ps rs w hn hm ha hb hok
  | true => rw [prts_yes hok]; exact specParts_yes A B ca cb ps rs w ha hb hok

end Go.Proofs.Ytjaifbbkfgfdeaa
