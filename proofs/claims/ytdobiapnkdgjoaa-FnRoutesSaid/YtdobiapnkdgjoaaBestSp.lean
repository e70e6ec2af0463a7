/-
  What spec.BestRoute computes.
-/
import Derived.Test.YtdobiapnkdgjoaaBestIm
namespace Go.Proofs.Ytdobiapnkdgjoaa
open Go.RowKit Go.Deep

/-- What the search from the last arc has found, down to arc k. -/
def Later (rs : List A3) (d : List Int) (u : Int) (k : Nat) (x : Int) : Prop :=
  (x = -1 ∧ ∀ i, k ≤ i → i < rs.length → fit rs d u i = false) ∨ ∃ i, k ≤ i ∧ i < rs.length ∧ fit rs d u i = true ∧ (∀ j, k ≤ j → j < i → fit rs d u j = false) ∧ x = (arg rs i).2.1
theorem laterNo {rs : List A3} {d : List Int} {u : Int} {k : Nat} {x : Int} (h : fit rs d u k = false) (hl : Later rs d u (k + 1) x) : Later rs d u k x := by
  rcases hl with ⟨e, hn⟩ | ⟨i, h1, h2, h3, h4, e⟩
  · exact .inl ⟨e, fun i hi hl => by
      rcases Nat.eq_or_lt_of_le hi with rfl | h'
      · exact h
      · exact hn i h' hl⟩
  · exact .inr ⟨i, by omega, h2, h3, fun j hj hl => by
      rcases Nat.eq_or_lt_of_le hj with rfl | h'
      · exact h
      · exact h4 j h' hl, e⟩
theorem laterYes {rs : List A3} {d : List Int} {u : Int} {k T : Nat} (hk : k < rs.length) (h : fit rs d u k = true) (e : (arg rs k).2.1 = T) : Later rs d u k (T : Int) := .inr ⟨k, Nat.le_refl _, hk, h, fun j h1 h2 => by omega, e.symm⟩
theorem laterEnd {rs : List A3} {d : List Int} {u : Int} {x : Int} (hl : Later rs d u 0 x) : x = nxt rs d u := by
  rcases hl with ⟨e, hn⟩ | ⟨i, -, h2, h3, h4, e⟩
  · rw [e, nxt_none fun i hi => hn i (by omega) hi]
  · rw [e, nxt_hit h2 h3 fun j hj => h4 j (by omega) hj]

/-- At the goal nothing follows; elsewhere something does. -/
theorem nxt_goal {n : Nat} {rs : List A3} {d : List Int} {T : Nat} (hr : ArcsIn n rs) (hd : DBound n d) (h0 : zg d T = 0) : nxt rs d T = -1 := by
  rcases nxt_less hr hd (U := T) (by omega) with h | ⟨V, -, -, h3, h4⟩
  · exact h
  · omega
theorem nxt_some {ps : List (Int × Int)} {rs : List A3} {T U : Nat} (hok : netB ps rs = true) (hT : T < ps.length) (hU : U < ps.length) (hne : U ≠ T) (h : zg (dst ps.length (turnL rs) T) U ≠ -1) : nxt rs (dst ps.length (turnL rs) T) U ≠ -1 := by
  obtain ⟨h20, -, -, -⟩ := netB_iff.1 hok
  obtain ⟨h1, h2, h3⟩ := turn_arcs hok
  obtain ⟨a, ha, e1, e2, e3⟩ := dst_along h20 hT h1 hU hne h
  have hr := h3 a ha
  obtain ⟨i, hi, e⟩ : ∃ i, i < rs.length ∧ arg rs i = revA a := by
    obtain ⟨i, hi, e⟩ := List.getElem_of_mem hr
    exact ⟨i, hi, by unfold arg; rw [List.getD_eq_getElem?_getD, List.getElem?_eq_getElem hi]; exact e⟩
  have hf : fit rs (dst ps.length (turnL rs) T) U i = true := by
    unfold fit
    rw [e]
    simp only [revA, e1, Int.toNat_natCast, Bool.and_eq_true, decide_eq_true_eq, beq_iff_eq]
    exact ⟨trivial, e2, by omega⟩
  rcases nxt_cases rs (dst ps.length (turnL rs) T) U with ⟨-, hn⟩ | ⟨j, hj, -, e⟩
  · rw [hn i hi] at hf; cases hf
  · obtain ⟨-, ⟨t0, -⟩, -⟩ := arcsIn_net hok _ (arg_mem hj)
    rw [e]; omega

/-- What is at hand in the two loops: all that lay ahead of them, and the route so far. -/
def SpR (w wr : World) (v : Value) (pre : List Int) : Prop := Below w.heap.size w wr ∧ wr.ownsRow w.heap.size 3 1 v pre.length (pre.map (Value.int .i64))
section
variable {w wr wr' : World} {v : Value} {pre : List Int}
theorem SpR.under (hb : Below wr.heap.size wr wr') (h : SpR w wr v pre) : SpR w wr' v pre := ⟨h.1.trans (hb.mono h.1.size), ownsRow_below h.2 hb⟩
theorem SpR.drewN (h : SpR w wr v pre) (k : Nat) : SpR w (wr.drewN k) v pre := h.under (below_drewN (Below.refl _ _) k)
end

set_option maxRecDepth 100000 in
set_option maxHeartbeats 4000000 in
theorem specBestRoute_any (ad : Addr) (B : Option Addr) (ca cb : Nat) (ps : List (Int × Int)) (rs : List A3) (s t : Int) (w : World) (hn : ps.length ≤ 1048576) (hm : rs.length ≤ 1048576) (ha : IsPts w (some ad) ps) (hb : IsArcs w B rs) :
    Calls Try.prog 18 #[.agg #[.slice (some ad) ps.length ca, .slice B rs.length cb], .int .i64 s, .int .i64 t] w (IntsMade w (brt ps rs s t)) := by
  obtain ⟨i0, hi0, hz0, hz1, hz2⟩ := info_parts Try.infoInt
  have X := Pair.new w 27 (.slice (some ad) ps.length ca) (.slice B rs.length cb)
  have K := below1 w (.cells #[.slice (some ad) ps.length ca, .slice B rs.length cb] 27)
  have HBt := Lib.hid (fun W hb' => specBetween_any (some ad) B ca cb ps rs s t W hn hm (ha.below hb') (hb.below hb'))
  by_cases hq : dB ps rs s t = -1
  · rw [hq] at HBt
    have HQ := Lib.hid (show brt ps rs s t = [] by unfold brt; rw [if_pos hq])
    go_enter Try.func18, Try.ntmps18
    go_wp2_with fail
    refine (HBt.out _ K).mono ?_; rintro e w1 ⟨rfl, b1⟩
    replace K := K.trans (b1.mono K.size)
    have k2 := below1 w1 (.cells #[] 3)
    replace K := K.trans (k2.mono K.size)
    clear b1 X k2
    go_wp2
    go_ret
    exact intsMade_nil HQ.out _ _ K
  · obtain ⟨hok, S, T, rfl, rfl, hS, hT⟩ := dB_nodes hq
    have HQ := Lib.hid (show brt ps rs S T = brF rs (dst ps.length (turnL rs) T) 200001 S by unfold brt; rw [if_neg hq]; rfl)
    obtain ⟨h20, h70, -, -⟩ := netB_iff.1 hok
    have hA := arcsIn_net hok
    have hst : zg (dst ps.length (turnL rs) T) S ≠ -1 := by rw [← dB_back hok hS hT]; exact hq
    have hD : DBound ps.length (dst ps.length (turnL rs) T) := ⟨dst_len _ _ _, fun i hi => dst_val h20 hT (turn_arcs hok).1 hi⟩
    have HGOAL := Lib.hid (nxt_goal hA hD (T := T) ((dst_di h20 hT (turn_arcs hok).1).src))
    have HSOME := Lib.hid (fun U hU hne h => nxt_some (U := U) hok hT hU hne h)
    have hq' : (dB ps rs S T == -1) = false := beq_eq_false_iff_ne.2 hq
    obtain ⟨q, HQV⟩ : ∃ q, Hid (dB ps rs S T = q) := ⟨_, Lib.hid rfl⟩
    rw [HQV.out] at HBt hq'
    obtain ⟨ts, hts⟩ : ∃ ts, ts = turnL rs := ⟨_, rfl⟩
    have HT := Lib.hid (show ∀ (ca cb : Nat) (w : World), IsPts w (some ad) ps → IsArcs w B rs → Calls Try.prog 66 #[.agg #[.slice (some ad) ps.length ca, .slice B rs.length cb]] w (NetOwned w ps ts) from fun ca cb w g1 g2 => by rw [hts]; exact specTurned_yes ad B ca cb ps rs w hn hm g1 g2 hok)
    have htl : ts.length ≤ 70 := by rw [hts]; exact (netB_iff.1 (turn_valid hok)).2.1
    have HA := Lib.hid (show ArcsIn ps.length ts by rw [hts]; exact (turn_arcs hok).1)
    rw [← hts] at HQ hst hD HGOAL HSOME
    clear hts hq
    obtain ⟨d, hd⟩ : ∃ d, d = dst ps.length ts T := ⟨_, rfl⟩
    have HDE := Lib.hid hd
    rw [← hd] at HQ hst hD HGOAL HSOME
    clear hd
    have HD := Lib.hid hD
    have hsd : 0 ≤ zg d S ∧ zg d S ≤ 200000 := (hD.2 S hS).resolve_left hst
    clear hD hst
    go_enter Try.func18, Try.ntmps18
    go_wp2_with fail
    refine (HBt.out _ K).mono ?_; rintro e w1 ⟨rfl, b1⟩
    replace K := K.trans (b1.mono K.size)
    replace X := X.below b1
    clear b1 HBt
    obtain ⟨x0, x1, -, -⟩ := X.cells
    go_wp2_with fail
    clear x0 x1
    refine (HT.out ca cb _ (ha.below K) (hb.below K)).mono ?_; rintro e w3 ⟨A2, B2, ca2, cb2, rfl, OP2, OR2, -, b3⟩
    replace K := K.trans (b3.mono K.size)
    replace X := X.below b3
    have R2 := own_arcs OR2
    clear b3 OP2 OR2 HT
    go_wp2_with fail
    refine (l04From_any A2 B2 ca2 cb2 ps.length T ts _ h20 htl hT HA.out R2).mono ?_; rw [← HDE.out]; rintro e w4 ⟨D, cd, rfl, hcd, O4, b4⟩
    replace K := K.trans (b4.mono K.size)
    replace X := X.below b4
    clear b4 R2
    have k5 := below1 w4 (.cells #[.int .i64 (S : Int)] 3)
    have own : (w4.alloc (.cells #[.int .i64 (S : Int)] 3)).ownsRow w4.heap.size 3 1 (.slice (some ⟨w4.heap.size, 0, none⟩) 1 1) 1 [.int .i64 (S : Int)] :=
      ⟨rfl, .inr ⟨w4.heap.size, 1, #[.int .i64 (S : Int)], rfl, Nat.le_refl _, heap_alloc_new _ _, Nat.le_refl _, by unfold maxLen; omega, rfl, rfl⟩⟩
    have Y : SpR w4 (w4.alloc (.cells #[.int .i64 (S : Int)] 3)) (.slice (some ⟨w4.heap.size, 0, none⟩) 1 1) [(S : Int)] := ⟨k5, own⟩
    have HX := Lib.hid X.cells
    have HK := Lib.hid K
    have HI := Lib.hid O4.ints
    have HR4 := Lib.hid (hb.below K)
    have hdl := HD.out.1
    have HDL := Lib.hid hdl
    clear X K own k5 O4 hdl ha hb
    go_wp2
    go_loopw [8, 9] (fun v i wr => ∃ (pre : List Int) (U : Nat), i = .int .i64 (U : Int) ∧ U < ps.length ∧ SpR w4 wr v pre ∧ pre ++ brF rs d (200001 - pre.length) (nxt rs d U) = brF rs d 200001 S ∧ 0 ≤ zg d U ∧ 1 ≤ pre.length ∧ zg d U + pre.length ≤ 200001)
      (fun _ i _ => (zg d (intOf i).toNat).toNat)
    case atStart => exact ⟨[(S : Int)], S, rfl, hS, Y, (brF_step rs d 200000 S (by omega)).symm, hsd.1, by simp, by simp; omega⟩
    case round =>
      clear Y
      obtain ⟨pre, U, rfl, hU, Y, hpre, hU0, hp1, hU1⟩ := hrel
      have HPRE := Lib.hid hpre
      clear hpre
      by_cases hUT : U = T
      · subst hUT
        have hne : ((U : Int) != (U : Int)) = false := by simp
        have HE := Lib.hid (show pre = brF rs d 200001 S by have := HPRE.out; rw [HGOAL.out, brF_end, List.append_nil] at this; exact this)
        obtain ⟨K4, own⟩ := Y
        have K := HK.out.trans (K4.mono HK.out.size)
        go_wp2
        go_ret
        rw [HQ.out, ← HE.out]
        exact intsMade_of (ownsRow_base own HK.out.size) K
      · have hne : ((U : Int) != (T : Int)) = true := by simp; omega
        have HNE := Lib.hid (HSOME.out U hU hUT (by omega))
        have hUn : (U : Int) < ps.length := by omega
        have x0 := cell_under Y.1 HX.out.1
        have x1 := cell_under Y.1 HX.out.2.1
        have hml : IntKind.i64.wrap ((rs.length : Int) - 1) = (rs.length : Int) - 1 := IntWalk.i64_in _ (by omega)
        go_wp2
        clear x0 x1
        go_loopw [10, 11] (fun x i wr => ∃ k : Nat, k ≤ rs.length ∧ i = .int .i64 ((k : Int) - 1) ∧ ∃ z, x = .int .i64 z ∧ SpR w4 wr u8 pre ∧ Later rs d U k z) (fun _ i _ => (intOf i + 1).toNat)
        case atStart => exact ⟨rs.length, Nat.le_refl _, rfl, -1, rfl, Y, .inl ⟨rfl, fun i h1 h2 => by omega⟩⟩
        case round =>
          clear Y
          obtain ⟨k1, hk, rfl, x, rfl, Y, hlat⟩ := hrel
          have HLAT := Lib.hid hlat
          clear hlat
          rcases Nat.eq_zero_or_pos k1 with h0 | h0
          · subst h0
            obtain ⟨i, hi⟩ : ∃ i : Int, i = ((0 : Nat) : Int) - 1 := ⟨_, rfl⟩
            rw [← hi]
            have hd : decide (0 ≤ i) = false := decide_eq_false (by omega)
            have hd2 : i < 0 := by omega
            clear hi
            obtain ⟨V, hV, hVn, hV0, hV1⟩ := (nxt_less hA HD.out hU0).resolve_left HNE.out
            have hxV : x = (V : Int) := (laterEnd HLAT.out).trans hV
            subst hxV
            have HV := Lib.hid hV
            clear HLAT hV
            have hl1 : pre.length ≤ 200001 := by omega
            go_wp2_with (at_builtin; refine wpList_append_own _ rfl _ _ 30 rfl w4.heap.size 3 i0 (.int .i64 0) 1 8 Try.underlying30 hi0 hz0 hz1 hz2 rfl (by decide) _ _ _ rfl (Y.2.alloc _) ⟨wr.heap.size, 0, none⟩ 1 1 [.int .i64 (V : Int)] rfl rfl ?c1 ?c2 ?c3 ?c4 ?c5 ?_)
            case c1 => exact cell_one_new _ _ _
            case c2 => intro u hu; simp at hu; subst hu; rfl
            case c3 => unfold maxLen; omega
            case c4 => omega
            case c5 => have := Y.1.size; simp; omega
            · intro v' w5 own5 g5 _
              have hown := ownsRow_block Y.2
              have Z : SpR w4 w5 v' (pre ++ [(V : Int)]) := ⟨(Y.1.alloc Y.1.size _).grown g5 (by have := Y.1.size; simp; omega) (fun g e => hown g e), by simpa using own5⟩
              clear own5 g5 Y hown
              go_wp2
              go_roundw
              case rel =>
                refine ⟨pre ++ [(V : Int)], V, rfl, hVn, Z, ?_, hV0, by simp, by simp; omega⟩
                obtain ⟨M, hM⟩ : ∃ M, 200001 - pre.length = M + 1 := ⟨200000 - pre.length, by omega⟩
                have := HPRE.out
                rw [hM, HV.out, brF_step rs d M V (by omega)] at this
                rw [List.length_append, show 200001 - (pre.length + [(V : Int)].length) = M by simp; omega, List.append_assoc]
                exact this
              case measure => simp [intOf]; omega
          · obtain ⟨k, rfl⟩ : ∃ k, k1 = k + 1 := ⟨k1 - 1, by omega⟩
            rw [show (((k + 1 : Nat) : Int) - 1) = (k : Int) by omega]
            have hlt : k < rs.length := by omega
            have hd : decide (0 ≤ (k : Int)) = true := decide_eq_true (by omega)
            have hkn : (k : Int) < rs.length := by omega
            have x0 := cell_under Y.1 HX.out.1
            have x1 := cell_under Y.1 HX.out.2.1
            obtain ⟨b, off, rfl, -, c0, c1, c2⟩ := (HR4.out.below Y.1).at_ hlt
            obtain ⟨⟨f0, f1⟩, ⟨t0, t1⟩, -, l0, l1⟩ := hA _ (arg_mem hlt)
            obtain ⟨F, T2, L, hF, hT2, hL⟩ : ∃ (F T2 : Nat) (L : Int), (arg rs k).1 = F ∧ (arg rs k).2.1 = T2 ∧ (arg rs k).2.2 = L := ⟨(arg rs k).1.toNat, (arg rs k).2.1.toNat, _, by omega, by omega, rfl⟩
            have HFIT := Lib.hid (show fit rs d U k = ((F : Int) == (U : Int) && (decide (zg d T2 ≠ -1) && (L + zg d T2 == zg d U))) by unfold fit; rw [hF, hT2, hL]; rfl)
            have HT2 := Lib.hid hT2
            rw [hF] at c0 f0 f1
            rw [hT2] at c1 t0 t1
            rw [hL] at c2 l0 l1
            clear hF hT2 hL
            have hTn : T2 < ps.length := by omega
            have hb1 := below1 wr (.cells #[.int .i64 (F : Int), .int .i64 (T2 : Int), .int .i64 L] 92)
            obtain ⟨zb, zo, rfl, -, zT⟩ := (HI.out.below (Y.1.trans (hb1.mono Y.1.size))).at_ (k := T2) (by rw [HDL.out]; exact hTn)
            obtain ⟨zb', zo', e', -, zU⟩ := (HI.out.below (Y.1.trans (hb1.mono Y.1.size))).at_ (k := U) (by rw [HDL.out]; exact hU)
            cases e'
            obtain ⟨a0, a1, a2⟩ := arc_new wr F T2 L 92
            have hl2 : T2 < d.length := by rw [HDL.out]; exact hTn
            have hl3 : U < d.length := by rw [HDL.out]; exact hU
            have hl4 : (T2 : Int) < d.length := by omega
            have hl5 : (U : Int) < d.length := by omega
            cases e1 : ((F : Int) == (U : Int)) with
            | false =>
              have HH := Lib.hid (show fit rs d U k = false by rw [HFIT.out, e1]; simp)
              clear HFIT
              go_wp2_with fail
              go_quiet (fail)
              go_wp2
              go_roundw
              case rel => exact ⟨k, by omega, by go_num, x, rfl, SpR.drewN (SpR.under hb1 Y) _, laterNo HH.out HLAT.out⟩
              case measure => simp [intOf]
            | true =>
              by_cases e2 : zg d T2 = -1
              · have e2' : (zg d T2 != -1) = false := by simp [e2]
                rw [e2] at zT
                have HH := Lib.hid (show fit rs d U k = false by rw [HFIT.out, e2]; simp)
                clear HFIT
                go_wp2_with fail
                go_quiet (fail)
                go_wp2
                go_roundw
                case rel => exact ⟨k, by omega, by go_num, x, rfl, SpR.drewN (SpR.under hb1 Y) _, laterNo HH.out HLAT.out⟩
                case measure => simp [intOf]
              · have e2' : (zg d T2 != -1) = true := by simp [e2]
                have e2'' : decide (zg d T2 ≠ -1) = true := decide_eq_true e2
                have hT := (HD.out.2 T2 hTn).resolve_left e2
                obtain ⟨p, hp⟩ : ∃ p, p = zg d T2 := ⟨_, rfl⟩
                rw [← hp] at e2 e2' e2'' zT HFIT hT
                obtain ⟨y, hy⟩ : ∃ y, y = zg d U := ⟨_, rfl⟩
                rw [← hy] at zU HFIT
                have hwr : IntKind.i64.wrap (L + p) = L + p := IntWalk.i64_in _ (by omega)
                clear hp hy
                cases e3 : (L + p == y) with
                | false =>
                  have e3' : (y == L + p) = false := by rw [beq_eq_false_iff_ne] at e3 ⊢; exact fun h => e3 h.symm
                  have HH := Lib.hid (show fit rs d U k = false by rw [HFIT.out, e3]; simp)
                  clear HFIT
                  go_wp2_with fail
                  go_quiet (fail)
                  go_wp2
                  go_roundw
                  case rel => exact ⟨k, by omega, by go_num, x, rfl, SpR.drewN (SpR.under hb1 Y) _, laterNo HH.out HLAT.out⟩
                  case measure => simp [intOf]
                | true =>
                  have e3' : (y == L + p) = true := by rw [beq_iff_eq] at e3 ⊢; exact e3.symm
                  have HH := Lib.hid (show fit rs d U k = true by rw [HFIT.out, e1, e2'', e3]; rfl)
                  clear HFIT
                  go_wp2_with fail
                  go_quiet (fail)
                  go_wp2
                  go_roundw
                  case rel => exact ⟨k, by omega, by go_num, _, rfl, SpR.drewN (SpR.under hb1 Y) _, laterYes hlt HH.out HT2.out⟩
                  case measure => simp [intOf]

end Go.Proofs.Ytdobiapnkdgjoaa
