/-
  What impl.SameDists computes.
-/
import Derived.Test.YtjaifbbkfgfdeaaSameD
namespace Go.Proofs.Ytjaifbbkfgfdeaa
open Go.RowKit Go.Deep

set_option maxRecDepth 100000 in
set_option maxHeartbeats 2000000 in
theorem implSameDists_any (A B C D : Option Addr) (ca cb cc cd : Nat) (ps : List (Int × Int)) (rs : List A3) (qs : List (Int × Int)) (ts : List A3) (w : World) (hn : ps.length ≤ 1048576) (hm : rs.length ≤ 1048576) (hn2 : qs.length ≤ 1048576) (hm2 : ts.length ≤ 1048576) (ha : IsPts w A ps) (hb : IsArcs w B rs) (hc : IsPts w C qs) (hd : IsArcs w D ts) :
    Calls Try.prog 18 #[.agg #[.slice A ps.length ca, .slice B rs.length cb], .agg #[.slice C qs.length cc, .slice D ts.length cd]] w fun e w' => e = .returned (.bool (sdB ps rs qs ts)) ∧ Below w.heap.size w w' := by
  have T := SdS.start w (.slice A ps.length ca) (.slice B rs.length cb) (.slice C qs.length cc) (.slice D ts.length cd) 27
  cases h1 : netB ps rs with
  | false =>
    have HQ := Lib.hid (sdB_no (qs := qs) (ts := ts) (.inl h1))
    obtain ⟨x0, x1, y0, y1, K⟩ := T
    go_enter Try.func18, Try.ntmps18
    go_wp2_with fail
    refine (implNetOk_any A B ca cb ps rs _ hn hm (ha.below K) (hb.below K)).mono ?_; rintro e w1 ⟨rfl, b1⟩
    replace K := K.trans (b1.mono K.size)
    clear b1 x0 x1 y0 y1
    go_wp2
    go_ret
    exact ⟨retB HQ.out.symm, K⟩
  | true =>
    cases h2 : netB qs ts with
    | false =>
      have HQ := Lib.hid (sdB_no (ps := ps) (rs := rs) (.inr (.inl h2)))
      obtain ⟨x0, x1, y0, y1, K⟩ := T
      have T : SdS w w.heap.size (w.heap.size + 1) _ _ _ _ _ := ⟨x0, x1, y0, y1, K⟩
      go_enter Try.func18, Try.ntmps18
      go_wp2_with fail
      refine (implNetOk_any A B ca cb ps rs _ hn hm (ha.below K) (hb.below K)).mono ?_; rintro e w1 ⟨rfl, b1⟩
      replace T := SdS.under b1 T
      clear b1 x0 x1 y0 y1 K
      obtain ⟨x0, x1, y0, y1, K⟩ := T
      go_wp2_with fail
      refine (implNetOk_any C D cc cd qs ts _ hn2 hm2 (hc.below K) (hd.below K)).mono ?_; rintro e w2 ⟨rfl, b2⟩
      replace K := K.trans (b2.mono K.size)
      clear b2 x0 x1 y0 y1
      go_wp2
      go_ret
      exact ⟨retB HQ.out.symm, K⟩
    | true =>
      by_cases h3 : ps.length = qs.length
      · obtain ⟨h20, h70, -, -⟩ := netB_iff.1 h1
        obtain ⟨-, h70', -, -⟩ := netB_iff.1 h2
        have HA := Lib.hid (arcsIn_net h1)
        have HA2 := Lib.hid (show ArcsIn ps.length ts by rw [h3]; exact arcsIn_net h2)
        have HALL := Lib.hid (fun h4 => sdB_all h1 h2 h3 h4)
        have HAT := Lib.hid (fun u hu h => sdB_at (ps := ps) (rs := rs) (qs := qs) (ts := ts) (u := u) hu h)
        have HS2 : Hid (∀ w, IsPts w C qs → IsArcs w D ts → Calls Try.prog 35 #[.agg #[.slice C ps.length cc, .slice D ts.length cd]] w (fun e w' => e = .returned (.bool true) ∧ Below w.heap.size w w')) := Lib.hid (fun w g1 g2 => by have := implNetOk_any C D cc cd qs ts w hn2 hm2 g1 g2; rw [h2] at this; rw [h3]; exact this)
        have HC := Lib.hid hc
        have HFQ : Hid (∀ k, k < ps.length → ∀ w, IsPts w C qs → IsArcs w D ts → Calls Try.prog 12 #[.agg #[.slice C ps.length cc, .slice D ts.length cd], .int .i64 (k : Int)] w (fun e w' => ∃ A c, e = .returned (.slice A ps.length c) ∧ IsInts w' A (dst ps.length ts k) ∧ Below w.heap.size w w')) := Lib.hid (fun k hk w g0 g1 => by
          rw [h3] at hk ⊢
          exact (implDistFrom_yes C D cc cd qs ts k w g0 g1 h2 hk).mono fun e w' h => by
            obtain ⟨g, rfl, -, I, b⟩ := h
            exact ⟨_, _, rfl, fun hp => ⟨g, 0, rfl, I.lt, fun i hi => by rw [Nat.zero_add]; exact I.cell (by rw [dst_len] at hi; exact hi)⟩, b⟩)
        rw [← h3] at T ⊢
        have hne : (((ps.length : Nat) : Int) != ((ps.length : Nat) : Int)) = false := by simp
        clear h3 hc
        obtain ⟨x0, x1, y0, y1, K⟩ := T
        have T : SdS w w.heap.size (w.heap.size + 1) _ _ _ _ _ := ⟨x0, x1, y0, y1, K⟩
        go_enter Try.func18, Try.ntmps18
        go_wp2_with fail
        refine (implNetOk_any A B ca cb ps rs _ hn hm (ha.below K) (hb.below K)).mono ?_; rintro e w1 ⟨rfl, b1⟩
        replace T := SdS.under b1 T
        clear b1 x0 x1 y0 y1 K
        obtain ⟨x0, x1, y0, y1, K⟩ := T
        have T : SdS w w.heap.size (w.heap.size + 1) _ _ _ _ _ := ⟨x0, x1, y0, y1, K⟩
        go_wp2_with fail
        refine (HS2.out _ (HC.out.below K) (hd.below K)).mono ?_; rintro e w2 ⟨rfl, b2⟩
        replace T := SdS.under b2 T
        clear b2 x0 x1 y0 y1 K
        obtain ⟨x0, x1, y0, y1, K⟩ := T
        have T : SdS w w.heap.size (w.heap.size + 1) _ _ _ _ _ := ⟨x0, x1, y0, y1, K⟩
        go_wp2
        clear x0 x1 y0 y1 K

        go_loopw [26] (fun i wr => ∃ k : Nat, k ≤ ps.length ∧ i = .int .i64 k ∧ Hid (∀ u, u < k → dst ps.length rs u = dst ps.length ts u) ∧ SdS w w.heap.size (w.heap.size + 1) (.slice A ps.length ca) (.slice B rs.length cb) (.slice C ps.length cc) (.slice D ts.length cd) wr) (fun i _ => ps.length - (intOf i).toNat)
        case atStart => exact ⟨0, by omega, rfl, Lib.hid (fun u hu => by omega), T⟩
        case round =>
          clear T
          obtain ⟨k, hk, rfl, HE, T⟩ := hrel
          obtain ⟨x0, x1, y0, y1, K⟩ := T
          have T : SdS w w.heap.size (w.heap.size + 1) _ _ _ _ _ := ⟨x0, x1, y0, y1, K⟩
          by_cases hlt : k < ps.length
          · have HL1 := Lib.hid (dst_len ps.length rs k)
            have HL2 := Lib.hid (dst_len ps.length ts k)
            have HF1 : Hid (∀ w, IsPts w A ps → IsArcs w B rs → Calls Try.prog 12 #[.agg #[.slice A ps.length ca, .slice B rs.length cb], .int .i64 (k : Int)] w (fun e w' => ∃ A c, e = .returned (.slice A ps.length c) ∧ IsInts w' A (dst ps.length rs k) ∧ Below w.heap.size w w')) := Lib.hid (fun w g0 g1 => (implDistFrom_yes A B ca cb ps rs k w g0 g1 h1 hlt).mono fun e w' h => by
              obtain ⟨g, rfl, -, I, b⟩ := h
              exact ⟨_, _, rfl, fun hp => ⟨g, 0, rfl, I.lt, fun i hi => by rw [Nat.zero_add]; exact I.cell (by rw [dst_len] at hi; exact hi)⟩, b⟩)
            have HF2 := Lib.hid (HFQ.out k hlt)
            clear x0 x1 y0 y1 K
            obtain ⟨x0, x1, y0, y1, K⟩ := T
            have T : SdS w w.heap.size (w.heap.size + 1) _ _ _ _ _ := ⟨x0, x1, y0, y1, K⟩
            go_wp2_with fail
            clear x0 x1 y0 y1 K
            go_region_held3 (fun w' => SdS w w.heap.size (w.heap.size + 1) (.slice A ps.length ca) (.slice B rs.length cb) (.slice C ps.length cc) (.slice D ts.length cd) w')
              (first | exact SdS.drew T | assumption | (refine SdS.under (by assumption) ?_; assumption))
              (first
                | (go_at_call 12; have J7 := I7; refine (HF2.out _ (HC.out.below (SdS.bel (by assumption))) (hd.below (SdS.bel (by assumption)))).mono ?_; rintro e w8 ⟨A8, c8, rfl, I8, b8⟩; have I7' := I7.below b8)
                | (go_at_call 12; refine (HF1.out _ (ha.below (SdS.bel (by assumption))) (hb.below (SdS.bel (by assumption)))).mono ?_; rintro e w7 ⟨A7, c7, rfl, I7, b7⟩)
                | (go_at_call 46; refine (equal_any _ _ _ _ ps.length _ _ _ (by omega) HL1.out HL2.out I7' I8).mono ?_; rintro e w9 ⟨rfl, b9⟩))
            rename_i hU
            clear T I7 J7 I7' I8 b7 b8 b9 HF1 HF2 HL1 HL2
            cases he : (dst ps.length rs k == dst ps.length ts k) with
            | false =>
              have HQ := Lib.hid (HAT.out k hlt he)
              have kk := SdS.bel hU
              clear HALL HAT hU HE
              go_wp2
              go_ret
              exact ⟨retB HQ.out.symm, kk⟩
            | true =>
              have HQ := Lib.hid (eq_of_beq he)
              go_wp2
              go_roundw
              case rel => exact ⟨k + 1, by omega, by go_num, Lib.hid (fun u hu => by
                rcases Nat.lt_or_ge u k with h | h
                · exact HE.out u h
                · obtain rfl : u = k := by omega
                  exact HQ.out), hU⟩
              case measure => simp [intOf]; omega
          · have HQ := Lib.hid (HALL.out (fun u hu => HE.out u (by omega)))
            clear HALL HAT HE
            obtain rfl : k = ps.length := by omega
            go_wp2
            go_ret
            exact ⟨retB HQ.out.symm, K⟩
      · have HQ := Lib.hid (sdB_no (rs := rs) (ts := ts) (.inr (.inr h3)))
        have hne : (((ps.length : Nat) : Int) != ((qs.length : Nat) : Int)) = true := by simp; omega
        obtain ⟨x0, x1, y0, y1, K⟩ := T
        have T : SdS w w.heap.size (w.heap.size + 1) _ _ _ _ _ := ⟨x0, x1, y0, y1, K⟩
        go_enter Try.func18, Try.ntmps18
        go_wp2_with fail
        refine (implNetOk_any A B ca cb ps rs _ hn hm (ha.below K) (hb.below K)).mono ?_; rintro e w1 ⟨rfl, b1⟩
        replace T := SdS.under b1 T
        clear b1 x0 x1 y0 y1 K
        obtain ⟨x0, x1, y0, y1, K⟩ := T
        have T : SdS w w.heap.size (w.heap.size + 1) _ _ _ _ _ := ⟨x0, x1, y0, y1, K⟩
        go_wp2_with fail
        refine (implNetOk_any C D cc cd qs ts _ hn2 hm2 (hc.below K) (hd.below K)).mono ?_; rintro e w2 ⟨rfl, b2⟩
        replace T := SdS.under b2 T
        clear b2 x0 x1 y0 y1 K
        obtain ⟨x0, x1, y0, y1, K⟩ := T
        clear h3
        go_wp2
        go_ret
        exact ⟨retB HQ.out.symm, K⟩

end Go.Proofs.Ytjaifbbkfgfdeaa
