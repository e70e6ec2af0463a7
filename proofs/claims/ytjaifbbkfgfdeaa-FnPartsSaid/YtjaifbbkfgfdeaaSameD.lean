/-
  What spec.l01Same, slices.Equal, spec.SameDists and impl.SameDists compute.
-/
import Derived.Test.YtjaifbbkfgfdeaaDistTop
import Derived.Deep.RegionHeld3
namespace Go.Proofs.Ytjaifbbkfgfdeaa
open Go.RowKit Go.Deep

theorem zg_ext {zs ys : List Int} (hl : zs.length = ys.length) (h : ∀ j, j < zs.length → zg zs j = zg ys j) : zs = ys := by
  apply List.ext_getElem hl
  intro j h1 h2
  have := h j h1
  simpa [zg, h1, h2] using this
theorem beq_no {zs ys : List Int} {k : Nat} (h : zg zs k ≠ zg ys k) : (zs == ys) = false := by
  cases e : zs == ys with
  | false => rfl
  | true => rw [eq_of_beq e] at h; exact absurd rfl h

set_option maxHeartbeats 400000 in
theorem l01Same_any (A B : Option Addr) (ca cb n : Nat) (zs ys : List Int) (w : World) (hn : n ≤ 1048576) (hz : zs.length = n) (hy : ys.length = n) (ha : IsInts w A zs) (hb : IsInts w B ys) :
    Calls Try.prog 56 #[.slice A n ca, .slice B n cb] w fun e w' => e = .returned (.bool (zs == ys)) ∧ Below w.heap.size w w' := by
  have HZ := Lib.hid hz
  have HY := Lib.hid hy
  clear hz hy
  go_enter Try.func56, Try.ntmps56
  go_wp2
  go_loopw [5] (fun i wr => ∃ k m : Nat, k ≤ n ∧ i = .int .i64 k ∧ wr = w.drewN m ∧ Hid (∀ j, j < k → zg zs j = zg ys j)) (fun i _ => n - (intOf i).toNat)
  case atStart => exact ⟨0, 0, by omega, rfl, rfl, Lib.hid (fun j hj => by omega)⟩
  case round =>
    obtain ⟨k, m, hk, rfl, rfl, HE⟩ := hrel
    by_cases hlt : k < n
    · obtain ⟨b1, o1, rfl, hb1, hc1⟩ := ha.at_ (k := k) (by rw [HZ.out]; exact hlt)
      obtain ⟨b2, o2, rfl, hb2, hc2⟩ := hb.at_ (k := k) (by rw [HY.out]; exact hlt)
      cases he : (zg zs k != zg ys k) with
      | false =>
        have HQ := Lib.hid (show zg zs k = zg ys k by simpa using he)
        go_wp2
        go_quiet (fail)
        go_wp2
        go_roundw
        case rel => exact ⟨k + 1, _, by omega, by go_num, rfl, Lib.hid (fun j hj => by
          rcases Nat.lt_or_ge j k with h | h
          · exact HE.out j h
          · obtain rfl : j = k := by omega
            exact HQ.out)⟩
        case measure => simp [intOf]; omega
      | true =>
        have HQ := Lib.hid (beq_no (show zg zs k ≠ zg ys k by simpa using he))
        go_wp2
        go_quiet (fail)
        go_wp2
        go_ret
        exact ⟨retB HQ.out.symm, below_drewN (below_drewN (Below.refl _ _) _) _⟩
    · have HQ := Lib.hid (show (zs == ys) = true by rw [zg_ext (by rw [HZ.out, HY.out]) (fun j hj => HE.out j (by have := HZ.out; omega))]; exact beq_self_eq_true ys)
      go_wp2
      go_ret
      exact ⟨retB HQ.out.symm, below_drewN (Below.refl _ _) _⟩

set_option maxHeartbeats 400000 in
theorem equal_any (A B : Option Addr) (ca cb n : Nat) (zs ys : List Int) (w : World) (hn : n ≤ 1048576) (hz : zs.length = n) (hy : ys.length = n) (ha : IsInts w A zs) (hb : IsInts w B ys) :
    Calls Try.prog 46 #[.slice A n ca, .slice B n cb] w fun e w' => e = .returned (.bool (zs == ys)) ∧ Below w.heap.size w w' := by
  have HZ := Lib.hid hz
  have HY := Lib.hid hy
  clear hz hy
  go_enter Try.func46, Try.ntmps46
  go_wp2
  go_loopw [13] (fun i wr => ∃ k m : Nat, k ≤ n ∧ i = .int .i64 k ∧ wr = w.drewN m ∧ Hid (∀ j, j < k → zg zs j = zg ys j)) (fun i _ => n - (intOf i).toNat)
  case atStart => exact ⟨0, 0, by omega, rfl, rfl, Lib.hid (fun j hj => by omega)⟩
  case round =>
    obtain ⟨k, m, hk, rfl, rfl, HE⟩ := hrel
    by_cases hlt : k < n
    · obtain ⟨b1, o1, rfl, hb1, hc1⟩ := ha.at_ (k := k) (by rw [HZ.out]; exact hlt)
      obtain ⟨b2, o2, rfl, hb2, hc2⟩ := hb.at_ (k := k) (by rw [HY.out]; exact hlt)
      cases he : (zg zs k != zg ys k) with
      | false =>
        have HQ := Lib.hid (show zg zs k = zg ys k by simpa using he)
        go_wp2
        go_quiet (fail)
        go_wp2
        go_roundw
        case rel => exact ⟨k + 1, _, by omega, by go_num, rfl, Lib.hid (fun j hj => by
          rcases Nat.lt_or_ge j k with h | h
          · exact HE.out j h
          · obtain rfl : j = k := by omega
            exact HQ.out)⟩
        case measure => simp [intOf]; omega
      | true =>
        have HQ := Lib.hid (beq_no (show zg zs k ≠ zg ys k by simpa using he))
        go_wp2
        go_quiet (fail)
        go_wp2
        go_ret
        exact ⟨retB HQ.out.symm, below_drewN (below_drewN (Below.refl _ _) _) _⟩
    · have HQ := Lib.hid (show (zs == ys) = true by rw [zg_ext (by rw [HZ.out, HY.out]) (fun j hj => HE.out j (by have := HZ.out; omega))]; exact beq_self_eq_true ys)
      go_wp2
      go_ret
      exact ⟨retB HQ.out.symm, below_drewN (Below.refl _ _) _⟩

/-- What SameDists answers. -/
def sdB (ps : List (Int × Int)) (rs : List A3) (qs : List (Int × Int)) (ts : List A3) : Bool :=
  decide (netB ps rs = true ∧ netB qs ts = true ∧ ps.length = qs.length ∧ ∀ u, u < ps.length → dst ps.length rs u = dst ps.length ts u)
theorem sdB_no {ps : List (Int × Int)} {rs : List A3} {qs : List (Int × Int)} {ts : List A3} (h : netB ps rs = false ∨ netB qs ts = false ∨ ps.length ≠ qs.length) : sdB ps rs qs ts = false := decide_eq_false (by
  rintro ⟨h1, h2, h3, -⟩
  rcases h with h | h | h
  · rw [h1] at h; cases h
  · rw [h2] at h; cases h
  · exact h h3)
theorem sdB_at {ps : List (Int × Int)} {rs : List A3} {qs : List (Int × Int)} {ts : List A3} {u : Nat} (hu : u < ps.length) (h : (dst ps.length rs u == dst ps.length ts u) = false) : sdB ps rs qs ts = false := decide_eq_false (by
  rintro ⟨-, -, -, h4⟩
  rw [h4 u hu] at h; simp at h)
theorem sdB_all {ps : List (Int × Int)} {rs : List A3} {qs : List (Int × Int)} {ts : List A3} (h1 : netB ps rs = true) (h2 : netB qs ts = true) (h3 : ps.length = qs.length) (h4 : ∀ u, u < ps.length → dst ps.length rs u = dst ps.length ts u) : sdB ps rs qs ts = true := decide_eq_true ⟨h1, h2, h3, h4⟩

/-- What a round reads: the boxes of the two networks. -/
abbrev SdS (base : World) (xb yb : Nat) (u v s t : Value) (w : World) : Prop :=
  w.cell? ⟨xb, 0, none⟩ = some u ∧ w.cell? ⟨xb, 1, none⟩ = some v ∧ w.cell? ⟨yb, 0, none⟩ = some s ∧ w.cell? ⟨yb, 1, none⟩ = some t ∧ Below base.heap.size base w
section
variable {base w w' : World} {xb yb : Nat} {u v s t : Value}
theorem SdS.under (hb : Below w.heap.size w w') (h : SdS base xb yb u v s t w) : SdS base xb yb u v s t w' := ⟨cell_under hb h.1, cell_under hb h.2.1, cell_under hb h.2.2.1, cell_under hb h.2.2.2.1, h.2.2.2.2.trans (hb.mono h.2.2.2.2.size)⟩
theorem SdS.drew (h : SdS base xb yb u v s t w) : SdS base xb yb u v s t w.drew := ⟨h.1, h.2.1, h.2.2.1, h.2.2.2.1, h.2.2.2.2.drew⟩
theorem SdS.bel (h : SdS base xb yb u v s t w) : Below base.heap.size base w := h.2.2.2.2
end
theorem SdS.start (w : World) (u v s t : Value) (ty : TypeId) : SdS w w.heap.size (w.heap.size + 1) u v s t ((w.alloc (.cells #[u, v] ty)).alloc (.cells #[s, t] ty)) := by
  have X := (Pair.new w ty u v).alloc (.cells #[s, t] ty)
  have Y := Pair.new (w.alloc (.cells #[u, v] ty)) ty s t
  rw [World.size_alloc] at Y
  exact ⟨X.cells.1, X.cells.2.1, Y.cells.1, Y.cells.2.1, below2 w _ _⟩

set_option maxRecDepth 100000 in
set_option maxHeartbeats 2000000 in
theorem specSameDists_any (A B C D : Option Addr) (ca cb cc cd : Nat) (ps : List (Int × Int)) (rs : List A3) (qs : List (Int × Int)) (ts : List A3) (w : World) (hn : ps.length ≤ 1048576) (hm : rs.length ≤ 1048576) (hn2 : qs.length ≤ 1048576) (hm2 : ts.length ≤ 1048576) (ha : IsPts w A ps) (hb : IsArcs w B rs) (hc : IsPts w C qs) (hd : IsArcs w D ts) :
    Calls Try.prog 31 #[.agg #[.slice A ps.length ca, .slice B rs.length cb], .agg #[.slice C qs.length cc, .slice D ts.length cd]] w fun e w' => e = .returned (.bool (sdB ps rs qs ts)) ∧ Below w.heap.size w w' := by
  have T := SdS.start w (.slice A ps.length ca) (.slice B rs.length cb) (.slice C qs.length cc) (.slice D ts.length cd) 27
  cases h1 : netB ps rs with
  | false =>
    have HQ := Lib.hid (sdB_no (qs := qs) (ts := ts) (.inl h1))
    obtain ⟨x0, x1, y0, y1, K⟩ := T
    go_enter Try.func31, Try.ntmps31
    go_wp2_with fail
    refine (specNetOk_any A B ca cb ps rs _ hn hm (ha.below K) (hb.below K)).mono ?_; rintro e w1 ⟨rfl, b1⟩
    replace K := K.trans (b1.mono K.size)
    clear b1 x0 x1 y0 y1
    go_wp2
    go_ret
    exact ⟨retB HQ.out.symm, K⟩
  | true =>
    cases h2 : netB qs ts with
    | false =>
      have HQ := Lib.hid (sdB_no (ps := ps) (rs := rs) (.inr (.inl h2)))
      obtain ⟨x0, x1, y0, y1, K⟩ := T
      have T : SdS w w.heap.size (w.heap.size + 1) _ _ _ _ _ := ⟨x0, x1, y0, y1, K⟩
      go_enter Try.func31, Try.ntmps31
      go_wp2_with fail
      refine (specNetOk_any A B ca cb ps rs _ hn hm (ha.below K) (hb.below K)).mono ?_; rintro e w1 ⟨rfl, b1⟩
      replace T := SdS.under b1 T
      clear b1 x0 x1 y0 y1 K
      obtain ⟨x0, x1, y0, y1, K⟩ := T
      go_wp2_with fail
      refine (specNetOk_any C D cc cd qs ts _ hn2 hm2 (hc.below K) (hd.below K)).mono ?_; rintro e w2 ⟨rfl, b2⟩
      replace K := K.trans (b2.mono K.size)
      clear b2 x0 x1 y0 y1
      go_wp2
      go_ret
      exact ⟨retB HQ.out.symm, K⟩
    | true =>
      by_cases h3 : ps.length = qs.length
      · obtain ⟨h20, h70, -, -⟩ := netB_iff.1 h1
        obtain ⟨-, h70', -, -⟩ := netB_iff.1 h2
        have HA := Lib.hid (arcsIn_net h1)
        have HA2 := Lib.hid (show ArcsIn ps.length ts by rw [h3]; exact arcsIn_net h2)
        have HALL := Lib.hid (fun h4 => sdB_all h1 h2 h3 h4)
        have HAT := Lib.hid (fun u hu h => sdB_at (ps := ps) (rs := rs) (qs := qs) (ts := ts) (u := u) hu h)
        have HS2 : Hid (∀ w, IsPts w C qs → IsArcs w D ts → Calls Try.prog 39 #[.agg #[.slice C ps.length cc, .slice D ts.length cd]] w (fun e w' => e = .returned (.bool true) ∧ Below w.heap.size w w')) := Lib.hid (fun w g1 g2 => by have := specNetOk_any C D cc cd qs ts w hn2 hm2 g1 g2; rw [h2] at this; rw [h3]; exact this)
        have HC := Lib.hid hc
        rw [← h3] at T ⊢
        have hne : (((ps.length : Nat) : Int) != ((ps.length : Nat) : Int)) = false := by simp
        clear h3 hc
        obtain ⟨x0, x1, y0, y1, K⟩ := T
        have T : SdS w w.heap.size (w.heap.size + 1) _ _ _ _ _ := ⟨x0, x1, y0, y1, K⟩
        go_enter Try.func31, Try.ntmps31
        go_wp2_with fail
        refine (specNetOk_any A B ca cb ps rs _ hn hm (ha.below K) (hb.below K)).mono ?_; rintro e w1 ⟨rfl, b1⟩
        replace T := SdS.under b1 T
        clear b1 x0 x1 y0 y1 K
        obtain ⟨x0, x1, y0, y1, K⟩ := T
        have T : SdS w w.heap.size (w.heap.size + 1) _ _ _ _ _ := ⟨x0, x1, y0, y1, K⟩
        go_wp2_with fail
        refine (HS2.out _ (HC.out.below K) (hd.below K)).mono ?_; rintro e w2 ⟨rfl, b2⟩
        replace T := SdS.under b2 T
        clear b2 x0 x1 y0 y1 K
        obtain ⟨x0, x1, y0, y1, K⟩ := T
        have T : SdS w w.heap.size (w.heap.size + 1) _ _ _ _ _ := ⟨x0, x1, y0, y1, K⟩
        go_wp2
        clear x0 x1 y0 y1 K
        go_loopw [5] (fun i wr => ∃ k : Nat, k ≤ ps.length ∧ i = .int .i64 k ∧ Hid (∀ u, u < k → dst ps.length rs u = dst ps.length ts u) ∧ SdS w w.heap.size (w.heap.size + 1) (.slice A ps.length ca) (.slice B rs.length cb) (.slice C ps.length cc) (.slice D ts.length cd) wr) (fun i _ => ps.length - (intOf i).toNat)
        case atStart => exact ⟨0, by omega, rfl, Lib.hid (fun u hu => by omega), T⟩
        case round =>
          clear T
          obtain ⟨k, hk, rfl, HE, T⟩ := hrel
          obtain ⟨x0, x1, y0, y1, K⟩ := T
          have T : SdS w w.heap.size (w.heap.size + 1) _ _ _ _ _ := ⟨x0, x1, y0, y1, K⟩
          by_cases hlt : k < ps.length
          · have HL1 := Lib.hid (dst_len ps.length rs k)
            have HL2 := Lib.hid (dst_len ps.length ts k)
            have HF1 : Hid (∀ w, IsArcs w B rs → Calls Try.prog 41 #[.agg #[.slice A ps.length ca, .slice B rs.length cb], .int .i64 (k : Int)] w (fun e w' => ∃ A c, e = .returned (.slice A ps.length c) ∧ IsInts w' A (dst ps.length rs k) ∧ Below w.heap.size w w')) := Lib.hid (fun w g1 => (l04From_any A B ca cb ps.length k rs w h20 h70 hlt HA.out g1).mono fun e w' h => by
              obtain ⟨A, c, rfl, hc, O, b⟩ := h
              exact ⟨A, c, by rw [dst_len], O.ints, b⟩)
            have HF2 : Hid (∀ w, IsArcs w D ts → Calls Try.prog 41 #[.agg #[.slice C ps.length cc, .slice D ts.length cd], .int .i64 (k : Int)] w (fun e w' => ∃ A c, e = .returned (.slice A ps.length c) ∧ IsInts w' A (dst ps.length ts k) ∧ Below w.heap.size w w')) := Lib.hid (fun w g1 => (l04From_any C D cc cd ps.length k ts w h20 h70' hlt HA2.out g1).mono fun e w' h => by
              obtain ⟨A, c, rfl, hc, O, b⟩ := h
              exact ⟨A, c, by rw [dst_len], O.ints, b⟩)
            clear x0 x1 y0 y1 K
            obtain ⟨x0, x1, y0, y1, K⟩ := T
            have T : SdS w w.heap.size (w.heap.size + 1) _ _ _ _ _ := ⟨x0, x1, y0, y1, K⟩
            go_wp2_with fail
            clear x0 x1 y0 y1 K
            go_region_held3 (fun w' => SdS w w.heap.size (w.heap.size + 1) (.slice A ps.length ca) (.slice B rs.length cb) (.slice C ps.length cc) (.slice D ts.length cd) w')
              (first | exact SdS.drew T | assumption | (refine SdS.under (by assumption) ?_; assumption))
              (first
                | (go_at_call 41; have J7 := I7; refine (HF2.out _ (hd.below (SdS.bel (by assumption)))).mono ?_; rintro e w8 ⟨A8, c8, rfl, I8, b8⟩; have I7' := I7.below b8)
                | (go_at_call 41; refine (HF1.out _ (hb.below (SdS.bel (by assumption)))).mono ?_; rintro e w7 ⟨A7, c7, rfl, I7, b7⟩)
                | (go_at_call 56; refine (l01Same_any _ _ _ _ ps.length _ _ _ (by omega) HL1.out HL2.out I7' I8).mono ?_; rintro e w9 ⟨rfl, b9⟩))
            rename_i hU
            clear T I7 J7 I7' I8 b7 b8 b9 HF1 HF2 HL1 HL2
            cases he : (dst ps.length rs k == dst ps.length ts k) with
            | false =>
              have HQ := Lib.hid (HAT.out k hlt he)
              have kk := SdS.bel hU
              clear HALL HAT hU HE
              go_wp2
              go_ret
              exact ⟨retB HQ.out.symm, kk⟩
            | true =>
              have HQ := Lib.hid (eq_of_beq he)
              go_wp2
              go_roundw
              case rel => exact ⟨k + 1, by omega, by go_num, Lib.hid (fun u hu => by
                rcases Nat.lt_or_ge u k with h | h
                · exact HE.out u h
                · obtain rfl : u = k := by omega
                  exact HQ.out), hU⟩
              case measure => simp [intOf]; omega
          · have HQ := Lib.hid (HALL.out (fun u hu => HE.out u (by omega)))
            clear HALL HAT HE
            obtain rfl : k = ps.length := by omega
            go_wp2
            go_ret
            exact ⟨retB HQ.out.symm, K⟩
      · have HQ := Lib.hid (sdB_no (rs := rs) (ts := ts) (.inr (.inr h3)))
        have hne : (((ps.length : Nat) : Int) != ((qs.length : Nat) : Int)) = true := by simp; omega
        obtain ⟨x0, x1, y0, y1, K⟩ := T
        have T : SdS w w.heap.size (w.heap.size + 1) _ _ _ _ _ := ⟨x0, x1, y0, y1, K⟩
        go_enter Try.func31, Try.ntmps31
        go_wp2_with fail
        refine (specNetOk_any A B ca cb ps rs _ hn hm (ha.below K) (hb.below K)).mono ?_; rintro e w1 ⟨rfl, b1⟩
        replace T := SdS.under b1 T
        clear b1 x0 x1 y0 y1 K
        obtain ⟨x0, x1, y0, y1, K⟩ := T
        have T : SdS w w.heap.size (w.heap.size + 1) _ _ _ _ _ := ⟨x0, x1, y0, y1, K⟩
        go_wp2_with fail
        refine (specNetOk_any C D cc cd qs ts _ hn2 hm2 (hc.below K) (hd.below K)).mono ?_; rintro e w2 ⟨rfl, b2⟩
        replace T := SdS.under b2 T
        clear b2 x0 x1 y0 y1 K
        obtain ⟨x0, x1, y0, y1, K⟩ := T
        clear h3
        go_wp2
        go_ret
        exact ⟨retB HQ.out.symm, K⟩

end Go.Proofs.Ytjaifbbkfgfdeaa
