/-
  What impl.MarkPot computes.
-/
import Derived.Test.YtbmfjfglkjhlnaaMarkM
import Derived.Laws.Cover1
namespace Go.Proofs.Ytbmfjfglkjhlnaa
open Go.RowKit Go.Deep Go.Maps

/-- A network in its box, and nothing older has turned. -/
abbrev MkS (W0 : World) (b : Nat) (u v : Value) (w : World) : Prop := w.cell? ⟨b, 0, none⟩ = some u ∧ w.cell? ⟨b, 1, none⟩ = some v ∧ Below W0.heap.size W0 w
theorem MkS.under {W0 : World} {b : Nat} {u v : Value} {w w' : World} (hb : Below w.heap.size w w') (h : MkS W0 b u v w) : MkS W0 b u v w' := ⟨cell_under hb h.1, cell_under hb h.2.1, h.2.2.trans (hb.mono h.2.2.size)⟩

set_option maxRecDepth 100000 in
set_option maxHeartbeats 2000000 in
theorem implMark_no (ad : Addr) (B C : Option Addr) (ca cb cc : Nat) (ps : List (Int × Int)) (rs : List A3) (t : Int) (zs : List Int) (w : World) (hn : ps.length ≤ 1048576) (hm : rs.length ≤ 1048576) (hk : zs.length ≤ 1048576) (ha : IsPts w (some ad) ps) (hb : IsArcs w B rs) (hzz : IsInts w C zs) (hno : netB ps rs = false ∨ btB t 0 ((ps.length : Int) - 1) = false ∨ 8 < zs.length) :
    Calls Try.prog 36 #[.agg #[.slice (some ad) ps.length ca, .slice B rs.length cb], .int .i64 t, .slice C zs.length cc] w (IntsMade w (markP ps rs t zs)) := by
  have HQ : Hid (markP ps rs t zs = []) := Lib.hid (by rcases hno with h | h | h; exact markP_no (.inl h); exact markP_no (.inr (.inl h)); exact markP_no (.inr (.inr (.inl h))))
  have X := Pair.new w 34 (.slice (some ad) ps.length ca) (.slice B rs.length cb)
  have K := below1 w (.cells #[.slice (some ad) ps.length ca, .slice B rs.length cb] 34)
  cases h1 : netB ps rs with
  | false =>
    clear hno
    go_enter Try.func36, Try.ntmps36
    go_wp2_with fail
    refine (implNetOk_any (some ad) B ca cb ps rs _ hn hm (ha.below K) (hb.below K)).mono ?_; rw [h1]; rintro e w1 ⟨rfl, b1⟩
    replace K := K.trans (b1.mono K.size)
    replace X := X.below b1
    clear b1
    clear X
    go_wp2
    go_ret
    exact intsMade_nil HQ.out _ _ K
  | true =>
    cases h2 : btB t 0 ((ps.length : Int) - 1) with
    | false =>
      clear hno
      go_enter Try.func36, Try.ntmps36
      go_wp2_with fail
      refine (implNetOk_any (some ad) B ca cb ps rs _ hn hm (ha.below K) (hb.below K)).mono ?_; rw [h1]; rintro e w1 ⟨rfl, b1⟩
      replace K := K.trans (b1.mono K.size)
      replace X := X.below b1
      clear b1
      obtain ⟨x0, x1, -, -⟩ := X.cells
      go_wp2_with fail
      refine (hasNode_any (some ad) B ps.length rs.length ca cb t _).mono ?_; rw [h2]; rintro e w2 ⟨rfl, b2⟩
      replace K := K.trans (b2.mono K.size)
      clear b2 X x0 x1
      go_wp2
      go_ret
      exact intsMade_nil HQ.out _ _ K
    | true =>
      have h3 : 8 < zs.length := by
        rcases hno with h | h | h
        · rw [h1] at h; cases h
        · rw [h2] at h; cases h
        · exact h
      have h3i : (zs.length : Int) > 8 := by omega
      have h3d : decide ((8 : Int) < zs.length) = true := decide_eq_true h3i
      clear hno h3
      go_enter Try.func36, Try.ntmps36
      go_wp2_with fail
      refine (implNetOk_any (some ad) B ca cb ps rs _ hn hm (ha.below K) (hb.below K)).mono ?_; rw [h1]; rintro e w1 ⟨rfl, b1⟩
      replace K := K.trans (b1.mono K.size)
      replace X := X.below b1
      clear b1
      obtain ⟨x0, x1, -, -⟩ := X.cells
      go_wp2_with fail
      refine (hasNode_any (some ad) B ps.length rs.length ca cb t _).mono ?_; rw [h2]; rintro e w2 ⟨rfl, b2⟩
      replace K := K.trans (b2.mono K.size)
      clear b2 X x0 x1
      go_wp2
      go_ret
      exact intsMade_nil HQ.out _ _ K

set_option maxRecDepth 1000000 in
set_option maxHeartbeats 8000000 in
theorem implMark_yes (ad : Addr) (B C : Option Addr) (ca cb cc : Nat) (ps : List (Int × Int)) (rs : List A3) (t : Nat) (zs : List Int) (w : World) (hn : ps.length ≤ 1048576) (hm : rs.length ≤ 1048576) (hk : zs.length ≤ 1048576) (ha : IsPts w (some ad) ps) (hb : IsArcs w B rs) (hzz : IsInts w C zs) (h1 : netB ps rs = true) (ht : t < ps.length) (h8 : zs.length ≤ 8) :
    Calls Try.prog 36 #[.agg #[.slice (some ad) ps.length ca, .slice B rs.length cb], .int .i64 (t : Int), .slice C zs.length cc] w (IntsMade w (markP ps rs t zs)) := by
  obtain ⟨h20, h70, -, -⟩ := netB_iff.1 h1
  have HN := Lib.hid h1
  have HR := Lib.hid (arcsIn_net h1)
  have HTS := Lib.hid (turn_arcs h1).1
  have h2 : btB (t : Int) 0 ((ps.length : Int) - 1) = true := btB_true (by omega) (by omega)
  have h8i : ¬ (zs.length : Int) > 8 := by omega
  have h8d : decide ((8 : Int) < zs.length) = false := decide_eq_false h8i
  have HZ := Lib.hid (fun (V : World) (k : Below w.heap.size w V) (i : Nat) (hi : i < zs.length) => (hzz.below k).at_ hi)
  have X := Pair.new w 34 (.slice (some ad) ps.length ca) (.slice B rs.length cb)
  have K := below1 w (.cells #[.slice (some ad) ps.length ca, .slice B rs.length cb] 34)
  go_enter Try.func36, Try.ntmps36
  go_wp2_with fail
  refine (implNetOk_any (some ad) B ca cb ps rs _ hn hm (ha.below K) (hb.below K)).mono ?_; rw [h1]; rintro e w1 ⟨rfl, b1⟩
  replace K := K.trans (b1.mono K.size)
  replace X := X.below b1
  clear b1
  obtain ⟨x0, x1, -, -⟩ := X.cells
  go_wp2_with fail
  refine (hasNode_any (some ad) B ps.length rs.length ca cb (t : Int) _).mono ?_; rw [h2]; rintro e w2 ⟨rfl, b2⟩
  replace K := K.trans (b2.mono K.size)
  replace X := X.below b2
  clear b2 x0 x1 h1 h2
  obtain ⟨x0, x1, -, -⟩ := X.cells
  have hmk := run_make_row' (P := Try.prog) 27 3 (.int .i64 0) 8 Try.underlying27 Try.infoInt rfl .i64 .i64 ps.length (by omega) (by omega)
  have I := IRow.made w2 ps.length
  have kd := below1 w2 (.cells (madeCells #[.int .i64 0] ps.length) 3)
  have hxl := X.lt
  have HWS := Lib.hid K.size
  obtain ⟨ob, hob⟩ : ∃ ob, ob = w2.heap.size := ⟨_, rfl⟩
  have hobw : w.heap.size < ob := by omega
  have HOB := Lib.hid hob
  rw [← hob] at I
  replace X := X.below kd
  replace K := K.trans (kd.mono K.size)
  clear hob kd hxl
  go_wp2_with fail
  rw [← HOB.out]
  clear hmk x0 x1 h8i h8d
  obtain ⟨MZ, hMZ⟩ : ∃ MZ, MZ = mkZ ps.length rs (turnL rs) t zs := ⟨_, rfl⟩
  have HM0 : Hid (∀ v, MZ 0 v = 0) := Lib.hid (fun v => by rw [hMZ]; rfl)
  have HMS : Hid (∀ i v, MZ (i + 1) v = max (max (MZ i v) (ld (zg (dst ps.length (turnL rs) (zg zs i).toNat) v) (zg (dst ps.length (turnL rs) (zg zs i).toNat) t))) (ld (zg (dst ps.length rs (zg zs i).toNat) t) (zg (dst ps.length rs (zg zs i).toNat) v))) := Lib.hid (fun i v => by rw [hMZ]; rfl)
  have HMP := Lib.hid (fun h => (markP_yes (t := t) HN.out ht h8 h).trans (by rw [← hMZ] : rowZ ps.length (mkZ ps.length rs (turnL rs) t zs zs.length) = rowZ ps.length (MZ zs.length)))
  have I0 : IRow _ ob ps.length (MZ 0) := I.congr fun i _ => (HM0.out i).symm
  clear hMZ I
  go_loopw [33] (fun vi wr => ∃ k : Nat, k ≤ zs.length ∧ vi = .int .i64 k ∧ IRow wr ob ps.length (MZ k) ∧ Pair wr w.heap.size 34 (.slice (some ad) ps.length ca) (.slice B rs.length cb) ∧ Hid (∀ j, j < k → j < zs.length → btB (zg zs j) 0 ((ps.length : Int) - 1) = true) ∧ Below w.heap.size w wr) (fun i _ => zs.length - (intOf i).toNat)
  case atStart => exact ⟨0, by omega, rfl, I0, X, Lib.hid (fun j hj => by omega), K⟩
  case round =>
    clear I0 X K
    obtain ⟨k, hkl, rfl, I, X, HV, K⟩ := hrel
    by_cases hlt : k < zs.length
    · have hkli : (k : Int) < zs.length := by omega
      obtain ⟨cb', co, rfl, -, cz⟩ := HZ.out _ K k hlt
      have HMk := Lib.hid (HMS.out k)
      have HVN := Lib.hid (fun (h : btB (zg zs k) 0 ((ps.length : Int) - 1) = true) j (hj : j < k + 1) (hl : j < zs.length) => (by
        by_cases e : j = k
        · rw [e]; exact h
        · exact HV.out j (by omega) hl : btB (zg zs j) 0 ((ps.length : Int) - 1) = true))
      have HBAD := Lib.hid (fun h => marksIn_no (n := ps.length) hlt h)
      generalize zg zs k = m at cz HMk HVN HBAD
      obtain ⟨x0, x1, -, -⟩ := X.cells
      cases hmB : btB m 0 ((ps.length : Int) - 1) with
      | false =>
        have HQ := Lib.hid (markP_no (ps := ps) (rs := rs) (t := (t : Int)) (.inr (.inr (.inr (HBAD.out hmB)))))
        go_wp2_with fail
        refine (hasNode_any (some ad) B ps.length rs.length ca cb m _).mono ?_; rw [hmB]; rintro e w4 ⟨rfl, b4⟩
        replace K := K.trans (b4.mono K.size)
        clear b4 X x0 x1 I
        go_wp2
        go_ret
        exact intsMade_nil HQ.out _ _ K
      | true =>
        have HVk := Lib.hid (HVN.out hmB)
        obtain ⟨M, rfl, hM⟩ := node_is hmB
        rw [Int.toNat_natCast] at HMk
        have HDF := Lib.hid (dF_yes HN.out hM)
        have HDT := Lib.hid (dT_yes HN.out hM)
        have HDL1 := Lib.hid (dst_len ps.length rs M)
        have HDL2 := Lib.hid (dst_len ps.length (turnL rs) M)
        have HD1 := Lib.hid (fun i (hi : i < ps.length) => dst_val h20 hM HR.out (v := i) hi)
        have HD2 := Lib.hid (fun i (hi : i < ps.length) => dst_val h20 hM HTS.out (v := i) hi)
        clear HVN HBAD
        go_wp2_with fail
        refine (hasNode_any (some ad) B ps.length rs.length ca cb (M : Int) _).mono ?_; rw [hmB]; rintro e w4 ⟨rfl, b4⟩
        replace K := K.trans (b4.mono K.size)
        replace X := X.below b4
        replace I := I.below b4
        clear b4 x0 x1 hmB cz
        obtain ⟨x0, x1, -, -⟩ := X.cells
        have TS : MkS w w.heap.size (.slice (some ad) ps.length ca) (.slice B rs.length cb) w4.drew := ⟨x0, x1, K.drew⟩
        have kdw : Below w4.heap.size w4 w4.drew := (Below.refl _ w4).drew
        have hw4 := K.size
        go_wp2_with fail
        refine wp_region_held_drew (S := (fun w' => MkS w w.heap.size (.slice (some ad) ps.length ca) (.slice B rs.length cb) w')) (by kernel_rfl) ?_ (fun hHeld => ?_)
        · exact TS
        clear TS
        refine wpAnyH_take (i := 0) (oi := ⟨some 41, _, _, _, _, _⟩) (v := .agg #[.slice (some ad) ps.length ca, .slice B rs.length cb]) rfl (by kernel_rfl) (by kernel_rfl) (by kernel_rfl) (fun _ _ _ h => h) (Or.inl ⟨by rfl, fun w' hw => ?hy⟩) hHeld ?_
        case hy => (try dsimp only at hw); go_simp
        simp only [Act.put, List.setIfInBounds_toArray, List.set_cons_zero, List.set_cons_succ]
        refine wpAnyH_take (i := 1) (oi := ⟨some 42, _, _, _, _, _⟩) (v := .int .i64 (M : Int)) rfl (by kernel_rfl) (by kernel_rfl) (by kernel_rfl) (fun _ _ _ h => h) (Or.inl ⟨by rfl, fun w' hw => ?hy⟩) hHeld ?_
        case hy => (try dsimp only at hw); go_simp
        simp only [Act.put, List.setIfInBounds_toArray, List.set_cons_zero, List.set_cons_succ]
        refine wpAnyH_take (i := 3) (oi := ⟨some 44, _, _, _, _, _⟩) (v := .agg #[.slice (some ad) ps.length ca, .slice B rs.length cb]) rfl (by kernel_rfl) (by kernel_rfl) (by kernel_rfl) (fun _ _ _ h => h) (Or.inl ⟨by rfl, fun w' hw => ?hy⟩) hHeld ?_
        case hy => (try dsimp only at hw); go_simp
        simp only [Act.put, List.setIfInBounds_toArray, List.set_cons_zero, List.set_cons_succ]
        refine wpAnyH_take (i := 4) (oi := ⟨some 45, _, _, _, _, _⟩) (v := .int .i64 (M : Int)) rfl (by kernel_rfl) (by kernel_rfl) (by kernel_rfl) (fun _ _ _ h => h) (Or.inl ⟨by rfl, fun w' hw => ?hy⟩) hHeld ?_
        case hy => (try dsimp only at hw); go_simp
        simp only [Act.put, List.setIfInBounds_toArray, List.set_cons_zero, List.set_cons_succ]
        refine wpAnyH_ready (rs := [2]) (by kernel_rfl) (by simp) ?_
        refine AllReadyH.cons (o := ⟨some 43, _, _, _, _, _⟩) rfl (fun K hK => ?_) AllReadyH.nil
        go_simp
        refine (implDistFrom_any (some ad) B ca cb ps rs (M : Int) _ (by omega) (by omega) (ha.below hHeld.2.2) (hb.below hHeld.2.2)).mono ?_; rintro e w5 ⟨A5, c5, rfl, hc5, O5, b5⟩
        rw [HDF.out] at hc5 O5 ⊢
        rw [HDL1.out] at hc5 O5 ⊢
        go_wp2_with fail
        refine hK.out _ _ ?_ (fun hHeld => ?_)
        · exact MkS.under b5 hHeld
        clear hK K
        try simp only [Act.put, List.setIfInBounds_toArray, List.set_cons_zero, List.set_cons_succ]
        refine wpAnyH_ready (rs := [5]) (by kernel_rfl) (by simp) ?_
        refine AllReadyH.cons (o := ⟨some 46, _, _, _, _, _⟩) rfl (fun K hK => ?_) AllReadyH.nil
        go_simp
        refine (implDistTo_any ad B ca cb ps rs (M : Int) _ (by omega) (by omega) (ha.below hHeld.2.2) (hb.below hHeld.2.2)).mono ?_; rintro e w6 ⟨A6, c6, rfl, hc6, O6, b6⟩
        rw [HDT.out] at hc6 O6 ⊢
        rw [HDL2.out] at hc6 O6 ⊢
        go_wp2_with fail
        refine hK.out _ _ ?_ (fun hHeld => ?_)
        · exact MkS.under b6 hHeld
        clear hK K
        try simp only [Act.put, List.setIfInBounds_toArray, List.set_cons_zero, List.set_cons_succ]
        refine wpAnyH_take (i := 6) (oi := ⟨some 10, _, _, _, _, _⟩) (v := .slice A5 ps.length c5) rfl (by kernel_rfl) (by kernel_rfl) (by kernel_rfl) (fun _ _ _ h => h) (Or.inl ⟨by rfl, fun w' hw => ?hy⟩) hHeld ?_
        case hy => (try dsimp only at hw); go_simp
        simp only [Act.put, List.setIfInBounds_toArray, List.set_cons_zero, List.set_cons_succ]
        refine wpAnyH_take (i := 7) (oi := ⟨some 11, _, _, _, _, _⟩) (v := .slice A6 ps.length c6) rfl (by kernel_rfl) (by kernel_rfl) (by kernel_rfl) (fun _ _ _ h => h) (Or.inl ⟨by rfl, fun w' hw => ?hy⟩) hHeld ?_
        case hy => (try dsimp only at hw); go_simp
        simp only [Act.put, List.setIfInBounds_toArray, List.set_cons_zero, List.set_cons_succ]
        refine wpAnyH_done (by kernel_rfl) ?_ _
        have k5 := kdw.trans (b5.mono kdw.size)
        have k6 := k5.trans (b6.mono k5.size)
        have hil := I.lt
        replace I := I.below k6
        replace X := X.below k6
        replace K := K.trans (k6.mono K.size)
        have hb5s := b5.size
        obtain ⟨g5, o5, rfl, hg5, D5⟩ := O5 (by omega)
        obtain ⟨g6, o6, rfl, hg6, D6⟩ := O6 (by omega)
        have hdz : w4.drew.heap.size = w4.heap.size := rfl
        have hg5l := D5.lt
        replace D5 := D5.below b6
        have hgo5 : g5 ≠ ob := by omega
        have hgo6 : g6 ≠ ob := by omega
        clear O5 O6 b5 b6 hHeld kdw k5 k6 x0 x1 HDF HDT HDL1 HDL2 hdz hg5 hg6 hg5l hil hw4 hb5s
        generalize dst ps.length rs M = d1 at D5 HMk HD1
        generalize dst ps.length (turnL rs) M = d2 at D6 HMk HD2
        go_wp2
        go_loopw [49] (fun vi wr => ∃ j : Nat, j ≤ ps.length ∧ vi = .int .i64 j ∧ IRow wr ob ps.length (fun i => if i < j then MZ (k + 1) i else MZ k i) ∧ OwnAt wr g5 3 o5 ps.length (zg d1) ∧ OwnAt wr g6 3 o6 ps.length (zg d2) ∧ Pair wr w.heap.size 34 (.slice (some ad) ps.length ca) (.slice B rs.length cb) ∧ Below w.heap.size w wr) (fun i _ => ps.length - (intOf i).toNat)
        case atStart => exact ⟨0, by omega, rfl, I.congr (fun i _ => by rw [if_neg (by omega)]), D5, D6, X, K⟩
        case round =>
          clear I D5 D6 X K
          obtain ⟨j, hj, rfl, I, D5, D6, X, K⟩ := hrel
          by_cases hjl : j < ps.length
          · have hjl2 : (j : Int) < ps.length := by omega
            have hti : (t : Int) < ps.length := by omega
            have HSj := Lib.hid (HMk.out j)
            have hv5 := HD1.out j hjl
            have hv6 := HD2.out j hjl
            have ht5 := HD1.out t ht
            have ht6 := HD2.out t ht
            obtain ⟨U, hU⟩ : ∃ U, U = wr.drew := ⟨_, rfl⟩
            have IU : IRow U ob ps.length (fun i => if i < j then MZ (k + 1) i else MZ k i) := by rw [hU]; exact OwnAt.of_block I rfl
            have D5U : OwnAt U g5 3 o5 ps.length (zg d1) := by rw [hU]; exact OwnAt.of_block D5 rfl
            have D6U : OwnAt U g6 3 o6 ps.length (zg d2) := by rw [hU]; exact OwnAt.of_block D6 rfl
            have XU : Pair U w.heap.size 34 (.slice (some ad) ps.length ca) (.slice B rs.length cb) := by rw [hU]; exact X
            have KU : Below w.heap.size w U := by rw [hU]; exact K.drew
            have HUU := Lib.hid hU
            have cI := I.cell hjl
            rw [if_neg (Nat.lt_irrefl j)] at cI
            have fI := I.frozen j
            have c5j := D5.cell hjl
            have c5t := D5.cell ht
            have c6j := D6.cell hjl
            have c6t := D6.cell ht
            clear hU I D5 D6 X K
            go_wp2_with fail
            refine wp_region_still_tail 26 (by kernel_rfl) (by kernel_rfl) ?_
            simp only [List.take_succ_cons, List.take_zero, List.drop_succ_cons, List.drop_zero]
            change wpStill _ _ wr.drew (fun a' => wpList _ _ _ _ a' wr.drew) _ _
            rw [← HUU.out]
            clear cI fI c5j c5t c6j c6t HUU
            have HS2 := HSj
            have cI := IU.cell hjl
            rw [if_neg (Nat.lt_irrefl j)] at cI
            have fI := IU.frozen j
            have c5j := D5U.cell hjl
            have c5t := D5U.cell ht
            have c6j := D6U.cell hjl
            have c6t := D6U.cell ht
            generalize zg d1 j = a1 at c5j hv5 HSj
            generalize zg d1 t = b1 at c5t ht5 HSj
            generalize zg d2 j = a2 at c6j hv6 HSj
            generalize zg d2 t = b2 at c6t ht6 HSj
            have q1 : -300000 ≤ a1 ∧ a1 ≤ 300000 := by omega
            have q2 : -300000 ≤ b1 ∧ b1 ≤ 300000 := by omega
            have q3 : -300000 ≤ a2 ∧ a2 ≤ 300000 := by omega
            have q4 : -300000 ≤ b2 ∧ b2 ≤ 300000 := by omega
            clear hv5 ht5 hv6 ht6
            repeat (first | still_step | still_call (lead_still (by assumption) (by assumption) _))
            refine wpStill_nil ?_
            go_wp2
            go_roundw
            case rel =>
              refine ⟨j + 1, by omega, by go_num, (IU.set j _).congr (fun i hi => ?_), OwnAt.of_block D5U (Below.heap_setCell _ _ _ _ (by simpa using hgo5)), OwnAt.of_block D6U (Below.heap_setCell _ _ _ _ (by simpa using hgo6)), XU.far (by omega) _ _, KU.setCell (by simp; omega) _⟩
              by_cases e : i = j
              · subst e
                rw [if_pos rfl, show (if i < i + 1 then MZ (k + 1) i else MZ k i) = MZ (k + 1) i from if_pos (by omega), HSj.out]
                exact max3_eq _ _ _
              · rw [if_neg e]
                by_cases e2 : i < j
                · rw [if_pos e2, if_pos (by omega)]
                · rw [if_neg e2, if_neg (by omega)]
            case measure => simp [intOf]; omega
          · obtain rfl : j = ps.length := by omega
            have IN : IRow wr ob ps.length (MZ (k + 1)) := I.congr (fun i hi => by rw [if_pos hi])
            clear I D5 D6
            go_wp2
            go_roundw
            case rel => exact ⟨k + 1, by omega, by go_num, IN, X, HVk, K⟩
            case measure => simp [intOf]; omega
    · obtain rfl : k = zs.length := by omega
      have HQ := Lib.hid (HMP.out (marksIn_yes (Nat.le_refl _) HV.out))
      have hws := HWS.out
      have hob := HOB.out
      clear X
      go_wp2
      go_ret
      rw [HQ.out]
      exact irow_intsMade (by omega) I K

theorem implMark_any (ad : Addr) (B C : Option Addr) (ca cb cc : Nat) (ps : List (Int × Int)) (rs : List A3) (t : Int) (zs : List Int) (w : World) (hn : ps.length ≤ 1048576) (hm : rs.length ≤ 1048576) (hk : zs.length ≤ 1048576) (ha : IsPts w (some ad) ps) (hb : IsArcs w B rs) (hzz : IsInts w C zs) :
    Calls Try.prog 36 #[.agg #[.slice (some ad) ps.length ca, .slice B rs.length cb], .int .i64 t, .slice C zs.length cc] w (IntsMade w (markP ps rs t zs)) := by
  by_cases h : netB ps rs = false ∨ btB t 0 ((ps.length : Int) - 1) = false ∨ 8 < zs.length
  · exact implMark_no ad B C ca cb cc ps rs t zs w hn hm hk ha hb hzz h
  · have hb' : ∀ b : Bool, ¬ b = false → b = true := fun b hb => by cases b <;> simp_all
    have h1 := hb' _ (fun e => h (.inl e))
    have h2 := hb' _ (fun e => h (.inr (.inl e)))
    have h3 : ¬ 8 < zs.length := fun e => h (.inr (.inr e))
    obtain ⟨T, rfl, hT⟩ := node_is h2
    exact implMark_yes ad B C ca cb cc ps rs T zs w hn hm hk ha hb hzz h1 hT (by omega)

end Go.Proofs.Ytbmfjfglkjhlnaa
