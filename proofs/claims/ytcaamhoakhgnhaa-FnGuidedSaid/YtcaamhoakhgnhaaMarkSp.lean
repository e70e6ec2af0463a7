/-
  What spec.MarkPot computes.
-/
import Derived.Test.YtcaamhoakhgnhaaMarkIm
namespace Go.Proofs.Ytcaamhoakhgnhaa
open Go.RowKit Go.Deep Go.Maps

/-- A network in its box and a landmark, and nothing older has turned. -/
abbrev MkZ (W0 : World) (b : Nat) (u v : Value) (cb cj : Nat) (m : Int) (w : World) : Prop := w.cell? ⟨b, 0, none⟩ = some u ∧ w.cell? ⟨b, 1, none⟩ = some v ∧ w.cell? ⟨cb, cj, none⟩ = some (.int .i64 m) ∧ Below W0.heap.size W0 w
theorem MkZ.under {W0 : World} {b : Nat} {u v : Value} {cb cj : Nat} {m : Int} {w w' : World} (hb : Below w.heap.size w w') (h : MkZ W0 b u v cb cj m w) : MkZ W0 b u v cb cj m w' := ⟨cell_under hb h.1, cell_under hb h.2.1, cell_under hb h.2.2.1, h.2.2.2.trans (hb.mono h.2.2.2.size)⟩

set_option maxRecDepth 100000 in
set_option maxHeartbeats 2000000 in
theorem specMark_no (ad : Addr) (B C : Option Addr) (ca cb cc : Nat) (ps : List (Int × Int)) (rs : List A3) (t : Int) (zs : List Int) (w : World) (hn : ps.length ≤ 1048576) (hm : rs.length ≤ 1048576) (hk : zs.length ≤ 1048576) (ha : IsPts w (some ad) ps) (hb : IsArcs w B rs) (_hzz : IsInts w C zs) (hno : netB ps rs = false ∨ btB t 0 ((ps.length : Int) - 1) = false ∨ 8 < zs.length) :
    Calls Try.prog 89 #[.agg #[.slice (some ad) ps.length ca, .slice B rs.length cb], .int .i64 t, .slice C zs.length cc] w (IntsFit w (markP ps rs t zs)) := by
  have HQ : Hid (markP ps rs t zs = []) := Lib.hid (by rcases hno with h | h | h; exact markP_no (.inl h); exact markP_no (.inr (.inl h)); exact markP_no (.inr (.inr (.inl h))))
  have X := Pair.new w 32 (.slice (some ad) ps.length ca) (.slice B rs.length cb)
  have K := below1 w (.cells #[.slice (some ad) ps.length ca, .slice B rs.length cb] 32)
  cases h1 : netB ps rs with
  | false =>
    clear hno
    go_enter Try.func89, Try.ntmps89
    go_wp2_with fail
    refine (specNetOk_any (some ad) B ca cb ps rs _ hn hm (ha.below K) (hb.below K)).mono ?_; rw [h1]; rintro e w1 ⟨rfl, b1⟩
    replace K := K.trans (b1.mono K.size)
    replace X := X.below b1
    clear b1
    clear X
    have k9 := below1 w1 (.cells #[] 3)
    replace K := K.trans (k9.mono K.size)
    go_wp2
    go_ret
    exact intsFit_nil HQ.out _ K
  | true =>
    cases h2 : btB t 0 ((ps.length : Int) - 1) with
    | false =>
      clear hno
      go_enter Try.func89, Try.ntmps89
      go_wp2_with fail
      refine (specNetOk_any (some ad) B ca cb ps rs _ hn hm (ha.below K) (hb.below K)).mono ?_; rw [h1]; rintro e w1 ⟨rfl, b1⟩
      replace K := K.trans (b1.mono K.size)
      replace X := X.below b1
      clear b1
      obtain ⟨x0, x1, -, -⟩ := X.cells
      go_wp2_with fail
      refine (l04Node_any (some ad) B ps.length rs.length ca cb t _ hn).mono ?_; rw [h2]; rintro e w2 ⟨rfl, b2⟩
      replace K := K.trans (b2.mono K.size)
      clear b2 X x0 x1
      have k9 := below1 w2 (.cells #[] 3)
      replace K := K.trans (k9.mono K.size)
      go_wp2
      go_ret
      exact intsFit_nil HQ.out _ K
    | true =>
      have h3 : 8 < zs.length := by
        rcases hno with h | h | h
        · rw [h1] at h; cases h
        · rw [h2] at h; cases h
        · exact h
      have h3i : (zs.length : Int) > 8 := by omega
      have h3d : decide ((8 : Int) < zs.length) = true := decide_eq_true h3i
      clear hno h3
      go_enter Try.func89, Try.ntmps89
      go_wp2_with fail
      refine (specNetOk_any (some ad) B ca cb ps rs _ hn hm (ha.below K) (hb.below K)).mono ?_; rw [h1]; rintro e w1 ⟨rfl, b1⟩
      replace K := K.trans (b1.mono K.size)
      replace X := X.below b1
      clear b1
      obtain ⟨x0, x1, -, -⟩ := X.cells
      go_wp2_with fail
      refine (l04Node_any (some ad) B ps.length rs.length ca cb t _ hn).mono ?_; rw [h2]; rintro e w2 ⟨rfl, b2⟩
      replace K := K.trans (b2.mono K.size)
      clear b2 X x0 x1
      have k9 := below1 w2 (.cells #[] 3)
      replace K := K.trans (k9.mono K.size)
      go_wp2
      go_ret
      exact intsFit_nil HQ.out _ K

set_option maxRecDepth 1000000 in
set_option maxHeartbeats 8000000 in
theorem specMark_yes (ad : Addr) (B C : Option Addr) (ca cb cc : Nat) (ps : List (Int × Int)) (rs : List A3) (t : Nat) (zs : List Int) (w : World) (hn : ps.length ≤ 1048576) (hm : rs.length ≤ 1048576) (hk : zs.length ≤ 1048576) (ha : IsPts w (some ad) ps) (hb : IsArcs w B rs) (hzz : IsInts w C zs) (h1 : netB ps rs = true) (ht : t < ps.length) (h8 : zs.length ≤ 8) :
    Calls Try.prog 89 #[.agg #[.slice (some ad) ps.length ca, .slice B rs.length cb], .int .i64 (t : Int), .slice C zs.length cc] w (IntsFit w (markP ps rs t zs)) := by
  obtain ⟨h20, h70, -, -⟩ := netB_iff.1 h1
  have HN := Lib.hid h1
  have HR := Lib.hid (arcsIn_net h1)
  have HTS := Lib.hid (turn_arcs h1).1
  have h2 : btB (t : Int) 0 ((ps.length : Int) - 1) = true := btB_true (by omega) (by omega)
  have h8i : ¬ (zs.length : Int) > 8 := by omega
  have h8d : decide ((8 : Int) < zs.length) = false := decide_eq_false h8i
  have HZ := Lib.hid (fun (V : World) (k : Below w.heap.size w V) (i : Nat) (hi : i < zs.length) => (hzz.below k).at_ hi)
  have X := Pair.new w 32 (.slice (some ad) ps.length ca) (.slice B rs.length cb)
  have K := below1 w (.cells #[.slice (some ad) ps.length ca, .slice B rs.length cb] 32)
  go_enter Try.func89, Try.ntmps89
  go_wp2_with fail
  refine (specNetOk_any (some ad) B ca cb ps rs _ hn hm (ha.below K) (hb.below K)).mono ?_; rw [h1]; rintro e w1 ⟨rfl, b1⟩
  replace K := K.trans (b1.mono K.size)
  replace X := X.below b1
  clear b1
  obtain ⟨x0, x1, -, -⟩ := X.cells
  go_wp2_with fail
  refine (l04Node_any (some ad) B ps.length rs.length ca cb (t : Int) _ hn).mono ?_; rw [h2]; rintro e w2 ⟨rfl, b2⟩
  replace K := K.trans (b2.mono K.size)
  replace X := X.below b2
  clear b2 x0 x1 h1 h2
  have HWS := Lib.hid K.size
  have hxl := X.lt
  obtain ⟨TL, hTL⟩ : ∃ TL, TL = turnL rs := ⟨_, rfl⟩
  have HTE : Hid (turnL rs = TL) := Lib.hid hTL.symm
  rw [← hTL] at HTS
  have htl : TL.length ≤ 70 := by rw [hTL]; exact (netB_iff.1 (turn_valid HN.out)).2.1
  clear hTL
  go_wp2
  clear h8i h8d
  go_loopw [7] (fun vi wr => ∃ k : Nat, k ≤ zs.length ∧ vi = .int .i64 k ∧ Pair wr w.heap.size 32 (.slice (some ad) ps.length ca) (.slice B rs.length cb) ∧ Hid (∀ j, j < k → j < zs.length → btB (zg zs j) 0 ((ps.length : Int) - 1) = true) ∧ Below w.heap.size w wr) (fun i _ => zs.length - (intOf i).toNat)
  case atStart => exact ⟨0, by omega, rfl, X, Lib.hid (fun j hj => by omega), K⟩
  case round =>
    clear X K
    obtain ⟨k, hkl, rfl, X, HV, K⟩ := hrel
    by_cases hlt : k < zs.length
    · have hkli : (k : Int) < zs.length := by omega
      obtain ⟨cb', co, rfl, -, cz⟩ := HZ.out _ K k hlt
      have HVN := Lib.hid (fun (h : btB (zg zs k) 0 ((ps.length : Int) - 1) = true) j (hj : j < k + 1) (hl : j < zs.length) => (by
        by_cases e : j = k
        · rw [e]; exact h
        · exact HV.out j (by omega) hl : btB (zg zs j) 0 ((ps.length : Int) - 1) = true))
      have HBAD := Lib.hid (fun h => marksIn_no (n := ps.length) hlt h)
      generalize zg zs k = m at cz HVN HBAD
      obtain ⟨x0, x1, -, -⟩ := X.cells
      have TS : MkZ w w.heap.size (.slice (some ad) ps.length ca) (.slice B rs.length cb) cb' (co + k) m wr.drew := ⟨x0, x1, cz, K.drew⟩
      have kdw : Below wr.heap.size wr wr.drew := (Below.refl _ wr).drew
      cases hmB : btB m 0 ((ps.length : Int) - 1) with
      | false =>
        have HQ := Lib.hid (markP_no (ps := ps) (rs := rs) (t := (t : Int)) (.inr (.inr (.inr (HBAD.out hmB)))))
        go_wp2_with fail
        refine wp_region_held_drew (S := (fun w' => MkZ w w.heap.size (.slice (some ad) ps.length ca) (.slice B rs.length cb) cb' (co + k) m w')) (by kernel_rfl) ?_ (fun hHeld => ?_)
        · exact TS
        clear TS
        refine wpAnyH_take (i := 0) (oi := ⟨some 34, _, _, _, _, _⟩) (v := .agg #[.slice (some ad) ps.length ca, .slice B rs.length cb]) rfl (by kernel_rfl) (by kernel_rfl) (by kernel_rfl) (fun _ _ _ h => h) (Or.inl ⟨by rfl, fun w' hw => ?hy⟩) hHeld ?_
        case hy => (try dsimp only at hw); go_simp
        simp only [Act.put, List.setIfInBounds_toArray, List.set_cons_zero, List.set_cons_succ]
        refine wpAnyH_take (i := 1) (oi := ⟨some 35, _, _, _, _, _⟩) (v := .slice (some ⟨cb', co, none⟩) zs.length cc) rfl (by kernel_rfl) (by kernel_rfl) (by kernel_rfl) (fun _ _ _ h => h) (Or.inl ⟨by rfl, fun w' hw => ?hy⟩) hHeld ?_
        case hy => (try dsimp only at hw); go_simp
        simp only [Act.put, List.setIfInBounds_toArray, List.set_cons_zero, List.set_cons_succ]
        refine wpAnyH_take (i := 2) (oi := ⟨some 36, _, _, _, _, _⟩) (v := .int .i64 (k : Int)) rfl (by kernel_rfl) (by kernel_rfl) (by kernel_rfl) (fun _ _ _ h => h) (Or.inl ⟨by rfl, fun w' hw => ?hy⟩) hHeld ?_
        case hy => (try dsimp only at hw); go_simp
        simp only [Act.put, List.setIfInBounds_toArray, List.set_cons_zero, List.set_cons_succ]
        refine wpAnyH_take (i := 3) (oi := ⟨some 37, _, _, _, _, _⟩) (v := .pointer (some ⟨cb', co + k, none⟩)) rfl (by kernel_rfl) (by kernel_rfl) (by kernel_rfl) (fun _ _ _ h => h) (Or.inl ⟨by rfl, fun w' hw => ?hy⟩) hHeld ?_
        case hy => (try dsimp only at hw); go_simp
        simp only [Act.put, List.setIfInBounds_toArray, List.set_cons_zero, List.set_cons_succ]
        refine wpAnyH_take (i := 4) (oi := ⟨some 38, _, _, _, _, _⟩) (v := .int .i64 m) rfl (by kernel_rfl) (by kernel_rfl) (by kernel_rfl) (fun _ _ _ h => h) (Or.inl ⟨by rfl, fun w' hw => ?hy⟩) hHeld ?_
        case hy => (try dsimp only at hw); go_simp
        simp only [Act.put, List.setIfInBounds_toArray, List.set_cons_zero, List.set_cons_succ]
        refine wpAnyH_ready (rs := [5]) (by kernel_rfl) (by simp) ?_
        refine AllReadyH.cons (o := ⟨some 39, _, _, _, _, _⟩) rfl (fun K hK => ?_) AllReadyH.nil
        go_simp
        refine (l04Node_any (some ad) B ps.length rs.length ca cb m _ hn).mono ?_; rw [hmB]; rintro e w4 ⟨rfl, b4⟩
        go_wp2_with fail
        refine hK.out _ _ ?_ (fun hHeld => ?_)
        · exact MkZ.under b4 hHeld
        clear hK K
        try simp only [Act.put, List.setIfInBounds_toArray, List.set_cons_zero, List.set_cons_succ]
        refine wpAnyH_take (i := 6) (oi := ⟨some 40, _, _, _, _, _⟩) (v := .bool true) rfl (by kernel_rfl) (by kernel_rfl) (by kernel_rfl) (fun _ _ _ h => h) (Or.inl ⟨by rfl, fun w' hw => ?hy⟩) hHeld ?_
        case hy => (try dsimp only at hw); go_simp
        simp only [Act.put, List.setIfInBounds_toArray, List.set_cons_zero, List.set_cons_succ]
        refine wpAnyH_done (by kernel_rfl) ?_ _
        have K4 := (K.trans (kdw.mono K.size)).trans (b4.mono (K.trans (kdw.mono K.size)).size)
        have K5 := K4.trans ((below1 w4 (.cells #[] 3)).mono K4.size)
        clear hHeld b4 X x0 x1 cz K K4
        go_wp2
        go_ret
        exact intsFit_nil HQ.out _ K5
      | true =>
        have HVk := Lib.hid (HVN.out hmB)
        go_wp2_with fail
        refine wp_region_held_drew (S := (fun w' => MkZ w w.heap.size (.slice (some ad) ps.length ca) (.slice B rs.length cb) cb' (co + k) m w')) (by kernel_rfl) ?_ (fun hHeld => ?_)
        · exact TS
        clear TS
        refine wpAnyH_take (i := 0) (oi := ⟨some 34, _, _, _, _, _⟩) (v := .agg #[.slice (some ad) ps.length ca, .slice B rs.length cb]) rfl (by kernel_rfl) (by kernel_rfl) (by kernel_rfl) (fun _ _ _ h => h) (Or.inl ⟨by rfl, fun w' hw => ?hy⟩) hHeld ?_
        case hy => (try dsimp only at hw); go_simp
        simp only [Act.put, List.setIfInBounds_toArray, List.set_cons_zero, List.set_cons_succ]
        refine wpAnyH_take (i := 1) (oi := ⟨some 35, _, _, _, _, _⟩) (v := .slice (some ⟨cb', co, none⟩) zs.length cc) rfl (by kernel_rfl) (by kernel_rfl) (by kernel_rfl) (fun _ _ _ h => h) (Or.inl ⟨by rfl, fun w' hw => ?hy⟩) hHeld ?_
        case hy => (try dsimp only at hw); go_simp
        simp only [Act.put, List.setIfInBounds_toArray, List.set_cons_zero, List.set_cons_succ]
        refine wpAnyH_take (i := 2) (oi := ⟨some 36, _, _, _, _, _⟩) (v := .int .i64 (k : Int)) rfl (by kernel_rfl) (by kernel_rfl) (by kernel_rfl) (fun _ _ _ h => h) (Or.inl ⟨by rfl, fun w' hw => ?hy⟩) hHeld ?_
        case hy => (try dsimp only at hw); go_simp
        simp only [Act.put, List.setIfInBounds_toArray, List.set_cons_zero, List.set_cons_succ]
        refine wpAnyH_take (i := 3) (oi := ⟨some 37, _, _, _, _, _⟩) (v := .pointer (some ⟨cb', co + k, none⟩)) rfl (by kernel_rfl) (by kernel_rfl) (by kernel_rfl) (fun _ _ _ h => h) (Or.inl ⟨by rfl, fun w' hw => ?hy⟩) hHeld ?_
        case hy => (try dsimp only at hw); go_simp
        simp only [Act.put, List.setIfInBounds_toArray, List.set_cons_zero, List.set_cons_succ]
        refine wpAnyH_take (i := 4) (oi := ⟨some 38, _, _, _, _, _⟩) (v := .int .i64 m) rfl (by kernel_rfl) (by kernel_rfl) (by kernel_rfl) (fun _ _ _ h => h) (Or.inl ⟨by rfl, fun w' hw => ?hy⟩) hHeld ?_
        case hy => (try dsimp only at hw); go_simp
        simp only [Act.put, List.setIfInBounds_toArray, List.set_cons_zero, List.set_cons_succ]
        refine wpAnyH_ready (rs := [5]) (by kernel_rfl) (by simp) ?_
        refine AllReadyH.cons (o := ⟨some 39, _, _, _, _, _⟩) rfl (fun K hK => ?_) AllReadyH.nil
        go_simp
        refine (l04Node_any (some ad) B ps.length rs.length ca cb m _ hn).mono ?_; rw [hmB]; rintro e w4 ⟨rfl, b4⟩
        go_wp2_with fail
        refine hK.out _ _ ?_ (fun hHeld => ?_)
        · exact MkZ.under b4 hHeld
        clear hK K
        try simp only [Act.put, List.setIfInBounds_toArray, List.set_cons_zero, List.set_cons_succ]
        refine wpAnyH_take (i := 6) (oi := ⟨some 40, _, _, _, _, _⟩) (v := .bool false) rfl (by kernel_rfl) (by kernel_rfl) (by kernel_rfl) (fun _ _ _ h => h) (Or.inl ⟨by rfl, fun w' hw => ?hy⟩) hHeld ?_
        case hy => (try dsimp only at hw); go_simp
        simp only [Act.put, List.setIfInBounds_toArray, List.set_cons_zero, List.set_cons_succ]
        refine wpAnyH_done (by kernel_rfl) ?_ _
        have k4 := kdw.trans (b4.mono kdw.size)
        have X4 := X.below k4
        have K4 := K.trans (k4.mono K.size)
        clear hHeld b4 X x0 x1 cz K k4
        go_wp2
        go_roundw
        case rel => exact ⟨k + 1, by omega, by go_num, X4, HVk, K4⟩
        case measure => simp [intOf]; omega
    · obtain rfl : k = zs.length := by omega
      have HMI := Lib.hid (marksIn_yes (Nat.le_refl _) HV.out)
      have HQ := Lib.hid (markP_yes (t := t) HN.out ht h8 HMI.out)
      clear HV
      obtain ⟨x0, x1, -, -⟩ := X.cells
      have hmk := run_make_row' (P := Try.prog) 40 3 (.int .i64 0) 8 Try.underlying40 Try.infoInt rfl .i64 .i64 ps.length (by omega) (by omega)
      have I := IRow.made wr ps.length
      have kd := below1 wr (.cells (madeCells #[.int .i64 0] ps.length) 3)
      have hxl2 := X.lt
      have HKW := Lib.hid K.size
      obtain ⟨ob, hob⟩ : ∃ ob, ob = wr.heap.size := ⟨_, rfl⟩
      have hobw : w.heap.size < ob := by omega
      have HBW := Lib.hid hobw
      have HOB := Lib.hid hob
      rw [← hob] at I
      replace X := X.below kd
      replace K := K.trans (kd.mono K.size)
      clear hob kd hxl2
      obtain ⟨MZ, hMZ⟩ : ∃ MZ, MZ = mkZ ps.length rs (turnL rs) t zs := ⟨_, rfl⟩
      have HM0 : Hid (∀ v, MZ 0 v = 0) := Lib.hid (fun v => by rw [hMZ]; rfl)
      have HMP := Lib.hid (fun i v => (by rw [hMZ]; exact mkZ_pos _ _ _ _ _ i v : 0 ≤ MZ i v))
      have HMS : Hid (∀ i v, MZ (i + 1) v = max (max (MZ i v) (ld (zg (dst ps.length TL (zg zs i).toNat) v) (zg (dst ps.length TL (zg zs i).toNat) t))) (ld (zg (dst ps.length rs (zg zs i).toNat) t) (zg (dst ps.length rs (zg zs i).toNat) v))) := Lib.hid (fun i v => by rw [hMZ, ← HTE.out]; rfl)
      rw [← hMZ] at HQ
      have I0 : IRow _ ob ps.length (MZ 0) := I.congr fun i _ => (HM0.out i).symm
      have HALL := Lib.hid (fun i (hi : i < zs.length) => (of_decide_eq_true HMI.out : ∀ i, i < zs.length → btB (zg zs i) 0 ((ps.length : Int) - 1) = true) i hi)
      clear hMZ I
      go_wp2_with fail
      rw [← HOB.out]
      clear hmk x0 x1
      go_loopw [9] (fun vi wr => ∃ k : Nat, k ≤ zs.length ∧ vi = .int .i64 k ∧ IRow wr ob ps.length (MZ k) ∧ Pair wr w.heap.size 32 (.slice (some ad) ps.length ca) (.slice B rs.length cb) ∧ Below w.heap.size w wr) (fun i _ => zs.length - (intOf i).toNat)
      case atStart => exact ⟨0, by omega, rfl, I0, X, K⟩
      case round =>
        clear I0 X K
        obtain ⟨k, hkl, rfl, I, X, K⟩ := hrel
        by_cases hlt : k < zs.length
        · have hkli : (k : Int) < zs.length := by omega
          obtain ⟨cb', co, rfl, -, cz⟩ := HZ.out _ K k hlt
          have HMk := Lib.hid (HMS.out k)
          have HPk := Lib.hid (HMP.out k)
          have HBk := Lib.hid (HALL.out k hlt)
          generalize zg zs k = m at cz HMk HBk
          obtain ⟨M, rfl, hM⟩ := node_is HBk.out
          rw [Int.toNat_natCast] at HMk
          have HDL1 := Lib.hid (dst_len ps.length rs M)
          have HDL2 := Lib.hid (dst_len ps.length TL M)
          have HD1 := Lib.hid (fun i (hi : i < ps.length) => dst_val h20 hM HR.out (v := i) hi)
          have HD2 := Lib.hid (fun i (hi : i < ps.length) => dst_val h20 hM HTS.out (v := i) hi)
          obtain ⟨x0, x1, -, -⟩ := X.cells
          have TS : MkZ w w.heap.size (.slice (some ad) ps.length ca) (.slice B rs.length cb) cb' (co + k) (M : Int) wr.drew := ⟨x0, x1, cz, K.drew⟩
          have kdw : Below wr.heap.size wr wr.drew := (Below.refl _ wr).drew
          have hil := I.lt
          go_wp2_with fail
          refine wp_region_held_drew (S := (fun w' => MkZ w w.heap.size (.slice (some ad) ps.length ca) (.slice B rs.length cb) cb' (co + k) (M : Int) w')) (by kernel_rfl) ?_ (fun hHeld => ?_)
          · exact TS
          clear TS
          refine wpAnyH_take (i := 0) (oi := ⟨some 52, _, _, _, _, _⟩) (v := .agg #[.slice (some ad) ps.length ca, .slice B rs.length cb]) rfl (by kernel_rfl) (by kernel_rfl) (by kernel_rfl) (fun _ _ _ h => h) (Or.inl ⟨by rfl, fun w' hw => ?hy⟩) hHeld ?_
          case hy => (try dsimp only at hw); go_simp
          simp only [Act.put, List.setIfInBounds_toArray, List.set_cons_zero, List.set_cons_succ]
          refine wpAnyH_take (i := 2) (oi := ⟨some 54, _, _, _, _, _⟩) (v := .slice (some ⟨cb', co, none⟩) zs.length cc) rfl (by kernel_rfl) (by kernel_rfl) (by kernel_rfl) (fun _ _ _ h => h) (Or.inl ⟨by rfl, fun w' hw => ?hy⟩) hHeld ?_
          case hy => (try dsimp only at hw); go_simp
          simp only [Act.put, List.setIfInBounds_toArray, List.set_cons_zero, List.set_cons_succ]
          refine wpAnyH_take (i := 3) (oi := ⟨some 55, _, _, _, _, _⟩) (v := .int .i64 (k : Int)) rfl (by kernel_rfl) (by kernel_rfl) (by kernel_rfl) (fun _ _ _ h => h) (Or.inl ⟨by rfl, fun w' hw => ?hy⟩) hHeld ?_
          case hy => (try dsimp only at hw); go_simp
          simp only [Act.put, List.setIfInBounds_toArray, List.set_cons_zero, List.set_cons_succ]
          refine wpAnyH_take (i := 4) (oi := ⟨some 56, _, _, _, _, _⟩) (v := .pointer (some ⟨cb', co + k, none⟩)) rfl (by kernel_rfl) (by kernel_rfl) (by kernel_rfl) (fun _ _ _ h => h) (Or.inl ⟨by rfl, fun w' hw => ?hy⟩) hHeld ?_
          case hy => (try dsimp only at hw); go_simp
          simp only [Act.put, List.setIfInBounds_toArray, List.set_cons_zero, List.set_cons_succ]
          refine wpAnyH_take (i := 5) (oi := ⟨some 57, _, _, _, _, _⟩) (v := .int .i64 (M : Int)) rfl (by kernel_rfl) (by kernel_rfl) (by kernel_rfl) (fun _ _ _ h => h) (Or.inl ⟨by rfl, fun w' hw => ?hy⟩) hHeld ?_
          case hy => (try dsimp only at hw); go_simp
          simp only [Act.put, List.setIfInBounds_toArray, List.set_cons_zero, List.set_cons_succ]
          refine wpAnyH_take (i := 7) (oi := ⟨some 59, _, _, _, _, _⟩) (v := .agg #[.slice (some ad) ps.length ca, .slice B rs.length cb]) rfl (by kernel_rfl) (by kernel_rfl) (by kernel_rfl) (fun _ _ _ h => h) (Or.inl ⟨by rfl, fun w' hw => ?hy⟩) hHeld ?_
          case hy => (try dsimp only at hw); go_simp
          simp only [Act.put, List.setIfInBounds_toArray, List.set_cons_zero, List.set_cons_succ]
          refine wpAnyH_take (i := 8) (oi := ⟨some 60, _, _, _, _, _⟩) (v := .slice (some ⟨cb', co, none⟩) zs.length cc) rfl (by kernel_rfl) (by kernel_rfl) (by kernel_rfl) (fun _ _ _ h => h) (Or.inl ⟨by rfl, fun w' hw => ?hy⟩) hHeld ?_
          case hy => (try dsimp only at hw); go_simp
          simp only [Act.put, List.setIfInBounds_toArray, List.set_cons_zero, List.set_cons_succ]
          refine wpAnyH_take (i := 9) (oi := ⟨some 61, _, _, _, _, _⟩) (v := .int .i64 (k : Int)) rfl (by kernel_rfl) (by kernel_rfl) (by kernel_rfl) (fun _ _ _ h => h) (Or.inl ⟨by rfl, fun w' hw => ?hy⟩) hHeld ?_
          case hy => (try dsimp only at hw); go_simp
          simp only [Act.put, List.setIfInBounds_toArray, List.set_cons_zero, List.set_cons_succ]
          refine wpAnyH_take (i := 10) (oi := ⟨some 62, _, _, _, _, _⟩) (v := .pointer (some ⟨cb', co + k, none⟩)) rfl (by kernel_rfl) (by kernel_rfl) (by kernel_rfl) (fun _ _ _ h => h) (Or.inl ⟨by rfl, fun w' hw => ?hy⟩) hHeld ?_
          case hy => (try dsimp only at hw); go_simp
          simp only [Act.put, List.setIfInBounds_toArray, List.set_cons_zero, List.set_cons_succ]
          refine wpAnyH_take (i := 11) (oi := ⟨some 63, _, _, _, _, _⟩) (v := .int .i64 (M : Int)) rfl (by kernel_rfl) (by kernel_rfl) (by kernel_rfl) (fun _ _ _ h => h) (Or.inl ⟨by rfl, fun w' hw => ?hy⟩) hHeld ?_
          case hy => (try dsimp only at hw); go_simp
          simp only [Act.put, List.setIfInBounds_toArray, List.set_cons_zero, List.set_cons_succ]
          refine wpAnyH_ready (rs := [1]) (by kernel_rfl) (by simp) ?_
          refine AllReadyH.cons (o := ⟨some 53, _, _, _, _, _⟩) rfl (fun K hK => ?_) AllReadyH.nil
          go_simp
          refine (specTurned_yes ad B ca cb ps rs _ hn hm (ha.below hHeld.2.2.2) (hb.below hHeld.2.2.2) HN.out).mono ?_; rintro e w5 ⟨A4, B4, ca4, cb4, rfl, OP4, OR4, -, b5⟩
          go_wp2_with fail
          refine hK.out _ _ ?_ (fun hHeld => ?_)
          · exact MkZ.under b5 hHeld
          clear hK K
          try simp only [Act.put, List.setIfInBounds_toArray, List.set_cons_zero, List.set_cons_succ]
          have R5 := own_arcs OR4
          rw [HTE.out] at R5 ⊢
          clear OP4 OR4
          refine wpAnyH_ready (rs := [6]) (by kernel_rfl) (by simp) ?_
          refine AllReadyH.cons (o := ⟨some 58, _, _, _, _, _⟩) rfl (fun K hK => ?_) AllReadyH.nil
          go_simp
          refine (l04From_any A4 B4 ca4 cb4 ps.length M TL _ h20 htl hM HTS.out R5).mono ?_; rintro e w6 ⟨A6, c6, rfl, hc6, O6, b6⟩
          rw [HDL2.out] at hc6 O6 ⊢
          go_wp2_with fail
          refine hK.out _ _ ?_ (fun hHeld => ?_)
          · exact MkZ.under b6 hHeld
          clear hK K
          try simp only [Act.put, List.setIfInBounds_toArray, List.set_cons_zero, List.set_cons_succ]
          refine wpAnyH_ready (rs := [12]) (by kernel_rfl) (by simp) ?_
          refine AllReadyH.cons (o := ⟨some 64, _, _, _, _, _⟩) rfl (fun K hK => ?_) AllReadyH.nil
          go_simp
          refine (l04From_any (some ad) B ca cb ps.length M rs _ h20 h70 hM HR.out (hb.below hHeld.2.2.2)).mono ?_; rintro e w7 ⟨A5, c5, rfl, hc5, O5, b7⟩
          rw [HDL1.out] at hc5 O5 ⊢
          go_wp2_with fail
          refine hK.out _ _ ?_ (fun hHeld => ?_)
          · exact MkZ.under b7 hHeld
          clear hK K
          try simp only [Act.put, List.setIfInBounds_toArray, List.set_cons_zero, List.set_cons_succ]
          refine wpAnyH_take (i := 13) (oi := ⟨some 10, _, _, _, _, _⟩) (v := .slice A6 ps.length c6) rfl (by kernel_rfl) (by kernel_rfl) (by kernel_rfl) (fun _ _ _ h => h) (Or.inl ⟨by rfl, fun w' hw => ?hy⟩) hHeld ?_
          case hy => (try dsimp only at hw); go_simp
          simp only [Act.put, List.setIfInBounds_toArray, List.set_cons_zero, List.set_cons_succ]
          refine wpAnyH_take (i := 14) (oi := ⟨some 11, _, _, _, _, _⟩) (v := .slice A5 ps.length c5) rfl (by kernel_rfl) (by kernel_rfl) (by kernel_rfl) (fun _ _ _ h => h) (Or.inl ⟨by rfl, fun w' hw => ?hy⟩) hHeld ?_
          case hy => (try dsimp only at hw); go_simp
          simp only [Act.put, List.setIfInBounds_toArray, List.set_cons_zero, List.set_cons_succ]
          refine wpAnyH_done (by kernel_rfl) ?_ _
          have k5 := kdw.trans (b5.mono kdw.size)
          have k6 := k5.trans (b6.mono k5.size)
          have k7 := k6.trans (b7.mono k6.size)
          replace I := I.below k7
          replace X := X.below k7
          replace K := K.trans (k7.mono K.size)
          have hb5s := b5.size
          have hb6s := b6.size
          obtain ⟨g5, o5, rfl, hg5, D5⟩ := O5 (by omega)
          obtain ⟨g6, o6, rfl, hg6, D6⟩ := O6 (by omega)
          have hdz : wr.drew.heap.size = wr.heap.size := rfl
          replace D6 := D6.below b7
          have hgo5 : g5 ≠ ob := by omega
          have hgo6 : g6 ≠ ob := by omega
          clear O5 O6 b5 b6 b7 hHeld kdw k5 k6 k7 x0 x1 HDL1 HDL2 hdz hg5 hg6 hil hb5s hb6s cz R5
          generalize dst ps.length rs M = d1 at D5 HMk HD1
          generalize dst ps.length TL M = d2 at D6 HMk HD2
          go_wp2
          go_loopw [12] (fun vi wr => ∃ j : Nat, j ≤ ps.length ∧ vi = .int .i64 j ∧ IRow wr ob ps.length (fun i => if i < j then MZ (k + 1) i else MZ k i) ∧ OwnAt wr g5 3 o5 ps.length (zg d1) ∧ OwnAt wr g6 3 o6 ps.length (zg d2) ∧ Pair wr w.heap.size 32 (.slice (some ad) ps.length ca) (.slice B rs.length cb) ∧ Below w.heap.size w wr) (fun i _ => ps.length - (intOf i).toNat)
          case atStart => exact ⟨0, by omega, rfl, I.congr (fun i _ => by rw [if_neg (by omega)]), D5, D6, X, K⟩
          case round =>
            clear I D5 D6 X K
            obtain ⟨j, hj, rfl, I, D5, D6, X, K⟩ := hrel
            by_cases hjl : j < ps.length
            · have hjl2 : (j : Int) < ps.length := by omega
              have hti : (t : Int) < ps.length := by omega
              have HSj := Lib.hid (HMk.out j)
              have HPj := Lib.hid (HPk.out j)
              have hv5 := HD1.out j hjl
              have hv6 := HD2.out j hjl
              have ht5 := HD1.out t ht
              have ht6 := HD2.out t ht
              obtain ⟨x0, x1, -, -⟩ := X.cells
              have cI := I.cell hjl
              rw [if_neg (Nat.lt_irrefl j)] at cI
              have c5j := D5.cell hjl
              have c5t := D5.cell ht
              have c6j := D6.cell hjl
              have c6t := D6.cell ht
              obtain ⟨a1, ha1⟩ : ∃ a1, zg d1 j = a1 := ⟨_, rfl⟩
              obtain ⟨bb1, hb1⟩ : ∃ bb1, zg d1 t = bb1 := ⟨_, rfl⟩
              obtain ⟨a2, ha2⟩ : ∃ a2, zg d2 j = a2 := ⟨_, rfl⟩
              obtain ⟨bb2, hb2⟩ : ∃ bb2, zg d2 t = bb2 := ⟨_, rfl⟩
              rw [ha1] at c5j hv5 HSj
              rw [hb1] at c5t ht5 HSj
              rw [ha2] at c6j hv6 HSj
              rw [hb2] at c6t ht6 HSj
              have HA1 := Lib.hid ha1
              have HB1 := Lib.hid hb1
              have HA2 := Lib.hid ha2
              have HB2 := Lib.hid hb2
              have hw1 : IntKind.i64.wrap (a2 - bb2) = a2 - bb2 := IntWalk.i64_in _ (by omega)
              have hw2 : IntKind.i64.wrap (bb1 - a1) = bb1 - a1 := IntWalk.i64_in _ (by omega)
              clear ha1 hb1 ha2 hb2 hv5 hv6 ht5 ht6
              by_cases hA1 : a2 = -1
              · have hA1b : (a2 != -1) = false := by rw [hA1]; rfl
                by_cases hB1 : a1 = -1
                · have hB1b : (a1 != -1) = false := by rw [hB1]; rfl
                  have HL1 := Lib.hid (ld_no1 (y := bb2) hA1)
                  have HL2 := Lib.hid (ld_no2 (x := bb1) hB1)
                  clear hA1 hB1
                  go_wp2
                  go_roundw
                  case rel =>
                    refine ⟨j + 1, by omega, by go_num, (I).congr (fun i hi => ?_), D5, D6, X, K⟩
                    by_cases e : i = j
                    · subst e
                      rw [show (if i < i + 1 then MZ (k + 1) i else MZ k i) = MZ (k + 1) i from if_pos (by omega), HSj.out]
                      have := HPj.out
                      rw [if_neg (Nat.lt_irrefl i), HL1.out, HL2.out]; omega
                    · rw [show (if i < j + 1 then MZ (k + 1) i else MZ k i) = (if i < j then MZ (k + 1) i else MZ k i) from by
                        by_cases e2 : i < j
                        · rw [if_pos e2, if_pos (by omega)]
                        · rw [if_neg e2, if_neg (by omega)]]
                      all_goals rfl
                  case measure => simp [intOf]; omega
                · have hB1b : (a1 != -1) = true := by simpa using hB1
                  by_cases hB2 : bb1 = -1
                  · have hB2b : (bb1 != -1) = false := by rw [hB2]; rfl
                    have HL1 := Lib.hid (ld_no1 (y := bb2) hA1)
                    have HL2 := Lib.hid (ld_no1 (y := a1) hB2)
                    clear hA1 hB1 hB2
                    go_wp2
                    go_roundw
                    case rel =>
                      refine ⟨j + 1, by omega, by go_num, (I).congr (fun i hi => ?_), D5, D6, X, K⟩
                      by_cases e : i = j
                      · subst e
                        rw [show (if i < i + 1 then MZ (k + 1) i else MZ k i) = MZ (k + 1) i from if_pos (by omega), HSj.out]
                        have := HPj.out
                        rw [if_neg (Nat.lt_irrefl i), HL1.out, HL2.out]; omega
                      · rw [show (if i < j + 1 then MZ (k + 1) i else MZ k i) = (if i < j then MZ (k + 1) i else MZ k i) from by
                          by_cases e2 : i < j
                          · rw [if_pos e2, if_pos (by omega)]
                          · rw [if_neg e2, if_neg (by omega)]]
                        all_goals rfl
                    case measure => simp [intOf]; omega
                  · have hB2b : (bb1 != -1) = true := by simpa using hB2
                    have HL1 := Lib.hid (ld_no1 (y := bb2) hA1)
                    have HL2 := Lib.hid (ld_yes hB2 hB1)
                    clear hA1 hB1 hB2
                    go_wp2_with fail
                    refine wp_region_still_tail 17 (by kernel_rfl) (by kernel_rfl) ?_
                    simp only [List.take_succ_cons, List.take_zero, List.drop_succ_cons, List.drop_zero]
                    change wpStill _ _ wr.drew (fun a' => wpList _ _ _ _ a' wr.drew) _ _
                    replace I := OwnAt.of_block (w' := wr.drew) I rfl
                    replace D5 := OwnAt.of_block (w' := wr.drew) D5 rfl
                    replace D6 := OwnAt.of_block (w' := wr.drew) D6 rfl
                    replace X : Pair wr.drew w.heap.size 32 (.slice (some ad) ps.length ca) (.slice B rs.length cb) := X
                    replace K := K.drew
                    clear x0 x1 cI c5j c5t c6j c6t
                    generalize wr.drew = U at I D5 D6 X K ⊢
                    obtain ⟨x0, x1, -, -⟩ := X.cells
                    have cI := IRow.cell I hjl
                    rw [if_neg (Nat.lt_irrefl j)] at cI
                    have fI := IRow.frozen I j
                    have c5j := D5.cell hjl
                    have c5t := D5.cell ht
                    have c6j := D6.cell hjl
                    have c6t := D6.cell ht
                    rw [HA1.out] at c5j
                    rw [HB1.out] at c5t
                    rw [HA2.out] at c6j
                    rw [HB2.out] at c6t
                    repeat still_step
                    refine wpStill_nil ?_
                    have I2 := IRow.set I j (max (MZ k j) (bb1 - a1))
                    have D52 := OwnAt.of_block (w' := U.setCell ⟨ob, j, none⟩ (.int .i64 (max (MZ k j) (bb1 - a1)))) D5 (Below.heap_setCell _ _ _ _ (by simpa using hgo5))
                    have D62 := OwnAt.of_block (w' := U.setCell ⟨ob, j, none⟩ (.int .i64 (max (MZ k j) (bb1 - a1)))) D6 (Below.heap_setCell _ _ _ _ (by simpa using hgo6))
                    have X2 := X.far (c := ob) (by have := HBW.out; omega) j (.int .i64 (max (MZ k j) (bb1 - a1)))
                    have K2 := K.setCell (p := ⟨ob, j, none⟩) (by have := HBW.out; simp; omega) (.int .i64 (max (MZ k j) (bb1 - a1)))
                    go_wp2
                    go_roundw
                    case rel =>
                      refine ⟨j + 1, by omega, by go_num, (I2).congr (fun i hi => ?_), D52, D62, X2, K2⟩
                      by_cases e : i = j
                      · subst e
                        rw [show (if i < i + 1 then MZ (k + 1) i else MZ k i) = MZ (k + 1) i from if_pos (by omega), HSj.out]
                        have := HPj.out
                        rw [if_pos rfl, HL1.out, HL2.out]; omega
                      · rw [show (if i < j + 1 then MZ (k + 1) i else MZ k i) = (if i < j then MZ (k + 1) i else MZ k i) from by
                          by_cases e2 : i < j
                          · rw [if_pos e2, if_pos (by omega)]
                          · rw [if_neg e2, if_neg (by omega)]]
                        rw [if_neg e]
                    case measure => simp [intOf]; omega
              · have hA1b : (a2 != -1) = true := by simpa using hA1
                by_cases hA2 : bb2 = -1
                · have hA2b : (bb2 != -1) = false := by rw [hA2]; rfl
                  by_cases hB1 : a1 = -1
                  · have hB1b : (a1 != -1) = false := by rw [hB1]; rfl
                    have HL1 := Lib.hid (ld_no2 (x := a2) hA2)
                    have HL2 := Lib.hid (ld_no2 (x := bb1) hB1)
                    clear hA1 hA2 hB1
                    go_wp2
                    go_roundw
                    case rel =>
                      refine ⟨j + 1, by omega, by go_num, (I).congr (fun i hi => ?_), D5, D6, X, K⟩
                      by_cases e : i = j
                      · subst e
                        rw [show (if i < i + 1 then MZ (k + 1) i else MZ k i) = MZ (k + 1) i from if_pos (by omega), HSj.out]
                        have := HPj.out
                        rw [if_neg (Nat.lt_irrefl i), HL1.out, HL2.out]; omega
                      · rw [show (if i < j + 1 then MZ (k + 1) i else MZ k i) = (if i < j then MZ (k + 1) i else MZ k i) from by
                          by_cases e2 : i < j
                          · rw [if_pos e2, if_pos (by omega)]
                          · rw [if_neg e2, if_neg (by omega)]]
                        all_goals rfl
                    case measure => simp [intOf]; omega
                  · have hB1b : (a1 != -1) = true := by simpa using hB1
                    by_cases hB2 : bb1 = -1
                    · have hB2b : (bb1 != -1) = false := by rw [hB2]; rfl
                      have HL1 := Lib.hid (ld_no2 (x := a2) hA2)
                      have HL2 := Lib.hid (ld_no1 (y := a1) hB2)
                      clear hA1 hA2 hB1 hB2
                      go_wp2
                      go_roundw
                      case rel =>
                        refine ⟨j + 1, by omega, by go_num, (I).congr (fun i hi => ?_), D5, D6, X, K⟩
                        by_cases e : i = j
                        · subst e
                          rw [show (if i < i + 1 then MZ (k + 1) i else MZ k i) = MZ (k + 1) i from if_pos (by omega), HSj.out]
                          have := HPj.out
                          rw [if_neg (Nat.lt_irrefl i), HL1.out, HL2.out]; omega
                        · rw [show (if i < j + 1 then MZ (k + 1) i else MZ k i) = (if i < j then MZ (k + 1) i else MZ k i) from by
                            by_cases e2 : i < j
                            · rw [if_pos e2, if_pos (by omega)]
                            · rw [if_neg e2, if_neg (by omega)]]
                          all_goals rfl
                      case measure => simp [intOf]; omega
                    · have hB2b : (bb1 != -1) = true := by simpa using hB2
                      have HL1 := Lib.hid (ld_no2 (x := a2) hA2)
                      have HL2 := Lib.hid (ld_yes hB2 hB1)
                      clear hA1 hA2 hB1 hB2
                      go_wp2_with fail
                      refine wp_region_still_tail 17 (by kernel_rfl) (by kernel_rfl) ?_
                      simp only [List.take_succ_cons, List.take_zero, List.drop_succ_cons, List.drop_zero]
                      change wpStill _ _ wr.drew (fun a' => wpList _ _ _ _ a' wr.drew) _ _
                      replace I := OwnAt.of_block (w' := wr.drew) I rfl
                      replace D5 := OwnAt.of_block (w' := wr.drew) D5 rfl
                      replace D6 := OwnAt.of_block (w' := wr.drew) D6 rfl
                      replace X : Pair wr.drew w.heap.size 32 (.slice (some ad) ps.length ca) (.slice B rs.length cb) := X
                      replace K := K.drew
                      clear x0 x1 cI c5j c5t c6j c6t
                      generalize wr.drew = U at I D5 D6 X K ⊢
                      obtain ⟨x0, x1, -, -⟩ := X.cells
                      have cI := IRow.cell I hjl
                      rw [if_neg (Nat.lt_irrefl j)] at cI
                      have fI := IRow.frozen I j
                      have c5j := D5.cell hjl
                      have c5t := D5.cell ht
                      have c6j := D6.cell hjl
                      have c6t := D6.cell ht
                      rw [HA1.out] at c5j
                      rw [HB1.out] at c5t
                      rw [HA2.out] at c6j
                      rw [HB2.out] at c6t
                      repeat still_step
                      refine wpStill_nil ?_
                      have I2 := IRow.set I j (max (MZ k j) (bb1 - a1))
                      have D52 := OwnAt.of_block (w' := U.setCell ⟨ob, j, none⟩ (.int .i64 (max (MZ k j) (bb1 - a1)))) D5 (Below.heap_setCell _ _ _ _ (by simpa using hgo5))
                      have D62 := OwnAt.of_block (w' := U.setCell ⟨ob, j, none⟩ (.int .i64 (max (MZ k j) (bb1 - a1)))) D6 (Below.heap_setCell _ _ _ _ (by simpa using hgo6))
                      have X2 := X.far (c := ob) (by have := HBW.out; omega) j (.int .i64 (max (MZ k j) (bb1 - a1)))
                      have K2 := K.setCell (p := ⟨ob, j, none⟩) (by have := HBW.out; simp; omega) (.int .i64 (max (MZ k j) (bb1 - a1)))
                      go_wp2
                      go_roundw
                      case rel =>
                        refine ⟨j + 1, by omega, by go_num, (I2).congr (fun i hi => ?_), D52, D62, X2, K2⟩
                        by_cases e : i = j
                        · subst e
                          rw [show (if i < i + 1 then MZ (k + 1) i else MZ k i) = MZ (k + 1) i from if_pos (by omega), HSj.out]
                          have := HPj.out
                          rw [if_pos rfl, HL1.out, HL2.out]; omega
                        · rw [show (if i < j + 1 then MZ (k + 1) i else MZ k i) = (if i < j then MZ (k + 1) i else MZ k i) from by
                            by_cases e2 : i < j
                            · rw [if_pos e2, if_pos (by omega)]
                            · rw [if_neg e2, if_neg (by omega)]]
                          rw [if_neg e]
                      case measure => simp [intOf]; omega
                · have hA2b : (bb2 != -1) = true := by simpa using hA2
                  by_cases hB1 : a1 = -1
                  · have hB1b : (a1 != -1) = false := by rw [hB1]; rfl
                    have HL1 := Lib.hid (ld_yes hA1 hA2)
                    have HL2 := Lib.hid (ld_no2 (x := bb1) hB1)
                    clear hA1 hA2 hB1
                    go_wp2_with fail
                    refine wp_region_still_tail 17 (by kernel_rfl) (by kernel_rfl) ?_
                    simp only [List.take_succ_cons, List.take_zero, List.drop_succ_cons, List.drop_zero]
                    change wpStill _ _ wr.drew (fun a' => wpList _ _ _ _ a' wr.drew) _ _
                    replace I := OwnAt.of_block (w' := wr.drew) I rfl
                    replace D5 := OwnAt.of_block (w' := wr.drew) D5 rfl
                    replace D6 := OwnAt.of_block (w' := wr.drew) D6 rfl
                    replace X : Pair wr.drew w.heap.size 32 (.slice (some ad) ps.length ca) (.slice B rs.length cb) := X
                    replace K := K.drew
                    clear x0 x1 cI c5j c5t c6j c6t
                    generalize wr.drew = U at I D5 D6 X K ⊢
                    obtain ⟨x0, x1, -, -⟩ := X.cells
                    have cI := IRow.cell I hjl
                    rw [if_neg (Nat.lt_irrefl j)] at cI
                    have fI := IRow.frozen I j
                    have c5j := D5.cell hjl
                    have c5t := D5.cell ht
                    have c6j := D6.cell hjl
                    have c6t := D6.cell ht
                    rw [HA1.out] at c5j
                    rw [HB1.out] at c5t
                    rw [HA2.out] at c6j
                    rw [HB2.out] at c6t
                    repeat still_step
                    refine wpStill_nil ?_
                    have I2 := IRow.set I j (max (MZ k j) (a2 - bb2))
                    have D52 := OwnAt.of_block (w' := U.setCell ⟨ob, j, none⟩ (.int .i64 (max (MZ k j) (a2 - bb2)))) D5 (Below.heap_setCell _ _ _ _ (by simpa using hgo5))
                    have D62 := OwnAt.of_block (w' := U.setCell ⟨ob, j, none⟩ (.int .i64 (max (MZ k j) (a2 - bb2)))) D6 (Below.heap_setCell _ _ _ _ (by simpa using hgo6))
                    have X2 := X.far (c := ob) (by have := HBW.out; omega) j (.int .i64 (max (MZ k j) (a2 - bb2)))
                    have K2 := K.setCell (p := ⟨ob, j, none⟩) (by have := HBW.out; simp; omega) (.int .i64 (max (MZ k j) (a2 - bb2)))
                    obtain ⟨x02, x12, -, -⟩ := X2.cells
                    have cI2 := IRow.cell I2 hjl
                    rw [if_pos rfl] at cI2
                    have c5j2 := D52.cell hjl
                    have c5t2 := D52.cell ht
                    rw [HA1.out] at c5j2
                    rw [HB1.out] at c5t2
                    go_wp2
                    go_roundw
                    case rel =>
                      refine ⟨j + 1, by omega, by go_num, (I2).congr (fun i hi => ?_), D52, D62, X2, K2⟩
                      by_cases e : i = j
                      · subst e
                        rw [show (if i < i + 1 then MZ (k + 1) i else MZ k i) = MZ (k + 1) i from if_pos (by omega), HSj.out]
                        have := HPj.out
                        rw [if_pos rfl, HL1.out, HL2.out]; omega
                      · rw [show (if i < j + 1 then MZ (k + 1) i else MZ k i) = (if i < j then MZ (k + 1) i else MZ k i) from by
                          by_cases e2 : i < j
                          · rw [if_pos e2, if_pos (by omega)]
                          · rw [if_neg e2, if_neg (by omega)]]
                        rw [if_neg e]
                    case measure => simp [intOf]; omega
                  · have hB1b : (a1 != -1) = true := by simpa using hB1
                    by_cases hB2 : bb1 = -1
                    · have hB2b : (bb1 != -1) = false := by rw [hB2]; rfl
                      have HL1 := Lib.hid (ld_yes hA1 hA2)
                      have HL2 := Lib.hid (ld_no1 (y := a1) hB2)
                      clear hA1 hA2 hB1 hB2
                      go_wp2_with fail
                      refine wp_region_still_tail 17 (by kernel_rfl) (by kernel_rfl) ?_
                      simp only [List.take_succ_cons, List.take_zero, List.drop_succ_cons, List.drop_zero]
                      change wpStill _ _ wr.drew (fun a' => wpList _ _ _ _ a' wr.drew) _ _
                      replace I := OwnAt.of_block (w' := wr.drew) I rfl
                      replace D5 := OwnAt.of_block (w' := wr.drew) D5 rfl
                      replace D6 := OwnAt.of_block (w' := wr.drew) D6 rfl
                      replace X : Pair wr.drew w.heap.size 32 (.slice (some ad) ps.length ca) (.slice B rs.length cb) := X
                      replace K := K.drew
                      clear x0 x1 cI c5j c5t c6j c6t
                      generalize wr.drew = U at I D5 D6 X K ⊢
                      obtain ⟨x0, x1, -, -⟩ := X.cells
                      have cI := IRow.cell I hjl
                      rw [if_neg (Nat.lt_irrefl j)] at cI
                      have fI := IRow.frozen I j
                      have c5j := D5.cell hjl
                      have c5t := D5.cell ht
                      have c6j := D6.cell hjl
                      have c6t := D6.cell ht
                      rw [HA1.out] at c5j
                      rw [HB1.out] at c5t
                      rw [HA2.out] at c6j
                      rw [HB2.out] at c6t
                      repeat still_step
                      refine wpStill_nil ?_
                      have I2 := IRow.set I j (max (MZ k j) (a2 - bb2))
                      have D52 := OwnAt.of_block (w' := U.setCell ⟨ob, j, none⟩ (.int .i64 (max (MZ k j) (a2 - bb2)))) D5 (Below.heap_setCell _ _ _ _ (by simpa using hgo5))
                      have D62 := OwnAt.of_block (w' := U.setCell ⟨ob, j, none⟩ (.int .i64 (max (MZ k j) (a2 - bb2)))) D6 (Below.heap_setCell _ _ _ _ (by simpa using hgo6))
                      have X2 := X.far (c := ob) (by have := HBW.out; omega) j (.int .i64 (max (MZ k j) (a2 - bb2)))
                      have K2 := K.setCell (p := ⟨ob, j, none⟩) (by have := HBW.out; simp; omega) (.int .i64 (max (MZ k j) (a2 - bb2)))
                      obtain ⟨x02, x12, -, -⟩ := X2.cells
                      have cI2 := IRow.cell I2 hjl
                      rw [if_pos rfl] at cI2
                      have c5j2 := D52.cell hjl
                      have c5t2 := D52.cell ht
                      rw [HA1.out] at c5j2
                      rw [HB1.out] at c5t2
                      go_wp2
                      go_roundw
                      case rel =>
                        refine ⟨j + 1, by omega, by go_num, (I2).congr (fun i hi => ?_), D52, D62, X2, K2⟩
                        by_cases e : i = j
                        · subst e
                          rw [show (if i < i + 1 then MZ (k + 1) i else MZ k i) = MZ (k + 1) i from if_pos (by omega), HSj.out]
                          have := HPj.out
                          rw [if_pos rfl, HL1.out, HL2.out]; omega
                        · rw [show (if i < j + 1 then MZ (k + 1) i else MZ k i) = (if i < j then MZ (k + 1) i else MZ k i) from by
                            by_cases e2 : i < j
                            · rw [if_pos e2, if_pos (by omega)]
                            · rw [if_neg e2, if_neg (by omega)]]
                          rw [if_neg e]
                      case measure => simp [intOf]; omega
                    · have hB2b : (bb1 != -1) = true := by simpa using hB2
                      have HL1 := Lib.hid (ld_yes hA1 hA2)
                      have HL2 := Lib.hid (ld_yes hB2 hB1)
                      clear hA1 hA2 hB1 hB2
                      go_wp2_with fail
                      refine wp_region_still_tail 17 (by kernel_rfl) (by kernel_rfl) ?_
                      simp only [List.take_succ_cons, List.take_zero, List.drop_succ_cons, List.drop_zero]
                      change wpStill _ _ wr.drew (fun a' => wpList _ _ _ _ a' wr.drew) _ _
                      replace I := OwnAt.of_block (w' := wr.drew) I rfl
                      replace D5 := OwnAt.of_block (w' := wr.drew) D5 rfl
                      replace D6 := OwnAt.of_block (w' := wr.drew) D6 rfl
                      replace X : Pair wr.drew w.heap.size 32 (.slice (some ad) ps.length ca) (.slice B rs.length cb) := X
                      replace K := K.drew
                      clear x0 x1 cI c5j c5t c6j c6t
                      generalize wr.drew = U at I D5 D6 X K ⊢
                      obtain ⟨x0, x1, -, -⟩ := X.cells
                      have cI := IRow.cell I hjl
                      rw [if_neg (Nat.lt_irrefl j)] at cI
                      have fI := IRow.frozen I j
                      have c5j := D5.cell hjl
                      have c5t := D5.cell ht
                      have c6j := D6.cell hjl
                      have c6t := D6.cell ht
                      rw [HA1.out] at c5j
                      rw [HB1.out] at c5t
                      rw [HA2.out] at c6j
                      rw [HB2.out] at c6t
                      repeat still_step
                      refine wpStill_nil ?_
                      have I2 := IRow.set I j (max (MZ k j) (a2 - bb2))
                      have D52 := OwnAt.of_block (w' := U.setCell ⟨ob, j, none⟩ (.int .i64 (max (MZ k j) (a2 - bb2)))) D5 (Below.heap_setCell _ _ _ _ (by simpa using hgo5))
                      have D62 := OwnAt.of_block (w' := U.setCell ⟨ob, j, none⟩ (.int .i64 (max (MZ k j) (a2 - bb2)))) D6 (Below.heap_setCell _ _ _ _ (by simpa using hgo6))
                      have X2 := X.far (c := ob) (by have := HBW.out; omega) j (.int .i64 (max (MZ k j) (a2 - bb2)))
                      have K2 := K.setCell (p := ⟨ob, j, none⟩) (by have := HBW.out; simp; omega) (.int .i64 (max (MZ k j) (a2 - bb2)))
                      obtain ⟨x02, x12, -, -⟩ := X2.cells
                      have cI2 := IRow.cell I2 hjl
                      rw [if_pos rfl] at cI2
                      have c5j2 := D52.cell hjl
                      have c5t2 := D52.cell ht
                      rw [HA1.out] at c5j2
                      rw [HB1.out] at c5t2
                      go_wp2_with fail
                      obtain ⟨V, hV⟩ : ∃ V, V = U.setCell ⟨ob, j, none⟩ (.int .i64 (max (MZ k j) (a2 - bb2))) := ⟨_, rfl⟩
                      rw [← hV] at I2 D52 D62 X2 K2 ⊢
                      clear hV I D5 D6 X K x0 x1 cI fI c5j c5t c6j c6t x02 x12 cI2 c5j2 c5t2
                      have I := I2
                      have D5 := D52
                      have D6 := D62
                      have X := X2
                      have K := K2
                      clear I2 D52 D62 X2 K2
                      obtain ⟨nv, hnv⟩ : ∃ nv, nv = (max (MZ k j) (a2 - bb2)) := ⟨_, rfl⟩
                      rw [← hnv] at I
                      have HNV := Lib.hid hnv
                      clear hnv
                      refine wp_region_still_tail 17 (by kernel_rfl) (by kernel_rfl) ?_
                      simp only [List.take_succ_cons, List.take_zero, List.drop_succ_cons, List.drop_zero]
                      change wpStill _ _ V.drew (fun a' => wpList _ _ _ _ a' V.drew) _ _
                      replace I := OwnAt.of_block (w' := V.drew) I rfl
                      replace D5 := OwnAt.of_block (w' := V.drew) D5 rfl
                      replace D6 := OwnAt.of_block (w' := V.drew) D6 rfl
                      replace X : Pair V.drew w.heap.size 32 (.slice (some ad) ps.length ca) (.slice B rs.length cb) := X
                      replace K := K.drew
                      generalize V.drew = U' at I D5 D6 X K ⊢
                      obtain ⟨x0, x1, -, -⟩ := X.cells
                      have cI := IRow.cell I hjl
                      rw [if_pos rfl] at cI
                      have fI := IRow.frozen I j
                      have c5j := D5.cell hjl
                      have c5t := D5.cell ht
                      have c6j := D6.cell hjl
                      have c6t := D6.cell ht
                      rw [HA1.out] at c5j
                      rw [HB1.out] at c5t
                      rw [HA2.out] at c6j
                      rw [HB2.out] at c6t
                      repeat still_step
                      refine wpStill_nil ?_
                      have I2 := IRow.set I j (max nv (bb1 - a1))
                      have D52 := OwnAt.of_block (w' := U'.setCell ⟨ob, j, none⟩ (.int .i64 (max nv (bb1 - a1)))) D5 (Below.heap_setCell _ _ _ _ (by simpa using hgo5))
                      have D62 := OwnAt.of_block (w' := U'.setCell ⟨ob, j, none⟩ (.int .i64 (max nv (bb1 - a1)))) D6 (Below.heap_setCell _ _ _ _ (by simpa using hgo6))
                      have X2 := X.far (c := ob) (by have := HBW.out; omega) j (.int .i64 (max nv (bb1 - a1)))
                      have K2 := K.setCell (p := ⟨ob, j, none⟩) (by have := HBW.out; simp; omega) (.int .i64 (max nv (bb1 - a1)))
                      go_wp2
                      go_roundw
                      case rel =>
                        refine ⟨j + 1, by omega, by go_num, (I2).congr (fun i hi => ?_), D52, D62, X2, K2⟩
                        by_cases e : i = j
                        · subst e
                          rw [show (if i < i + 1 then MZ (k + 1) i else MZ k i) = MZ (k + 1) i from if_pos (by omega), HSj.out]
                          have := HPj.out
                          rw [if_pos rfl, HL1.out, HL2.out]
                          have := HNV.out
                          omega
                        · rw [show (if i < j + 1 then MZ (k + 1) i else MZ k i) = (if i < j then MZ (k + 1) i else MZ k i) from by
                            by_cases e2 : i < j
                            · rw [if_pos e2, if_pos (by omega)]
                            · rw [if_neg e2, if_neg (by omega)]]
                          rw [if_neg e, if_neg e]
                      case measure => simp [intOf]; omega
            · obtain rfl : j = ps.length := by omega
              have IN : IRow wr ob ps.length (MZ (k + 1)) := I.congr (fun i hi => by rw [if_pos hi])
              obtain ⟨x0, x1, -, -⟩ := X.cells
              clear I D5 D6
              go_wp2
              go_roundw
              case rel => exact ⟨k + 1, by omega, by go_num, IN, X, K⟩
              case measure => simp [intOf]; omega
        · obtain rfl : k = zs.length := by omega
          have hkw := HKW.out
          have hob := HOB.out
          clear X
          go_wp2
          go_ret
          rw [HQ.out]
          exact irow_intsFit (by omega) I K

theorem specMark_fit (ad : Addr) (B C : Option Addr) (ca cb cc : Nat) (ps : List (Int × Int)) (rs : List A3) (t : Int) (zs : List Int) (w : World) (hn : ps.length ≤ 1048576) (hm : rs.length ≤ 1048576) (hk : zs.length ≤ 1048576) (ha : IsPts w (some ad) ps) (hb : IsArcs w B rs) (hzz : IsInts w C zs) :
    Calls Try.prog 89 #[.agg #[.slice (some ad) ps.length ca, .slice B rs.length cb], .int .i64 t, .slice C zs.length cc] w (IntsFit w (markP ps rs t zs)) := by
  by_cases h : netB ps rs = false ∨ btB t 0 ((ps.length : Int) - 1) = false ∨ 8 < zs.length
  · exact specMark_no ad B C ca cb cc ps rs t zs w hn hm hk ha hb hzz h
  · have hb' : ∀ b : Bool, ¬ b = false → b = true := fun b hb => by cases b <;> simp_all
    have h1 := hb' _ (fun e => h (.inl e))
    have h2 := hb' _ (fun e => h (.inr (.inl e)))
    have h3 : ¬ 8 < zs.length := fun e => h (.inr (.inr e))
    obtain ⟨T, rfl, hT⟩ := node_is h2
    exact specMark_yes ad B C ca cb cc ps rs T zs w hn hm hk ha hb hzz h1 hT (by omega)

theorem specMark_any (ad : Addr) (B C : Option Addr) (ca cb cc : Nat) (ps : List (Int × Int)) (rs : List A3) (t : Int) (zs : List Int) (w : World) (hn : ps.length ≤ 1048576) (hm : rs.length ≤ 1048576) (hk : zs.length ≤ 1048576) (ha : IsPts w (some ad) ps) (hb : IsArcs w B rs) (hzz : IsInts w C zs) :
    Calls Try.prog 89 #[.agg #[.slice (some ad) ps.length ca, .slice B rs.length cb], .int .i64 t, .slice C zs.length cc] w (IntsMade w (markP ps rs t zs)) :=
  (specMark_fit ad B C ca cb cc ps rs t zs w hn hm hk ha hb hzz).mono fun _ _ h => h.made

end Go.Proofs.Ytcaamhoakhgnhaa
