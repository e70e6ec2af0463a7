/-
  What spec.Both computes.
-/
import Derived.Test.YtcaamhoakhgnhaaFoundAll
import Derived.Test.YtcaamhoakhgnhaaBetAll
import Derived.OwnWalk
namespace Go.Proofs.Ytcaamhoakhgnhaa
open Go.RowKit Go.Deep Go.Maps

/-- A network in its box, and nothing older has turned. -/
abbrev NetS (W0 : World) (b : Nat) (u v : Value) (w : World) : Prop := w.cell? ⟨b, 0, none⟩ = some u ∧ w.cell? ⟨b, 1, none⟩ = some v ∧ Below W0.heap.size W0 w
theorem NetS.under {W0 : World} {b : Nat} {u v : Value} {w w' : World} (hb : Below w.heap.size w w') (h : NetS W0 b u v w) : NetS W0 b u v w' := ⟨cell_under hb h.1, cell_under hb h.2.1, h.2.2.trans (hb.mono h.2.2.size)⟩
set_option maxRecDepth 100000 in
set_option maxHeartbeats 2000000 in
theorem specBoth_no (ad : Addr) (B : Option Addr) (ca cb : Nat) (ps : List (Int × Int)) (rs : List A3) (s t : Int) (w : World) (hn : ps.length ≤ 1048576) (hm : rs.length ≤ 1048576) (ha : IsPts w (some ad) ps) (hb : IsArcs w B rs) (h : dB ps rs s t = -1) :
    Calls Try.prog 8 #[.agg #[.slice (some ad) ps.length ca, .slice B rs.length cb], .int .i64 s, .int .i64 t] w fun e w' => e = .returned (bothV ps rs s t) ∧ Below w.heap.size w w' := by
  rw [bothV_no h]
  have HD := Lib.hid h
  clear h
  have K := below1 w (.cells #[.slice (some ad) ps.length ca, .slice B rs.length cb] 32)
  go_enter Try.func8, Try.ntmps8
  go_wp2_with fail
  refine (specBetween_any (some ad) B ca cb ps rs s t _ hn hm (ha.below K) (hb.below K)).mono ?_; rw [HD.out]; rintro e w1 ⟨rfl, b1⟩
  replace K := K.trans (b1.mono K.size)
  clear b1
  go_wp2
  go_ret3
  exact ⟨rfl, K⟩

set_option maxRecDepth 1000000 in
set_option maxHeartbeats 8000000 in
theorem specBoth_yes (ad : Addr) (B : Option Addr) (ca cb : Nat) (ps : List (Int × Int)) (rs : List A3) (S T : Nat) (w : World) (hn : ps.length ≤ 1048576) (hm : rs.length ≤ 1048576) (ha : IsPts w (some ad) ps) (hb : IsArcs w B rs) (h1 : netB ps rs = true) (hS : S < ps.length) (hT : T < ps.length) (h : dB ps rs S T ≠ -1) :
    Calls Try.prog 8 #[.agg #[.slice (some ad) ps.length ca, .slice B rs.length cb], .int .i64 (S : Int), .int .i64 (T : Int)] w fun e w' => e = .returned (bothV ps rs S T) ∧ Below w.heap.size w w' := by
  obtain ⟨h20, h70, -, -⟩ := netB_iff.1 h1
  have HN := Lib.hid h1
  have HR := Lib.hid (arcsIn_net h1)
  have HTS := Lib.hid (turn_arcs h1).1
  have hdb := dB_yes h1 hS hT
  have HQ := Lib.hid (bothV_yes h)
  have BN := bothN_of h1 hS hT
  have HEX := Lib.hid (BN.mid (by rw [← hdb]; exact h))
  have HMI := Lib.hid (fun (v : Nat) (hv : v < ps.length) g1 g2 => midB_is (rs := rs) (ts := turnL rs) (S := S) (T := T) hv g1 g2)
  have HON := Lib.hid (fun (v : Nat) => onB_iff (n := ps.length) (rs := rs) (ts := turnL rs) (S := S) (T := T) (v := v))
  rw [← hdb] at HON
  clear BN hdb h1
  generalize midB ps.length rs (turnL rs) S T = M at HQ HEX HMI
  obtain ⟨TL, hTL⟩ : ∃ TL, TL = turnL rs := ⟨_, rfl⟩
  have HTE : Hid (turnL rs = TL) := Lib.hid hTL.symm
  rw [← hTL] at HTS HEX HMI HON
  have htl : TL.length ≤ 70 := by rw [hTL]; exact (netB_iff.1 (turn_valid HN.out)).2.1
  clear hTL
  have HDL1 := Lib.hid (dst_len ps.length rs S)
  have HDL2 := Lib.hid (dst_len ps.length TL T)
  have HD1 := Lib.hid (fun i (hi : i < ps.length) => dst_val h20 hS HR.out (v := i) hi)
  have HD2 := Lib.hid (fun i (hi : i < ps.length) => dst_val h20 hT HTS.out (v := i) hi)
  obtain ⟨d, hd⟩ : ∃ d, d = dB ps rs S T := ⟨_, rfl⟩
  have HDD := Lib.hid hd.symm
  rw [← hd] at HQ HON h
  have hdq : (d == -1) = false := by simpa using h
  clear hd h
  have X := Pair.new w 32 (.slice (some ad) ps.length ca) (.slice B rs.length cb)
  have K := below1 w (.cells #[.slice (some ad) ps.length ca, .slice B rs.length cb] 32)
  go_enter Try.func8, Try.ntmps8
  go_wp2_with fail
  refine (specBetween_any (some ad) B ca cb ps rs (S : Int) (T : Int) _ hn hm (ha.below K) (hb.below K)).mono ?_; rw [HDD.out]; rintro e w1 ⟨rfl, b1⟩
  replace K := K.trans (b1.mono K.size)
  replace X := X.below b1
  clear b1
  obtain ⟨x0, x1, -, -⟩ := X.cells
  have TS : NetS w w.heap.size (.slice (some ad) ps.length ca) (.slice B rs.length cb) w1.drew := ⟨x0, x1, K.drew⟩
  have kdw : Below w1.heap.size w1 w1.drew := (Below.refl _ w1).drew
  go_wp2_with fail
  refine wp_region_held_drew (S := (fun w' => NetS w w.heap.size (.slice (some ad) ps.length ca) (.slice B rs.length cb) w')) (by kernel_rfl) ?_ (fun hHeld => ?_)
  · exact TS
  clear TS
  refine wpAnyH_take (i := 0) (oi := ⟨some 19, _, _, _, _, _⟩) (v := .agg #[.slice (some ad) ps.length ca, .slice B rs.length cb]) rfl (by kernel_rfl) (by kernel_rfl) (by kernel_rfl) (fun _ _ _ h => h) (Or.inl ⟨by rfl, fun w' hw => ?hy⟩) hHeld ?_
  case hy => (try dsimp only at hw); go_simp
  simp only [Act.put, List.setIfInBounds_toArray, List.set_cons_zero, List.set_cons_succ]
  refine wpAnyH_take (i := 1) (oi := ⟨some 20, _, _, _, _, _⟩) (v := .int .i64 (S : Int)) rfl (by kernel_rfl) (by kernel_rfl) (by kernel_rfl) (fun _ _ _ h => h) (Or.inl ⟨by rfl, fun w' hw => ?hy⟩) hHeld ?_
  case hy => (try dsimp only at hw); go_simp
  simp only [Act.put, List.setIfInBounds_toArray, List.set_cons_zero, List.set_cons_succ]
  refine wpAnyH_take (i := 3) (oi := ⟨some 22, _, _, _, _, _⟩) (v := .agg #[.slice (some ad) ps.length ca, .slice B rs.length cb]) rfl (by kernel_rfl) (by kernel_rfl) (by kernel_rfl) (fun _ _ _ h => h) (Or.inl ⟨by rfl, fun w' hw => ?hy⟩) hHeld ?_
  case hy => (try dsimp only at hw); go_simp
  simp only [Act.put, List.setIfInBounds_toArray, List.set_cons_zero, List.set_cons_succ]
  refine wpAnyH_take (i := 5) (oi := ⟨some 24, _, _, _, _, _⟩) (v := .int .i64 (T : Int)) rfl (by kernel_rfl) (by kernel_rfl) (by kernel_rfl) (fun _ _ _ h => h) (Or.inl ⟨by rfl, fun w' hw => ?hy⟩) hHeld ?_
  case hy => (try dsimp only at hw); go_simp
  simp only [Act.put, List.setIfInBounds_toArray, List.set_cons_zero, List.set_cons_succ]
  refine wpAnyH_ready (rs := [2]) (by kernel_rfl) (by simp) ?_
  refine AllReadyH.cons (o := ⟨some 21, _, _, _, _, _⟩) rfl (fun K hK => ?_) AllReadyH.nil
  go_simp
  refine (l04From_any (some ad) B ca cb ps.length S rs _ h20 h70 hS HR.out (hb.below hHeld.2.2)).mono ?_; rintro e w3 ⟨A5, c5, rfl, hc5, O5, b3⟩
  rw [HDL1.out] at hc5 O5 ⊢
  go_wp2_with fail
  refine hK.out _ _ ?_ (fun hHeld => ?_)
  · exact NetS.under b3 hHeld
  clear hK K
  try simp only [Act.put, List.setIfInBounds_toArray, List.set_cons_zero, List.set_cons_succ]
  refine wpAnyH_ready (rs := [4]) (by kernel_rfl) (by simp) ?_
  refine AllReadyH.cons (o := ⟨some 23, _, _, _, _, _⟩) rfl (fun K hK => ?_) AllReadyH.nil
  go_simp
  refine (specTurned_yes ad B ca cb ps rs _ hn hm (ha.below hHeld.2.2) (hb.below hHeld.2.2) HN.out).mono ?_; rintro e w4 ⟨A4, B4, ca4, cb4, rfl, OP4, OR4, -, b4⟩
  go_wp2_with fail
  refine hK.out _ _ ?_ (fun hHeld => ?_)
  · exact NetS.under b4 hHeld
  clear hK K
  try simp only [Act.put, List.setIfInBounds_toArray, List.set_cons_zero, List.set_cons_succ]
  have R4 := own_arcs OR4
  rw [HTE.out] at R4 ⊢
  clear OP4 OR4
  refine wpAnyH_ready (rs := [6]) (by kernel_rfl) (by simp) ?_
  refine AllReadyH.cons (o := ⟨some 25, _, _, _, _, _⟩) rfl (fun K hK => ?_) AllReadyH.nil
  go_simp
  refine (l04From_any A4 B4 ca4 cb4 ps.length T TL _ h20 htl hT HTS.out R4).mono ?_; rintro e w5 ⟨A6, c6, rfl, hc6, O6, b5⟩
  rw [HDL2.out] at hc6 O6 ⊢
  go_wp2_with fail
  refine hK.out _ _ ?_ (fun hHeld => ?_)
  · exact NetS.under b5 hHeld
  clear hK K
  try simp only [Act.put, List.setIfInBounds_toArray, List.set_cons_zero, List.set_cons_succ]
  refine wpAnyH_take (i := 7) (oi := ⟨some 10, _, _, _, _, _⟩) (v := .slice A5 ps.length c5) rfl (by kernel_rfl) (by kernel_rfl) (by kernel_rfl) (fun _ _ _ h => h) (Or.inl ⟨by rfl, fun w' hw => ?hy⟩) hHeld ?_
  case hy => (try dsimp only at hw); go_simp
  simp only [Act.put, List.setIfInBounds_toArray, List.set_cons_zero, List.set_cons_succ]
  refine wpAnyH_take (i := 8) (oi := ⟨some 11, _, _, _, _, _⟩) (v := .slice A6 ps.length c6) rfl (by kernel_rfl) (by kernel_rfl) (by kernel_rfl) (fun _ _ _ h => h) (Or.inl ⟨by rfl, fun w' hw => ?hy⟩) hHeld ?_
  case hy => (try dsimp only at hw); go_simp
  simp only [Act.put, List.setIfInBounds_toArray, List.set_cons_zero, List.set_cons_succ]
  refine wpAnyH_done (by kernel_rfl) ?_ _
  have k3 := kdw.trans (b3.mono kdw.size)
  have k4 := k3.trans (b4.mono k3.size)
  have k5 := k4.trans (b5.mono k4.size)
  replace X := X.below k5
  replace K := K.trans (k5.mono K.size)
  obtain ⟨g5, o5, rfl, hg5, D5⟩ := O5 (by omega)
  obtain ⟨g6, o6, rfl, hg6, D6⟩ := O6 (by omega)
  replace D5 := (D5.below b4).below b5
  clear O5 O6 b3 b4 b5 hHeld kdw k3 k4 k5 x0 x1 HDL1 HDL2 hg5 hg6 R4 HTE
  obtain ⟨x0, x1, -, -⟩ := X.cells
  generalize dst ps.length rs S = d1 at D5 HD1 HON
  generalize dst ps.length TL T = d2 at D6 HD2 HON
  go_wp2
  go_loopw [12] (fun vi wr => ∃ i m : Nat, i ≤ ps.length ∧ vi = .int .i64 i ∧ Hid (∀ j, j < i → onB ps.length rs TL S T j = false) ∧ wr = w5.drewN m) (fun i _ => ps.length - (intOf i).toNat)
  case atStart => exact ⟨0, 0, by omega, rfl, Lib.hid (fun j hj => by omega), rfl⟩
  case round =>
    obtain ⟨i, m, hi, rfl, HJ, rfl⟩ := hrel
    by_cases hlt : i < ps.length
    · have hili : (i : Int) < ps.length := by omega
      have c5 := D5.cell hlt
      have c6 := D6.cell hlt
      have HV1 := Lib.hid (HD1.out i hlt)
      have HV2 := Lib.hid (HD2.out i hlt)
      have HO := Lib.hid (HON.out i)
      have HM := Lib.hid (fun g => HMI.out i hlt g HJ.out)
      have HNX : Hid (onB ps.length rs TL S T i = false → ∀ j, j < i + 1 → onB ps.length rs TL S T j = false) := Lib.hid (fun g j hj => by
        by_cases e : j = i
        · rw [e]; exact g
        · exact HJ.out j (by omega))
      generalize zg d1 i = x at c5 HV1 HO
      generalize zg d2 i = y at c6 HV2 HO
      have HF : Hid (¬ (x ≠ -1 ∧ y ≠ -1 ∧ x + y = d) → onB ps.length rs TL S T i = false) := Lib.hid (fun g => by
        cases e : onB ps.length rs TL S T i with
        | false => rfl
        | true => exact absurd (HO.out.1 e) g)
      by_cases hx : x = -1
      · have HJ2 := Lib.hid (HNX.out (HF.out (fun g => g.1 hx)))
        have hx1 : (x != -1) = false := by simpa using hx
        clear hx x1
        go_wp2_with fail
        go_quiet (fail)
        go_wp2
        go_roundw
        case rel => exact ⟨i + 1, m + nq, by omega, by go_num, HJ2, by first | rfl | exact World.drewN_add _ _ _ | simp⟩
        case measure => simp [intOf]; omega
      · have hx1 : (x != -1) = true := by simpa using hx
        have hxb : 0 ≤ x ∧ x ≤ 200000 := by rcases HV1.out with g | g; exact absurd g hx; exact g
        by_cases hy : y = -1
        · have HJ2 := Lib.hid (HNX.out (HF.out (fun g => g.2.1 hy)))
          have hy1 : (y != -1) = false := by simpa using hy
          clear hx hy x1
          go_wp2_with fail
          go_quiet (fail)
          go_wp2
          go_roundw
          case rel => exact ⟨i + 1, m + nq, by omega, by go_num, HJ2, by first | rfl | exact World.drewN_add _ _ _ | simp⟩
          case measure => simp [intOf]; omega
        · have hy1 : (y != -1) = true := by simpa using hy
          have hyb : 0 ≤ y ∧ y ≤ 200000 := by rcases HV2.out with g | g; exact absurd g hy; exact g
          have hwr : IntKind.i64.wrap (x + y) = x + y := by rw [IntWalk.i64_left]; unfold wrap64; omega
          by_cases hz : x + y = d
          · have HM2 := Lib.hid (HM.out (HO.out.2 ⟨hx, hy, hz⟩))
            have hz1 : (x + y == d) = true := by simpa using hz
            have K8 := K.trans ((below_drewN (Below.refl w5.heap.size w5) m).mono K.size)
            have HQ2 : Hid (bothV ps rs S T = .tuple #[.int .i64 d, .int .i64 (i : Int), .bool true]) := Lib.hid (by rw [HQ.out, HM2.out])
            clear hx hy hz x1
            go_wp2_with fail
            go_quiet (fail)
            go_wp2
            go_ret3
            rw [HQ2.out]
            exact ⟨rfl, K8.trans ((below_drewN (Below.refl _ (w5.drewN m)) nq).mono K8.size)⟩
          · have HJ2 := Lib.hid (HNX.out (HF.out (fun g => hz g.2.2)))
            have hz1 : (x + y == d) = false := by simpa using hz
            clear hx hy hz x1
            go_wp2_with fail
            go_quiet (fail)
            go_wp2
            go_roundw
            case rel => exact ⟨i + 1, m + nq, by omega, by go_num, HJ2, by first | rfl | exact World.drewN_add _ _ _ | simp⟩
            case measure => simp [intOf]; omega
    · obtain rfl : i = ps.length := by omega
      exfalso
      obtain ⟨q1, q2, -⟩ := HEX.out
      have := HJ.out _ q1
      rw [q2] at this; cases this

theorem specBoth_any (ad : Addr) (B : Option Addr) (ca cb : Nat) (ps : List (Int × Int)) (rs : List A3) (s t : Int) (w : World) (hn : ps.length ≤ 1048576) (hm : rs.length ≤ 1048576) (ha : IsPts w (some ad) ps) (hb : IsArcs w B rs) :
    Calls Try.prog 8 #[.agg #[.slice (some ad) ps.length ca, .slice B rs.length cb], .int .i64 s, .int .i64 t] w fun e w' => e = .returned (bothV ps rs s t) ∧ Below w.heap.size w w' := by
  by_cases h : dB ps rs s t = -1
  · exact specBoth_no ad B ca cb ps rs s t w hn hm ha hb h
  · obtain ⟨h1, S, T, rfl, rfl, hS, hT⟩ := dB_ends h
    exact specBoth_yes ad B ca cb ps rs S T w hn hm ha hb h1 hS hT h
end Go.Proofs.Ytcaamhoakhgnhaa
