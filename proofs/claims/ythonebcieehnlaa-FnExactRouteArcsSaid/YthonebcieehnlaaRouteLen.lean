/-
  What spec.RouteArcs, spec.RouteLen and impl.RouteLen compute.
-/
import Derived.Test.YthonebcieehnlaaRouteIm
import Derived.Test.YthonebcieehnlaaDistTop
namespace Go.Proofs.Ythonebcieehnlaa
open Go.RowKit Go.Deep

attribute [local go_sem] Oper.semAt_some noPanic_normal noPanic_ret

/-- The loop's head in spec.RouteArcs: what has been collected, the network's box, what lay. -/
def ArcsRel (w wr : World) (A B : Option Addr) (n ca m cb : Nat) (rs : List A3) (zs : List Int) (v : Value) (k : Nat) : Prop :=
  wr.ownsRow (w.heap.size + 1) 3 1 v k ((upto (arcK rs zs) k).map (Value.int .i64)) ∧ NtS w w.heap.size (.slice A n ca) (.slice B m cb) wr ∧ w.heap.size < wr.heap.size

set_option maxRecDepth 100000 in
set_option maxHeartbeats 4000000 in
theorem specRouteArcs_any (A B : Option Addr) (ca cb : Nat) (ps : List (Int × Int)) (rs : List A3) (R : Option Addr) (cr : Nat) (zs : List Int) (w : World) (hn : ps.length ≤ 1048576) (hm : rs.length ≤ 1048576) (hz : zs.length ≤ 1048576) (ha : IsPts w A ps) (hb : IsArcs w B rs) (hi : IsInts w R zs) :
    Calls Try.prog 31 #[.agg #[.slice A ps.length ca, .slice B rs.length cb], .slice R zs.length cr] w (IntsMade w (rtA ps rs zs)) := by
  obtain ⟨i0, hi0, hz0, hz1, hz2⟩ := info_parts Try.infoInt
  have X := (Pair.new w 27 (.slice A ps.length ca) (.slice B rs.length cb)).alloc (.cells #[] 3)
  have K := below2 w (.cells #[.slice A ps.length ca, .slice B rs.length cb] 27) (.cells #[] 3)
  have O : ((w.alloc (.cells #[.slice A ps.length ca, .slice B rs.length cb] 27)).alloc (.cells #[] 3)).ownsRow (w.heap.size + 1) 3 1 (.slice (some ⟨w.heap.size + 1, 0, none⟩) 0 0) 0 [] :=
    ⟨rfl, .inr ⟨w.heap.size + 1, 0, #[], rfl, by omega, by have := heap_alloc_new (w.alloc (.cells #[.slice A ps.length ca, .slice B rs.length cb] 27)) (.cells #[] 3); simpa using this, Nat.le_refl _, Nat.zero_le _, rfl, rfl⟩⟩
  have HR := Lib.hid (fun W hb' => specRouteOk_any A B ca cb ps rs R cr zs W hn hm hz (ha.below hb') (hb.below hb') (hi.below hb'))
  cases hq : rtB ps rs zs with
  | false =>
    rw [hq] at HR
    have HQ := Lib.hid (rtA_no hq)
    go_enter Try.func31, Try.ntmps31
    go_wp2_with fail
    refine (HR.out _ K).mono ?_; rintro e w1 ⟨rfl, b1⟩
    replace K := K.trans (b1.mono K.size)
    clear b1 X O
    go_wp2
    go_ret
    exact intsMade_nil HQ.out _ _ K
  | true =>
    rw [hq] at HR
    have h0 : 0 < zs.length := (rtB_iff.1 hq).2.1
    have HQ := Lib.hid (rtA_yes hq)
    go_enter Try.func31, Try.ntmps31
    go_wp2_with fail
    refine (HR.out _ K).mono ?_; rintro e w1 ⟨rfl, b1⟩
    have R0 : ArcsRel w w1 A B ps.length ca rs.length cb rs zs (.slice (some ⟨w.heap.size + 1, 0, none⟩) 0 0) 0 := ⟨ownsRow_below O b1, ⟨(X.below b1).cells.1, (X.below b1).cells.2.1, K.trans (b1.mono K.size)⟩, by have := (X.below b1).lt; omega⟩
    clear X K O b1 HR
    go_wp2
    go_loopw [5, 6] (fun v i wr => ∃ k : Nat, k < zs.length ∧ i = .int .i64 ((k + 1 : Nat) : Int) ∧ ArcsRel w wr A B ps.length ca rs.length cb rs zs v k) (fun _ i _ => zs.length - (intOf i).toNat)
    case atStart => exact ⟨0, by omega, rfl, R0⟩
    case round =>
      clear R0
      obtain ⟨j, hj, rfl, O, X, hsz⟩ := hrel
      by_cases hlt : j + 1 < zs.length
      · obtain ⟨k, hjk⟩ : ∃ k, k = j + 1 := ⟨_, rfl⟩
        rw [← hjk] at hlt ⊢
        have hwr : IntKind.i64.wrap ((k : Int) - 1) = j := by rw [show (k : Int) - 1 = j by omega]; exact IntWalk.i64_in _ (by omega)
        have hd : decide ((k : Int) < zs.length) = true := decide_eq_true (by omega)
        have hd' : decide (k < zs.length) = true := decide_eq_true (by omega)
        have hj2 : (j : Int) < zs.length := by omega
        obtain ⟨zb, zo, rfl, hzb, -⟩ := hi.at_ hj
        obtain ⟨b1, o1, e1, -, z0⟩ := (hi.below (NtS.bel X)).at_ hj
        cases e1
        obtain ⟨b1, o1, e1, -, z1⟩ := (hi.below (NtS.bel X)).at_ hlt
        cases e1
        have HJK := Lib.hid hjk
        have HF := Lib.hid (show findA rs (zg zs j) (zg zs k) = arcK rs zs j by rw [hjk]; rfl)
        have T : RtS w w.heap.size (.slice A ps.length ca) (.slice B rs.length cb) zb (zo + j) (zg zs j) (zo + k) (zg zs k) wr := ⟨X.1, X.2.1, z0, z1, X.2.2⟩
        clear z0 z1 hjk
        -- REGION BEGINS
        have Od : wr.drew.ownsRow (w.heap.size + 1) 3 1 u5 j ((upto (arcK rs zs) j).map (Value.int .i64)) := O
        clear O X
        go_wp2_with fail
        refine wp_region_held_drew (S := (fun w' => RtS w w.heap.size (.slice A ps.length ca) (.slice B rs.length cb) zb (zo + j) (zg zs j) (zo + k) (zg zs k) w')) (by kernel_rfl) ?_ (fun hHeld => ?_)
        · exact RtS.drew T
        clear T
        refine wpAnyH_take (i := 0) (oi := ⟨some 19, _, _, _, _, _⟩) (v := u5) rfl (by kernel_rfl) (by kernel_rfl) (by kernel_rfl) (fun _ _ _ h => h) (Or.inl ⟨by rfl, fun w' hw => ?hy⟩) hHeld ?_
        case hy => (try dsimp only at hw); go_simp
        simp only [Act.put, List.setIfInBounds_toArray, List.set_cons_zero, List.set_cons_succ]
        refine wpAnyH_take (i := 1) (oi := ⟨some 20, _, _, _, _, _⟩) (v := .agg #[.slice A ps.length ca, .slice B rs.length cb]) rfl (by kernel_rfl) (by kernel_rfl) (by kernel_rfl) (fun _ _ _ h => h) (Or.inl ⟨by rfl, fun w' hw => ?hy⟩) hHeld ?_
        case hy => (try dsimp only at hw); go_simp
        simp only [Act.put, List.setIfInBounds_toArray, List.set_cons_zero, List.set_cons_succ]
        refine wpAnyH_take (i := 2) (oi := ⟨some 21, _, _, _, _, _⟩) (v := .slice (some ⟨zb, zo, none⟩) zs.length cr) rfl (by kernel_rfl) (by kernel_rfl) (by kernel_rfl) (fun _ _ _ h => h) (Or.inl ⟨by rfl, fun w' hw => ?hy⟩) hHeld ?_
        case hy => (try dsimp only at hw); go_simp
        simp only [Act.put, List.setIfInBounds_toArray, List.set_cons_zero, List.set_cons_succ]
        refine wpAnyH_take (i := 3) (oi := ⟨some 22, _, _, _, _, _⟩) (v := .int .i64 (k : Int)) rfl (by kernel_rfl) (by kernel_rfl) (by kernel_rfl) (fun _ _ _ h => h) (Or.inl ⟨by rfl, fun w' hw => ?hy⟩) hHeld ?_
        case hy => (try dsimp only at hw); go_simp
        simp only [Act.put, List.setIfInBounds_toArray, List.set_cons_zero, List.set_cons_succ]
        refine wpAnyH_take (i := 4) (oi := ⟨some 23, _, _, _, _, _⟩) (v := .int .i64 (j : Int)) rfl (by kernel_rfl) (by kernel_rfl) (by kernel_rfl) (fun _ _ _ h => h) (Or.inl ⟨by rfl, fun w' hw => ?hy⟩) hHeld ?_
        case hy => (try dsimp only at hw); go_simp
        simp only [Act.put, List.setIfInBounds_toArray, List.set_cons_zero, List.set_cons_succ]
        refine wpAnyH_take (i := 5) (oi := ⟨some 24, _, _, _, _, _⟩) (v := .pointer (some ⟨zb, zo + j, none⟩)) rfl (by kernel_rfl) (by kernel_rfl) (by kernel_rfl) (fun _ _ _ h => h) (Or.inl ⟨by rfl, fun w' hw => ?hy⟩) hHeld ?_
        case hy => (try dsimp only at hw); go_simp
        simp only [Act.put, List.setIfInBounds_toArray, List.set_cons_zero, List.set_cons_succ]
        refine wpAnyH_take (i := 6) (oi := ⟨some 25, _, _, _, _, _⟩) (v := .int .i64 (zg zs j)) rfl (by kernel_rfl) (by kernel_rfl) (by kernel_rfl) (fun _ _ _ h => h) (Or.inl ⟨by rfl, fun w' hw => ?hy⟩) hHeld ?_
        case hy => (try dsimp only at hw); go_simp
        simp only [Act.put, List.setIfInBounds_toArray, List.set_cons_zero, List.set_cons_succ]
        refine wpAnyH_take (i := 7) (oi := ⟨some 26, _, _, _, _, _⟩) (v := .slice (some ⟨zb, zo, none⟩) zs.length cr) rfl (by kernel_rfl) (by kernel_rfl) (by kernel_rfl) (fun _ _ _ h => h) (Or.inl ⟨by rfl, fun w' hw => ?hy⟩) hHeld ?_
        case hy => (try dsimp only at hw); go_simp
        simp only [Act.put, List.setIfInBounds_toArray, List.set_cons_zero, List.set_cons_succ]
        refine wpAnyH_take (i := 8) (oi := ⟨some 27, _, _, _, _, _⟩) (v := .int .i64 (k : Int)) rfl (by kernel_rfl) (by kernel_rfl) (by kernel_rfl) (fun _ _ _ h => h) (Or.inl ⟨by rfl, fun w' hw => ?hy⟩) hHeld ?_
        case hy => (try dsimp only at hw); go_simp
        simp only [Act.put, List.setIfInBounds_toArray, List.set_cons_zero, List.set_cons_succ]
        refine wpAnyH_take (i := 9) (oi := ⟨some 28, _, _, _, _, _⟩) (v := .pointer (some ⟨zb, zo + k, none⟩)) rfl (by kernel_rfl) (by kernel_rfl) (by kernel_rfl) (fun _ _ _ h => h) (Or.inl ⟨by rfl, fun w' hw => ?hy⟩) hHeld ?_
        case hy => (try dsimp only at hw); go_simp
        simp only [Act.put, List.setIfInBounds_toArray, List.set_cons_zero, List.set_cons_succ]
        refine wpAnyH_take (i := 10) (oi := ⟨some 29, _, _, _, _, _⟩) (v := .int .i64 (zg zs k)) rfl (by kernel_rfl) (by kernel_rfl) (by kernel_rfl) (fun _ _ _ h => h) (Or.inl ⟨by rfl, fun w' hw => ?hy⟩) hHeld ?_
        case hy => (try dsimp only at hw); go_simp
        simp only [Act.put, List.setIfInBounds_toArray, List.set_cons_zero, List.set_cons_succ]
        refine wpAnyH_ready (rs := [11]) (by kernel_rfl) (by simp) ?_
        refine AllReadyH.cons (o := ⟨some 30, _, _, _, _, _⟩) rfl (fun K hK => ?_) AllReadyH.nil
        go_simp
        refine (l05Arc_any A B ca cb ps rs _ _ _ hm (hb.below (RtS.bel hHeld))).mono ?_; rw [HF.out]; rintro e w3 ⟨rfl, b3⟩
        go_wp2_with fail
        refine hK.out _ _ ?_ (fun hHeld => ?_)
        · exact RtS.under b3 hHeld
        clear hK K
        try simp only [Act.put, List.setIfInBounds_toArray, List.set_cons_zero, List.set_cons_succ]
        have O3 := ownsRow_below Od b3
        have hs3 := b3.size
        have hsz3 : w.heap.size < w3.heap.size := by have := b3.size; simp at this; omega
        have HX := Lib.hid hHeld
        clear Od b3 hs3
        refine wpAnyH_ready (rs := [12]) (by kernel_rfl) (by simp) ?_
        refine AllReadyH.cons (o := ⟨some 31, _, _, _, _, _⟩) rfl (fun K hK => ?_) AllReadyH.nil
        go_simp
        refine hK.out _ _ ?_ (fun hHeld => ?_)
        · exact RtS.under (below1 w3 (.cells #[.int .i64 (arcK rs zs j)] 3)) hHeld
        clear hK K
        try simp only [Act.put, List.setIfInBounds_toArray, List.set_cons_zero, List.set_cons_succ]
        refine wpAnyH_ready (rs := [13]) (by kernel_rfl) (by simp) ?_
        refine AllReadyH.cons (o := ⟨some 32, _, _, _, _, _⟩) rfl (fun K hK => ?_) AllReadyH.nil
        refine step_append_lies _ rfl (.tmp 19) (.tmp 31) 30 rfl (w.heap.size + 1) 3 i0 (.int .i64 0) 1 8 Try.underlying30 hi0 hz0 hz1 hz2 rfl (by decide) _ j _ rfl (O3.alloc _) ⟨w3.heap.size, 0, none⟩ 1 1 [.int .i64 (arcK rs zs j)] rfl rfl (cell_one_new _ _ _) (by intro u hu; simp at hu; subst hu; rfl) (by decide) (by unfold maxLen; omega) (by omega) (by simp; omega) _ rfl ?_
        intro g' cap' w4 own4 g4 _ _
        have hown := ownsRow_block O3
        have B4 : Below (w.heap.size + 1) w3 w4 := ((Below.refl _ w3).alloc (by omega) _).grown g4 (by simp; omega) (fun g e => by have := hown g e; omega)
        have X4 : RtS w w.heap.size (.slice A ps.length ca) (.slice B rs.length cb) zb (zo + j) (zg zs j) (zo + k) (zg zs k) w4 := ⟨(B4.cell (p := ⟨w.heap.size, 0, none⟩) (by simp)).trans HX.out.1, (B4.cell (p := ⟨w.heap.size, 1, none⟩) (by simp)).trans HX.out.2.1, (B4.cell (p := ⟨zb, zo + j, none⟩) (by simp; omega)).trans HX.out.2.2.1, (B4.cell (p := ⟨zb, zo + k, none⟩) (by simp; omega)).trans HX.out.2.2.2.1, HX.out.2.2.2.2.trans (B4.mono (by omega))⟩
        have hs4 : w.heap.size < w4.heap.size := by have := B4.size; omega
        have own5 : w4.ownsRow (w.heap.size + 1) 3 1 (.slice (some ⟨g', 0, none⟩) (j + 1) cap') (j + 1) ((upto (arcK rs zs) (j + 1)).map (Value.int .i64)) := by rw [upto_succ, List.map_append]; exact own4
        clear own4 g4 B4 HX O3 hown hHeld
        refine hK.out _ _ ?_ (fun hHeld => ?_)
        · exact X4
        clear hK K
        refine wpAnyH_take (i := 14) (oi := ⟨some 5, _, _, _, _, _⟩) (v := .slice (some ⟨g', 0, none⟩) (j + 1) cap') rfl (by kernel_rfl) (by kernel_rfl) (by kernel_rfl) (fun _ _ _ h => h) (Or.inl ⟨by rfl, fun w' hw => ?hy⟩) hHeld ?_
        case hy => (try dsimp only at hw); go_simp
        simp only [Act.put, List.setIfInBounds_toArray, List.set_cons_zero, List.set_cons_succ]
        refine wpAnyH_done (by kernel_rfl) ?_ _
        replace X4 := RtS.net X4
        clear hHeld
        go_wp2
        go_roundw
        case rel => exact ⟨j + 1, by have := HJK.out; omega, by have := HJK.out; rw [this]; go_num, own5, X4, hs4⟩
        case measure => simp [intOf]; omega
        -- REGION ENDS
      · have hd : decide (((j + 1 : Nat) : Int) < zs.length) = false := decide_eq_false (by omega)
        have hd' : decide (j + 1 < zs.length) = false := decide_eq_false (by omega)
        have hd2 : decide ((j : Int) + 1 < zs.length) = false := decide_eq_false (by omega)
        have K := NtS.bel X
        obtain rfl : j = zs.length - 1 := by omega
        go_wp2
        go_ret
        rw [HQ.out]
        have hl : (alongL rs zs).length = zs.length - 1 := alongL_len rs zs
        exact intsMade_of (by rw [hl]; exact ownsRow_base O (by omega)) K

end Go.Proofs.Ythonebcieehnlaa
