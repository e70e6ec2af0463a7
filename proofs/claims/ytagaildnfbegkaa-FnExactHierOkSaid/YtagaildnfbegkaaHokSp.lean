/-
  What spec.HierOk answers: the arcs, one by one.
-/
import Derived.Test.YtagaildnfbegkaaHokSpA
import Derived.Deep.DeepCutAuto
import Derived.Deep.CutRange
namespace Go.Proofs.Ytagaildnfbegkaa
open Go.RowKit Go.Deep Go.Maps
set_option linter.unusedVariables false

open Classical in
set_option maxRecDepth 1000000 in
set_option maxHeartbeats 16000000 in
theorem specHierOk_yes (N Ar R B : Option Addr) (cn ca cr cb : Nat) (ps : List (Int × Int)) (rs : List A3) (zs : List Int) (hs : List A4) (w : World) (hn : ps.length ≤ 1048576) (hm : rs.length ≤ 1048576) (hz : zs.length ≤ 1048576) (hh : hs.length ≤ 1048576)
    (hP : IsPts w N ps) (hA : IsArcs w Ar rs) (hR : IsInts w R zs) (hH : IsHs w B hs) (hnb : netB ps rs = true) (hzp : zs.length = ps.length) (hokz : okZ zs) (h4 : ¬ 400 < hs.length) :
    Calls Try.prog 15 #[.agg #[.slice N ps.length cn, .slice Ar rs.length ca], .agg #[.slice R zs.length cr, .slice B hs.length cb]] w fun e w' => e = .returned (.bool (hierB ps rs zs hs)) ∧ Below w.heap.size w w' := by
  have X := (Pair.new w 49 (.slice N ps.length cn) (.slice Ar rs.length ca)).alloc (.cells #[.slice R zs.length cr, .slice B hs.length cb] 27)
  have Y : Pair ((w.alloc (.cells #[.slice N ps.length cn, .slice Ar rs.length ca] 49)).alloc (.cells #[.slice R zs.length cr, .slice B hs.length cb] 27)) (w.heap.size + 1) 27 (.slice R zs.length cr) (.slice B hs.length cb) := by
    have := Pair.new (w.alloc (.cells #[.slice N ps.length cn, .slice Ar rs.length ca] 49)) 27 (.slice R zs.length cr) (.slice B hs.length cb); rwa [World.size_alloc] at this
  have K := below2 w (.cells #[.slice N ps.length cn, .slice Ar rs.length ca] 49) (.cells #[.slice R zs.length cr, .slice B hs.length cb] 27)
  have HI1 : Hid (netB ps rs = false → hierB ps rs zs hs = false) := Lib.hid (fun h => hierB_no (fun p => by rw [p.1] at h; cases h))
  have HI2 : Hid (¬ zs.length = ps.length → hierB ps rs zs hs = false) := Lib.hid (fun h => hierB_no (fun p => h p.2.1))
  have HI2' : Hid (¬ okZ zs → hierB ps rs zs hs = false) := Lib.hid (fun h => hierB_no (fun p => h p.2.2.1))
  have HI3 : Hid (400 < hs.length → hierB ps rs zs hs = false) := Lib.hid (fun h => hierB_no (fun p => by have := p.2.2.2.1; omega))
  have HI5 : Hid (∀ i, i < hs.length → ¬ harcP rs zs hs i → hierB ps rs zs hs = false) := Lib.hid (fun i hi h => hierB_no (fun p => h (p.2.2.2.2 i hi)))
  have HI6 : Hid (∀ i, i < hs.length → (hasc hs hs.length → ¬ explP rs zs hs (hcg hs i)) → hierB ps rs zs hs = false) := Lib.hid (fun i hi h => hierB_no (fun p => h (hierP_asc p) (p.2.2.2.2 i hi).2.2.2.2.2))
  have HI7 : Hid (∀ i, i < hs.length → (hok zs.length hs → hasc hs hs.length → explP rs zs hs (hcg hs i) → False) → hierB ps rs zs hs = false) := Lib.hid (fun i hi h => hierB_no (fun p => h (hierP_hok p) (hierP_asc p) (p.2.2.2.2 i hi).2.2.2.2.2))
  have HYES : Hid (netB ps rs = true → zs.length = ps.length → okZ zs → hs.length ≤ 400 → spJ rs zs hs hs.length → hierB ps rs zs hs = true) := Lib.hid (fun h1 h2 h3 h4 h5 => hierB_yes ⟨h1, h2, h3, h4, spJ_all h5⟩)
  generalize hierB ps rs zs hs = q at *
  obtain ⟨x0, x1, -, -⟩ := X.cells
  obtain ⟨y0, y1, -, -⟩ := Y.cells
  obtain ⟨W, hW⟩ : ∃ W, W = (w.alloc (.cells #[.slice N ps.length cn, .slice Ar rs.length ca] 49)).alloc (.cells #[.slice R zs.length cr, .slice B hs.length cb] 27) := ⟨_, rfl⟩
  rw [← hW] at x0 x1 y0 y1 K
  have HW := Lib.hid hW
  have T0 : HbS w w.heap.size (w.heap.size + 1) (.slice N ps.length cn) (.slice Ar rs.length ca) (.slice R zs.length cr) (.slice B hs.length cb) W.drew := HbS.under (Below.refl _ _).drew ⟨x0, x1, y0, y1, K⟩
  clear hW X Y x0 x1 y0 y1 K
  have HNB := Lib.hid hnb
  have h20 := (netB_iff.1 hnb).1
  have hne0 : ((zs.length : Int) == (ps.length : Int)) = true := beq_iff_eq.2 (by omega)
  have hne2 : (zs.length : Int) = (ps.length : Int) := by omega
  have hne1 : (zs.length == ps.length) = true := by simpa using hzp
  have HZP := Lib.hid hzp
  obtain ⟨M, hM⟩ : ∃ M, M = (rkd zs (ps.length : Int)).length := ⟨_, rfl⟩
  have HM := Lib.hid hM.symm
  have hMp : M = ps.length := by rw [hM, ← hzp, rkd_yes hokz, rowZ_len]
  have hm0 : ((M : Int) == (ps.length : Int)) = true := beq_iff_eq.2 (by omega)
  have hm2 : (M : Int) = (ps.length : Int) := by omega
  have hm1 : (M == ps.length) = true := by simpa using hMp
  have HOK := Lib.hid hokz
  clear HI1 HI2 HI2' hzp hokz hM hMp hnb
  have hd4 : ¬ (400 : Int) < hs.length := by omega
  have hd5 : decide ((400 : Int) < hs.length) = false := decide_eq_false hd4
  go_enter Try.func15, Try.ntmps15
  go_wp2_with fail
  rw [← HW.out]
  refine wp_region_held_drew (S := (fun w' => HbS w w.heap.size (w.heap.size + 1) (.slice N ps.length cn) (.slice Ar rs.length ca) (.slice R zs.length cr) (.slice B hs.length cb) w')) (by kernel_rfl) ?_ (fun hHeld => ?_)
  · exact T0
  clear T0
  refine wpAnyH_take (i := 0) (oi := ⟨some 10, _, _, _, _, _⟩) (v := .agg #[.slice N ps.length cn, .slice Ar rs.length ca]) rfl (by kernel_rfl) (by kernel_rfl) (by kernel_rfl) (fun _ _ _ h => h) (Or.inl ⟨by rfl, fun w' hw => ?hy⟩) hHeld ?_
  case hy => (try dsimp only at hw); go_simp
  simp only [Act.put, List.setIfInBounds_toArray, List.set_cons_zero, List.set_cons_succ]
  refine wpAnyH_ready (rs := [1]) (by kernel_rfl) (by simp) ?_
  refine AllReadyH.cons (o := ⟨some 11, _, _, _, _, _⟩) rfl (fun K hK => ?_) AllReadyH.nil
  go_simp
  refine (specNetOk_any N Ar cn ca ps rs _ hn hm (hP.below (HbS.bel hHeld)) (hA.below (HbS.bel hHeld))).mono ?_; rw [HNB.out]; rintro e w1 ⟨rfl, b1⟩
  go_wp2_with fail
  refine hK.out _ _ ?_ (fun hHeld => ?_)
  · exact HbS.under b1 hHeld
  clear hK K
  try simp only [Act.put, List.setIfInBounds_toArray, List.set_cons_zero, List.set_cons_succ]
  refine wpAnyH_take (i := 2) (oi := ⟨some 12, _, _, _, _, _⟩) (v := .bool false) rfl (by kernel_rfl) (by kernel_rfl) (by kernel_rfl) (fun _ _ _ h => h) (Or.inl ⟨by rfl, fun w' hw => ?hy⟩) hHeld ?_
  case hy => (try dsimp only at hw); go_simp
  simp only [Act.put, List.setIfInBounds_toArray, List.set_cons_zero, List.set_cons_succ]
  refine wpAnyH_take (i := 3) (oi := ⟨some 13, _, _, _, _, _⟩) (v := .bool false) rfl (by kernel_rfl) (by kernel_rfl) (by kernel_rfl) (fun _ _ _ h => h) (Or.inl ⟨by rfl, fun w' hw => ?hy⟩) hHeld ?_
  case hy => (try dsimp only at hw); go_simp
  simp only [Act.put, List.setIfInBounds_toArray, List.set_cons_zero, List.set_cons_succ]
  refine wpAnyH_take (i := 4) (oi := ⟨some 14, _, _, _, _, _⟩) (v := .pointer (some ⟨w.heap.size + 1, 0, none⟩)) rfl (by kernel_rfl) (by kernel_rfl) (by kernel_rfl) (fun _ _ _ h => h) (Or.inl ⟨by rfl, fun w' hw => ?hy⟩) hHeld ?_
  case hy => (try dsimp only at hw); go_simp
  simp only [Act.put, List.setIfInBounds_toArray, List.set_cons_zero, List.set_cons_succ]
  refine wpAnyH_take (i := 5) (oi := ⟨some 15, _, _, _, _, _⟩) (v := .slice R zs.length cr) rfl (by kernel_rfl) (by kernel_rfl) (by kernel_rfl) (fun _ _ _ h => h) (Or.inl ⟨by rfl, fun w' hw => ?hy⟩) hHeld ?_
  case hy => (try dsimp only at hw); go_simp
  simp only [Act.put, List.setIfInBounds_toArray, List.set_cons_zero, List.set_cons_succ]
  refine wpAnyH_take (i := 6) (oi := ⟨some 16, _, _, _, _, _⟩) (v := .int .i64 (zs.length : Int)) rfl (by kernel_rfl) (by kernel_rfl) (by kernel_rfl) (fun _ _ _ h => h) (Or.inl ⟨by rfl, fun w' hw => ?hy⟩) hHeld ?_
  case hy => (try dsimp only at hw); go_simp
  simp only [Act.put, List.setIfInBounds_toArray, List.set_cons_zero, List.set_cons_succ]
  refine wpAnyH_take (i := 7) (oi := ⟨some 17, _, _, _, _, _⟩) (v := .pointer (some ⟨w.heap.size, 0, none⟩)) rfl (by kernel_rfl) (by kernel_rfl) (by kernel_rfl) (fun _ _ _ h => h) (Or.inl ⟨by rfl, fun w' hw => ?hy⟩) hHeld ?_
  case hy => (try dsimp only at hw); go_simp
  simp only [Act.put, List.setIfInBounds_toArray, List.set_cons_zero, List.set_cons_succ]
  refine wpAnyH_take (i := 8) (oi := ⟨some 18, _, _, _, _, _⟩) (v := .slice N ps.length cn) rfl (by kernel_rfl) (by kernel_rfl) (by kernel_rfl) (fun _ _ _ h => h) (Or.inl ⟨by rfl, fun w' hw => ?hy⟩) hHeld ?_
  case hy => (try dsimp only at hw); go_simp
  simp only [Act.put, List.setIfInBounds_toArray, List.set_cons_zero, List.set_cons_succ]
  refine wpAnyH_take (i := 9) (oi := ⟨some 19, _, _, _, _, _⟩) (v := .int .i64 (ps.length : Int)) rfl (by kernel_rfl) (by kernel_rfl) (by kernel_rfl) (fun _ _ _ h => h) (Or.inl ⟨by rfl, fun w' hw => ?hy⟩) hHeld ?_
  case hy => (try dsimp only at hw); go_simp
  simp only [Act.put, List.setIfInBounds_toArray, List.set_cons_zero, List.set_cons_succ]
  refine wpAnyH_take (i := 10) (oi := ⟨some 20, _, _, _, _, _⟩) (v := .bool false) rfl (by kernel_rfl) (by kernel_rfl) (by kernel_rfl) (fun _ _ _ h => h) (Or.inl ⟨by rfl, fun w' hw => ?hy⟩) hHeld ?_
  case hy => (try dsimp only at hw); go_simp
  simp only [Act.put, List.setIfInBounds_toArray, List.set_cons_zero, List.set_cons_succ]
  refine wpAnyH_take (i := 11) (oi := ⟨some 21, _, _, _, _, _⟩) (v := .bool false) rfl (by kernel_rfl) (by kernel_rfl) (by kernel_rfl) (fun _ _ _ h => h) (Or.inl ⟨by rfl, fun w' hw => ?hy⟩) hHeld ?_
  case hy => (try dsimp only at hw); go_simp
  simp only [Act.put, List.setIfInBounds_toArray, List.set_cons_zero, List.set_cons_succ]
  refine wpAnyH_take (i := 12) (oi := ⟨some 22, _, _, _, _, _⟩) (v := .bool false) rfl (by kernel_rfl) (by kernel_rfl) (by kernel_rfl) (fun _ _ _ h => h) (Or.inl ⟨by rfl, fun w' hw => ?hy⟩) hHeld ?_
  case hy => (try dsimp only at hw); go_simp
  simp only [Act.put, List.setIfInBounds_toArray, List.set_cons_zero, List.set_cons_succ]
  refine wpAnyH_take (i := 13) (oi := ⟨some 23, _, _, _, _, _⟩) (v := .pointer (some ⟨w.heap.size + 1, 0, none⟩)) rfl (by kernel_rfl) (by kernel_rfl) (by kernel_rfl) (fun _ _ _ h => h) (Or.inl ⟨by rfl, fun w' hw => ?hy⟩) hHeld ?_
  case hy => (try dsimp only at hw); go_simp
  simp only [Act.put, List.setIfInBounds_toArray, List.set_cons_zero, List.set_cons_succ]
  refine wpAnyH_take (i := 14) (oi := ⟨some 24, _, _, _, _, _⟩) (v := .slice R zs.length cr) rfl (by kernel_rfl) (by kernel_rfl) (by kernel_rfl) (fun _ _ _ h => h) (Or.inl ⟨by rfl, fun w' hw => ?hy⟩) hHeld ?_
  case hy => (try dsimp only at hw); go_simp
  simp only [Act.put, List.setIfInBounds_toArray, List.set_cons_zero, List.set_cons_succ]
  refine wpAnyH_take (i := 15) (oi := ⟨some 25, _, _, _, _, _⟩) (v := .pointer (some ⟨w.heap.size, 0, none⟩)) rfl (by kernel_rfl) (by kernel_rfl) (by kernel_rfl) (fun _ _ _ h => h) (Or.inl ⟨by rfl, fun w' hw => ?hy⟩) hHeld ?_
  case hy => (try dsimp only at hw); go_simp
  simp only [Act.put, List.setIfInBounds_toArray, List.set_cons_zero, List.set_cons_succ]
  refine wpAnyH_take (i := 16) (oi := ⟨some 26, _, _, _, _, _⟩) (v := .slice N ps.length cn) rfl (by kernel_rfl) (by kernel_rfl) (by kernel_rfl) (fun _ _ _ h => h) (Or.inl ⟨by rfl, fun w' hw => ?hy⟩) hHeld ?_
  case hy => (try dsimp only at hw); go_simp
  simp only [Act.put, List.setIfInBounds_toArray, List.set_cons_zero, List.set_cons_succ]
  refine wpAnyH_take (i := 17) (oi := ⟨some 27, _, _, _, _, _⟩) (v := .int .i64 (ps.length : Int)) rfl (by kernel_rfl) (by kernel_rfl) (by kernel_rfl) (fun _ _ _ h => h) (Or.inl ⟨by rfl, fun w' hw => ?hy⟩) hHeld ?_
  case hy => (try dsimp only at hw); go_simp
  simp only [Act.put, List.setIfInBounds_toArray, List.set_cons_zero, List.set_cons_succ]
  refine wpAnyH_take (i := 20) (oi := ⟨some 30, _, _, _, _, _⟩) (v := .pointer (some ⟨w.heap.size, 0, none⟩)) rfl (by kernel_rfl) (by kernel_rfl) (by kernel_rfl) (fun _ _ _ h => h) (Or.inl ⟨by rfl, fun w' hw => ?hy⟩) hHeld ?_
  case hy => (try dsimp only at hw); go_simp
  simp only [Act.put, List.setIfInBounds_toArray, List.set_cons_zero, List.set_cons_succ]
  refine wpAnyH_take (i := 21) (oi := ⟨some 31, _, _, _, _, _⟩) (v := .slice N ps.length cn) rfl (by kernel_rfl) (by kernel_rfl) (by kernel_rfl) (fun _ _ _ h => h) (Or.inl ⟨by rfl, fun w' hw => ?hy⟩) hHeld ?_
  case hy => (try dsimp only at hw); go_simp
  simp only [Act.put, List.setIfInBounds_toArray, List.set_cons_zero, List.set_cons_succ]
  refine wpAnyH_take (i := 22) (oi := ⟨some 32, _, _, _, _, _⟩) (v := .int .i64 (ps.length : Int)) rfl (by kernel_rfl) (by kernel_rfl) (by kernel_rfl) (fun _ _ _ h => h) (Or.inl ⟨by rfl, fun w' hw => ?hy⟩) hHeld ?_
  case hy => (try dsimp only at hw); go_simp
  simp only [Act.put, List.setIfInBounds_toArray, List.set_cons_zero, List.set_cons_succ]
  refine wpAnyH_ready (rs := [18]) (by kernel_rfl) (by simp) ?_
  refine AllReadyH.cons (o := ⟨some 28, _, _, _, _, _⟩) rfl (fun K hK => ?_) AllReadyH.nil
  go_simp
  refine (specRanked_any R cr zs (ps.length : Int) _ hz (hR.below (HbS.bel hHeld))).mono ?_; rintro e w2 ⟨A2, c2, rfl, -, -, b2⟩
  rw [HM.out]
  go_wp2_with fail
  refine hK.out _ _ ?_ (fun hHeld => ?_)
  · exact HbS.under b2 hHeld
  clear hK K
  try simp only [Act.put, List.setIfInBounds_toArray, List.set_cons_zero, List.set_cons_succ]
  refine wpAnyH_take (i := 19) (oi := ⟨some 29, _, _, _, _, _⟩) (v := .int .i64 (M : Int)) rfl (by kernel_rfl) (by kernel_rfl) (by kernel_rfl) (fun _ _ _ h => h) (Or.inl ⟨by rfl, fun w' hw => ?hy⟩) hHeld ?_
  case hy => (try dsimp only at hw); go_simp
  simp only [Act.put, List.setIfInBounds_toArray, List.set_cons_zero, List.set_cons_succ]
  refine wpAnyH_take (i := 23) (oi := ⟨some 33, _, _, _, _, _⟩) (v := .bool false) rfl (by kernel_rfl) (by kernel_rfl) (by kernel_rfl) (fun _ _ _ h => h) (Or.inl ⟨by rfl, fun w' hw => ?hy⟩) hHeld ?_
  case hy => (try dsimp only at hw); go_simp
  simp only [Act.put, List.setIfInBounds_toArray, List.set_cons_zero, List.set_cons_succ]
  refine wpAnyH_take (i := 24) (oi := ⟨some 34, _, _, _, _, _⟩) (v := .bool false) rfl (by kernel_rfl) (by kernel_rfl) (by kernel_rfl) (fun _ _ _ h => h) (Or.inl ⟨by rfl, fun w' hw => ?hy⟩) hHeld ?_
  case hy => (try dsimp only at hw); go_simp
  simp only [Act.put, List.setIfInBounds_toArray, List.set_cons_zero, List.set_cons_succ]
  refine wpAnyH_take (i := 25) (oi := ⟨some 35, _, _, _, _, _⟩) (v := .bool false) rfl (by kernel_rfl) (by kernel_rfl) (by kernel_rfl) (fun _ _ _ h => h) (Or.inl ⟨by rfl, fun w' hw => ?hy⟩) hHeld ?_
  case hy => (try dsimp only at hw); go_simp
  simp only [Act.put, List.setIfInBounds_toArray, List.set_cons_zero, List.set_cons_succ]
  refine wpAnyH_take (i := 26) (oi := ⟨some 36, _, _, _, _, _⟩) (v := .pointer (some ⟨w.heap.size + 1, 1, none⟩)) rfl (by kernel_rfl) (by kernel_rfl) (by kernel_rfl) (fun _ _ _ h => h) (Or.inl ⟨by rfl, fun w' hw => ?hy⟩) hHeld ?_
  case hy => (try dsimp only at hw); go_simp
  simp only [Act.put, List.setIfInBounds_toArray, List.set_cons_zero, List.set_cons_succ]
  refine wpAnyH_take (i := 27) (oi := ⟨some 37, _, _, _, _, _⟩) (v := .slice B hs.length cb) rfl (by kernel_rfl) (by kernel_rfl) (by kernel_rfl) (fun _ _ _ h => h) (Or.inl ⟨by rfl, fun w' hw => ?hy⟩) hHeld ?_
  case hy => (try dsimp only at hw); go_simp
  simp only [Act.put, List.setIfInBounds_toArray, List.set_cons_zero, List.set_cons_succ]
  refine wpAnyH_take (i := 28) (oi := ⟨some 38, _, _, _, _, _⟩) (v := .int .i64 (hs.length : Int)) rfl (by kernel_rfl) (by kernel_rfl) (by kernel_rfl) (fun _ _ _ h => h) (Or.inl ⟨by rfl, fun w' hw => ?hy⟩) hHeld ?_
  case hy => (try dsimp only at hw); go_simp
  simp only [Act.put, List.setIfInBounds_toArray, List.set_cons_zero, List.set_cons_succ]
  refine wpAnyH_take (i := 29) (oi := ⟨some 39, _, _, _, _, _⟩) (v := .bool false) rfl (by kernel_rfl) (by kernel_rfl) (by kernel_rfl) (fun _ _ _ h => h) (Or.inl ⟨by rfl, fun w' hw => ?hy⟩) hHeld ?_
  case hy => (try dsimp only at hw); go_simp
  simp only [Act.put, List.setIfInBounds_toArray, List.set_cons_zero, List.set_cons_succ]
  refine wpAnyH_take (i := 30) (oi := ⟨some 40, _, _, _, _, _⟩) (v := .bool false) rfl (by kernel_rfl) (by kernel_rfl) (by kernel_rfl) (fun _ _ _ h => h) (Or.inl ⟨by rfl, fun w' hw => ?hy⟩) hHeld ?_
  case hy => (try dsimp only at hw); go_simp
  simp only [Act.put, List.setIfInBounds_toArray, List.set_cons_zero, List.set_cons_succ]
  refine wpAnyH_done (by kernel_rfl) ?_ _
  clear HI3 hne0 hne1 hne2 hm0 hm1 hm2 HM HW hd5
  obtain ⟨x0, x1, y0, y1, K⟩ := hHeld
  have T0 : HbS w w.heap.size (w.heap.size + 1) (.slice N ps.length cn) (.slice Ar rs.length ca) (.slice R zs.length cr) (.slice B hs.length cb) w2 := ⟨x0, x1, y0, y1, K⟩
  clear b2 x0 x1 y0 y1 K
  have hcast : (zs.length : Int) = (ps.length : Int) := by rw [HZP.out]
  have HJ0 : Hid (spJ rs zs hs 0) := Lib.hid (fun i hi => by omega)
  go_wp2
  go_loopw [5] (fun vi wr => ∃ k : Nat, k ≤ hs.length ∧ vi = .int .i64 k ∧ Hid (spJ rs zs hs k) ∧ HbS w w.heap.size (w.heap.size + 1) (.slice N ps.length cn) (.slice Ar rs.length ca) (.slice R zs.length cr) (.slice B hs.length cb) wr) (fun i _ => hs.length - (intOf i).toNat)
  case atStart => exact ⟨0, by omega, rfl, HJ0, T0⟩
  case round =>
    clear HJ0 T0
    obtain ⟨k, hk, rfl, HJ, TB⟩ := hrel
    by_cases hlt : k < hs.length
    rotate_left
    · obtain rfl : k = hs.length := by omega
      have HE := Lib.hid (HYES.out HNB.out HZP.out HOK.out (by omega) HJ.out)
      obtain ⟨x0, x1, y0, y1, KK⟩ := TB
      go_wp2
      go_ret
      exact ⟨retBo HE.out.symm, KK⟩
    have hki : (k : Int) < hs.length := by omega
    obtain ⟨x0, x1, y0, y1, K⟩ := TB
    obtain ⟨b, off, rfl, -, c0, c1, c2, c3⟩ := (hH.below K).at_ hlt
    have HA1 : Hid (btB (hcg hs k).1 0 ((ps.length : Int) - 1) = false → q = false) := Lib.hid (fun h => HI5.out k hlt (fun p => by have := p.1; rw [hcast, h] at this; cases this))
    have HA2 : Hid (btB (hcg hs k).2.1 0 ((ps.length : Int) - 1) = false → q = false) := Lib.hid (fun h => HI5.out k hlt (fun p => by have := p.2.1; rw [hcast, h] at this; cases this))
    have HA3 : Hid ((hcg hs k).1 = (hcg hs k).2.1 → q = false) := Lib.hid (fun h => HI5.out k hlt (fun p => p.2.2.1 h))
    have HA4 : Hid (btB (hcg hs k).2.2.1 1 1000000 = false → q = false) := Lib.hid (fun h => HI5.out k hlt (fun p => by have := p.2.2.2.1; rw [h] at this; cases this))
    have HA5 : Hid (∀ j, j + 1 = k → hltB (hcg hs j) (hcg hs k) = false → q = false) := Lib.hid (fun j hj h => HI5.out k hlt (fun p => by
      rcases p.2.2.2.2.1 with g | g
      · omega
      · rw [show k - 1 = j by omega, h] at g; cases g))
    have HA7 := Lib.hid (HI7.out k hlt)
    have HNX : Hid (btB (hcg hs k).1 0 ((zs.length : Int) - 1) = true → btB (hcg hs k).2.1 0 ((zs.length : Int) - 1) = true → (hcg hs k).1 ≠ (hcg hs k).2.1 → btB (hcg hs k).2.2.1 1 1000000 = true → (k = 0 ∨ hltB (hcg hs (k - 1)) (hcg hs k) = true) → (hok zs.length hs → explP rs zs hs (hcg hs k)) → spJ rs zs hs (k + 1)) := Lib.hid (fun h1 h2 h3 h4 h5 h6 i hi => by
      by_cases e : i = k
      · subst e; exact ⟨h1, h2, h3, h4, h5, h6⟩
      · exact HJ.out i (by omega))
    have HPV : Hid (∀ j, j + 1 = k → k - 1 = j) := Lib.hid (fun j hj => by omega)
    have kv := below1 wr (.cells #[.int .i64 (hcg hs k).1, .int .i64 (hcg hs k).2.1, .int .i64 (hcg hs k).2.2.1, .int .i64 (hcg hs k).2.2.2] 77)
    have Q : QuadH (wr.alloc (.cells #[.int .i64 (hcg hs k).1, .int .i64 (hcg hs k).2.1, .int .i64 (hcg hs k).2.2.1, .int .i64 (hcg hs k).2.2.2] 77)) wr.heap.size 77 (.int .i64 (hcg hs k).1) (.int .i64 (hcg hs k).2.1) (.int .i64 (hcg hs k).2.2.1) (.int .i64 (hcg hs k).2.2.2) := heap_alloc_new _ _
    obtain ⟨a0, a1, a2, a3⟩ := Q.cells
    have KK := K.trans (kv.mono K.size)
    have T : HkS w w.heap.size (w.heap.size + 1) w.heap.size wr.heap.size (.slice N ps.length cn) (.slice Ar rs.length ca) (.slice R zs.length cr) (.slice (some ⟨b, off, none⟩) hs.length cb) (.slice N ps.length cn) (.slice Ar rs.length ca) (hcg hs k).1 (hcg hs k).2.1 (hcg hs k).2.2.1 (hcg hs k).2.2.2 _ := ⟨cell_under kv x0, cell_under kv x1, cell_under kv y0, cell_under kv y1, cell_under kv x0, cell_under kv x1, a0, a1, a2, a3, KK⟩
    clear kv Q
    have hx0 := T.1
    have hx1 := T.2.1
    generalize hak : hcg hs k = a at *
    obtain ⟨f, t, l, v⟩ := a
    dsimp only at *
    go_wp2_with fail
    clear x0 x1 y0 y1 a0 a1 a2 a3 c0 c1 c2 c3 KK K hx0 hx1
    refine (l04Node_any N Ar ps.length rs.length cn ca f _ hn).mono ?_; rintro e w3 ⟨rfl, b3⟩
    replace T := HkS.under b3 T
    clear b3
    cases e1 : btB f 0 ((ps.length : Int) - 1) with
    | false =>
      have HE := Lib.hid (HA1.out e1)
      clear HA1 HA2 HA3 HA4 HA5 HA7 HNX
      obtain ⟨x0, x1, y0, y1, -, -, a0, a1, a2, a3, KK⟩ := T
      go_wp2
      go_ret
      exact ⟨retBo HE.out.symm, KK⟩
    | true =>
    obtain ⟨F, rfl, hFp⟩ := node_is e1
    have HE1 : Hid (btB (F : Int) 0 ((zs.length : Int) - 1) = true) := Lib.hid (by rw [hcast]; exact e1)
    have hFn : F < zs.length := by omega
    clear HA1 e1
    have T2 := T
    obtain ⟨x0, x1, y0, y1, -, -, a0, a1, a2, a3, KK⟩ := T
    have T := T2
    clear T2 KK
    go_wp2_with fail
    clear x0 x1 y0 y1 a0 a1 a2 a3
    refine (l04Node_any N Ar ps.length rs.length cn ca t _ hn).mono ?_; rintro e w4 ⟨rfl, b4⟩
    replace T := HkS.under b4 T
    clear b4
    cases e2 : btB t 0 ((ps.length : Int) - 1) with
    | false =>
      have HE := Lib.hid (HA2.out e2)
      clear HA2 HA3 HA4 HA5 HA7 HNX
      obtain ⟨x0, x1, y0, y1, -, -, a0, a1, a2, a3, KK⟩ := T
      go_wp2
      go_ret
      exact ⟨retBo HE.out.symm, KK⟩
    | true =>
    obtain ⟨Tn, rfl, hTp⟩ := node_is e2
    have HE2 : Hid (btB (Tn : Int) 0 ((zs.length : Int) - 1) = true) := Lib.hid (by rw [hcast]; exact e2)
    have hTn : Tn < zs.length := by omega
    clear HA2 e2
    have T2 := T
    obtain ⟨x0, x1, y0, y1, -, -, a0, a1, a2, a3, KK⟩ := T
    have T := T2
    clear T2
    by_cases hft : (F : Int) = (Tn : Int)
    · have HE := Lib.hid (HA3.out hft)
      have hff : ((F : Int) == (Tn : Int)) = true := beq_iff_eq.2 hft
      have hff2 : (F == Tn) = true := beq_iff_eq.2 (by omega)
      have hff3 : F = Tn := by omega
      clear HA3 HA4 HA5 HA7 HNX
      go_wp2
      go_ret
      exact ⟨retBo HE.out.symm, KK⟩
    have HE3 := Lib.hid hft
    have hff : ((F : Int) == (Tn : Int)) = false := beq_eq_false_iff_ne.2 hft
    have hff2 : (F == Tn) = false := beq_eq_false_iff_ne.2 (by omega)
    have hff3 : ¬ F = Tn := by omega
    clear HA3 hft KK
    go_wp2_with fail
    clear x0 x1 y0 y1 a0 a1 a2 a3 hff hff2 hff3
    refine (between_any l 1 1000000 _).mono ?_; rintro e w' ⟨rfl, rfl⟩
    cases e4 : btB l 1 1000000 with
    | false =>
      have HE := Lib.hid (HA4.out e4)
      clear HA4 HA5 HA7 HNX
      obtain ⟨x0, x1, y0, y1, -, -, a0, a1, a2, a3, KK⟩ := T
      go_wp2
      go_ret
      exact ⟨retBo HE.out.symm, KK⟩
    | true =>
    have HE4 := Lib.hid e4
    clear HA4 e4
    have T2 := T
    obtain ⟨x0, x1, y0, y1, -, -, a0, a1, a2, a3, KK⟩ := T
    have T := T2
    clear T2
    go_wp2_with fail
    go_cut [115] from 41 to 208 (fun c wx => ∃ m : Nat, c = .bool (!(decide (k = 0) || hltB (hcg hs (k - 1)) ((F : Int), (Tn : Int), l, v))) ∧ wx = w4.drewN m)
    case first =>
      as_aux_lemma =>
      by_cases hk0 : k = 0
      · have HB : Hid ((!(decide (k = 0) || hltB (hcg hs (k - 1)) ((F : Int), (Tn : Int), l, v))) = false) := Lib.hid (by simp [hk0])
        clear HA5 HPV
        subst hk0
        go_quiet (fail)
        go_wp2
        go_meet
        case rel => exact ⟨_, congrArg Value.bool HB.out.symm, rfl⟩
      obtain ⟨j, hj⟩ : ∃ j, j + 1 = k := ⟨k - 1, by omega⟩
      have hjn : j < hs.length := by omega
      have hji : (j : Int) < hs.length := by omega
      have hkp : decide ((0 : Int) < (k : Int)) = true := decide_eq_true (by omega)
      have hkp1 : (0 : Int) < (k : Int) := by omega
      have hkp2 : 0 < k := by omega
      have hw12 : IntKind.i64.wrap ((k : Int) - 1) = (j : Int) := by rw [IntWalk.i64_left]; unfold wrap64; omega
      obtain ⟨b', off', e', -, p0, p1, p2, p3⟩ := (hH.below KK).at_ hjn
      injection e' with e'; injection e' with e1 e2; subst e1; subst e2
      have hkj := HPV.out j hj
      have HPK := Lib.hid (show hcg hs (k - 1) = hcg hs j by rw [hkj])
      have hdk : decide (k = 0) = false := decide_eq_false hk0
      have HDK := Lib.hid hdk
      clear HA5 HPV hkj p2 p3 HNX HA7 hdk
      have HJK := Lib.hid hj
      clear hj hk0
      generalize hcg hs j = p at *
      obtain ⟨pf, pt, pl, pv⟩ := p
      dsimp only at *
      by_cases g : (F : Int) < pf
      · have HB : Hid ((!(decide (k = 0) || hltB (hcg hs (k - 1)) ((F : Int), (Tn : Int), l, v))) = true) := Lib.hid (by rw [HDK.out, HPK.out]; unfold hltB; simp; omega)
        have gd : decide ((F : Int) < pf) = true := decide_eq_true g
        go_quiet (fail)
        go_wp2
        go_meet
        case rel => exact ⟨_, congrArg Value.bool HB.out.symm, rfl⟩
      have gd : decide ((F : Int) < pf) = false := decide_eq_false g
      by_cases ge : pf = (F : Int)
      · have gb : (pf == (F : Int)) = true := beq_iff_eq.2 ge
        by_cases gt : (Tn : Int) ≤ pt
        · have HB : Hid ((!(decide (k = 0) || hltB (hcg hs (k - 1)) ((F : Int), (Tn : Int), l, v))) = true) := Lib.hid (by rw [HDK.out, HPK.out]; unfold hltB; simp; omega)
          have gtd : decide ((Tn : Int) ≤ pt) = true := decide_eq_true gt
          go_quiet (fail)
          go_wp2
          go_meet
          case rel => exact ⟨_, congrArg Value.bool HB.out.symm, rfl⟩
        · have HB : Hid ((!(decide (k = 0) || hltB (hcg hs (k - 1)) ((F : Int), (Tn : Int), l, v))) = false) := Lib.hid (by rw [HDK.out, HPK.out]; unfold hltB; simp; omega)
          have gtd : decide ((Tn : Int) ≤ pt) = false := decide_eq_false gt
          go_quiet (fail)
          go_wp2
          go_meet
          case rel => exact ⟨_, congrArg Value.bool HB.out.symm, rfl⟩
      have HB : Hid ((!(decide (k = 0) || hltB (hcg hs (k - 1)) ((F : Int), (Tn : Int), l, v))) = false) := Lib.hid (by rw [HDK.out, HPK.out]; unfold hltB; simp; omega)
      have gb : (pf == (F : Int)) = false := beq_eq_false_iff_ne.2 ge
      go_quiet (fail)
      go_wp2
      go_meet
      case rel => exact ⟨_, congrArg Value.bool HB.out.symm, rfl⟩
    case rest =>
    clear x0 x1 y0 y1 a0 a1 a2 a3 KK HPV
    obtain ⟨m, rfl, hwc⟩ := hcut
    replace T := HkS.drewN T m
    rw [← hwc] at T
    clear hwc
    have T2 := T
    obtain ⟨x0, x1, y0, y1, -, -, a0, a1, a2, a3, KK⟩ := T
    have T := T2
    clear T2
    cases hod : (decide (k = 0) || hltB (hcg hs (k - 1)) ((F : Int), (Tn : Int), l, v)) with
    | false =>
      have HE : Hid (q = false) := Lib.hid (by
        have h1 : k ≠ 0 := fun e => by rw [e] at hod; simp at hod
        have h2 : hltB (hcg hs (k - 1)) ((F : Int), (Tn : Int), l, v) = false := by simpa [h1] using hod
        exact HA5.out (k - 1) (by omega) h2)
      clear HA5 HA7 HNX hod T
      go_wp2
      go_ret
      exact ⟨retBo HE.out.symm, KK⟩
    | true =>
    have HORD : Hid (k = 0 ∨ hltB (hcg hs (k - 1)) ((F : Int), (Tn : Int), l, v) = true) := Lib.hid (by
      rcases Bool.or_eq_true_iff.1 hod with h | h
      · exact .inl (of_decide_eq_true h)
      · exact .inr h)
    clear HA5 hod
    by_cases hv : v = -1
    · as_aux_lemma =>
        have hv1 : (v == -1) = true := by simpa using hv
        have HXP := Lib.hid (fun (k : findA rs (F : Int) (Tn : Int) = -1) => own_none (rs := rs) (zs := zs) (hs := hs) (a := ((F : Int), (Tn : Int), l, v)) hv k)
        have HXL := Lib.hid (fun (j : Nat) (k : findA rs (F : Int) (Tn : Int) = (j : Int)) => own_len (ps := ps) (rs := rs) (zs := zs) (hs := hs) (a := ((F : Int), (Tn : Int), l, v)) HNB.out hv k)
        clear hv
        rcases findA_or rs (F : Int) (Tn : Int) with ⟨hfa, -⟩ | ⟨j, hj, hfa, -⟩
        · have HF := Lib.hid hfa
          have HE := Lib.hid (HA7.out (fun _ _ e => HXP.out hfa e))
          clear hfa HXP HXL HA7 HNX
          obtain ⟨x0, x1, y0, y1, -, -, a0, a1, a2, a3, KK⟩ := T
          go_wp2_with fail
          refine (l05Arc_any N Ar cn ca ps rs (F : Int) (Tn : Int) _ hm (hA.below KK)).mono ?_; rw [HF.out]; rintro e w5 ⟨rfl, b5⟩
          replace KK := KK.trans (b5.mono KK.size)
          clear b5 x0 x1 y0 y1 a0 a1 a2 a3
          go_wp2_with fail
          go_quiet (fail)
          go_wp2
          go_ret
          exact ⟨retBo HE.out.symm, below_drewN KK _⟩
        · have HF := Lib.hid hfa
          have HX := Lib.hid (HXL.out j hfa).2
          have hji : (j : Int) < rs.length := by omega
          have hj0 : ¬ (j : Int) < 0 := by omega
          have hj1 : decide ((j : Int) < 0) = false := decide_eq_false hj0
          clear hfa HXP HXL
          have T2 := T
          obtain ⟨x0, x1, y0, y1, -, -, a0, a1, a2, a3, KK⟩ := T
          go_wp2_with fail
          refine (l05Arc_any N Ar cn ca ps rs (F : Int) (Tn : Int) _ hm (hA.below KK)).mono ?_; rw [HF.out]; rintro e w5 ⟨rfl, b5⟩
          have T := HkS.under b5 T2
          clear b5 x0 x1 y0 y1 a0 a1 a2 a3 KK T2
          have T2 := T
          obtain ⟨x0, x1, y0, y1, -, -, a0, a1, a2, a3, KK⟩ := T
          have T := T2
          obtain ⟨ra, rao, rfl, -, r0, r1, r2⟩ := (hA.below KK).at_ hj
          by_cases hle : (arg rs j).2.2 = l
          · have HE := Lib.hid (HNX.out HE1.out HE2.out HE3.out HE4.out HORD.out (fun _ => HX.out.2 hle))
            have hl1 : ((arg rs j).2.2 == l) = true := by simpa using hle
            have hl2 : ((arg rs j).2.2 != l) = false := by simpa using hle
            clear HA7 HNX hle
            go_wp2_with fail
            go_quiet (fail)
            go_wp2
            go_roundw
            case rel => exact ⟨k + 1, by omega, by go_num, HE, HkS.two (HkS.drewN T _)⟩
            case measure => simp [intOf]; omega
          · have HE := Lib.hid (HA7.out (fun _ _ e => hle (HX.out.1 e)))
            have hl1 : ((arg rs j).2.2 == l) = false := by simpa using hle
            have hl2 : ((arg rs j).2.2 != l) = true := by simpa using hle
            clear HA7 HNX hle T
            go_wp2_with fail
            go_quiet (fail)
            go_wp2
            go_ret
            exact ⟨retBo HE.out.symm, below_drewN KK _⟩
    have hv1 : (v == -1) = false := by simpa using hv
    cases hnd : btB v 0 ((ps.length : Int) - 1) with
    | false =>
      as_aux_lemma =>
      have HND := Lib.hid hnd
      have HE := Lib.hid (HA7.out (fun _ _ e => expl_node (rs := rs) (zs := zs) (hs := hs) (a := ((F : Int), (Tn : Int), l, v)) hv (by rw [hcast]; exact hnd) e))
      clear HA7 HNX hv hnd
      have T0 := HkS.drew T
      obtain ⟨x0, x1, y0, y1, -, -, a0, a1, a2, a3, KK⟩ := T
      clear KK
      go_wp2_with fail
      clear x0 x1 y0 y1 a0 a1 a2 a3
      refine wp_region_held_drew (S := (fun w' => HkS w w.heap.size (w.heap.size + 1) w.heap.size wr.heap.size (.slice N ps.length cn) (.slice Ar rs.length ca) (.slice R zs.length cr) (.slice (some ⟨b, off, none⟩) hs.length cb) (.slice N ps.length cn) (.slice Ar rs.length ca) (F : Int) (Tn : Int) l v w')) (by kernel_rfl) ?_ (fun hHeld => ?_)
      · exact T0
      clear T0
      refine wpAnyH_take (i := 0) (oi := ⟨some 138, _, _, _, _, _⟩) (v := .agg #[.slice N ps.length cn, .slice Ar rs.length ca]) rfl (by kernel_rfl) (by kernel_rfl) (by kernel_rfl) (fun _ _ _ h => h) (Or.inl ⟨by rfl, fun w' hw => ?hy⟩) hHeld ?_
      case hy => (try dsimp only at hw); go_simp
      simp only [Act.put, List.setIfInBounds_toArray, List.set_cons_zero, List.set_cons_succ]
      refine wpAnyH_take (i := 1) (oi := ⟨some 139, _, _, _, _, _⟩) (v := .pointer (some ⟨wr.heap.size, 3, none⟩)) rfl (by kernel_rfl) (by kernel_rfl) (by kernel_rfl) (fun _ _ _ h => h) (Or.inl ⟨by rfl, fun w' hw => ?hy⟩) hHeld ?_
      case hy => (try dsimp only at hw); go_simp
      simp only [Act.put, List.setIfInBounds_toArray, List.set_cons_zero, List.set_cons_succ]
      refine wpAnyH_take (i := 2) (oi := ⟨some 140, _, _, _, _, _⟩) (v := .int .i64 v) rfl (by kernel_rfl) (by kernel_rfl) (by kernel_rfl) (fun _ _ _ h => h) (Or.inl ⟨by rfl, fun w' hw => ?hy⟩) hHeld ?_
      case hy => (try dsimp only at hw); go_simp
      simp only [Act.put, List.setIfInBounds_toArray, List.set_cons_zero, List.set_cons_succ]
      refine wpAnyH_ready (rs := [3]) (by kernel_rfl) (by simp) ?_
      refine AllReadyH.cons (o := ⟨some 141, _, _, _, _, _⟩) rfl (fun K hK => ?_) AllReadyH.nil
      go_simp
      refine (l04Node_any N Ar ps.length rs.length cn ca v _ hn).mono ?_; rw [HND.out]; rintro e w3 ⟨rfl, b3⟩
      go_wp2_with fail
      refine hK.out _ _ ?_ (fun hHeld => ?_)
      · exact HkS.under b3 hHeld
      clear hK K
      try simp only [Act.put, List.setIfInBounds_toArray, List.set_cons_zero, List.set_cons_succ]
      refine wpAnyH_take (i := 4) (oi := ⟨some 142, _, _, _, _, _⟩) (v := .bool true) rfl (by kernel_rfl) (by kernel_rfl) (by kernel_rfl) (fun _ _ _ h => h) (Or.inl ⟨by rfl, fun w' hw => ?hy⟩) hHeld ?_
      case hy => (try dsimp only at hw); go_simp
      simp only [Act.put, List.setIfInBounds_toArray, List.set_cons_zero, List.set_cons_succ]
      refine wpAnyH_take (i := 5) (oi := ⟨some 143, _, _, _, _, _⟩) (v := .bool true) rfl (by kernel_rfl) (by kernel_rfl) (by kernel_rfl) (fun _ _ _ h => h) (Or.inl ⟨by rfl, fun w' hw => ?hy⟩) hHeld ?_
      case hy => (try dsimp only at hw); go_simp
      simp only [Act.put, List.setIfInBounds_toArray, List.set_cons_zero, List.set_cons_succ]
      refine wpAnyH_take (i := 6) (oi := ⟨some 144, _, _, _, _, _⟩) (v := undef) rfl (by kernel_rfl) (by kernel_rfl) (by kernel_rfl) (fun _ _ _ h => h) (Or.inr ⟨by rfl, rfl⟩) hHeld ?_
      simp only [Act.put, List.setIfInBounds_toArray, List.set_cons_zero, List.set_cons_succ]
      refine wpAnyH_take (i := 7) (oi := ⟨some 145, _, _, _, _, _⟩) (v := undef) rfl (by kernel_rfl) (by kernel_rfl) (by kernel_rfl) (fun _ _ _ h => h) (Or.inr ⟨by rfl, rfl⟩) hHeld ?_
      simp only [Act.put, List.setIfInBounds_toArray, List.set_cons_zero, List.set_cons_succ]
      refine wpAnyH_take (i := 8) (oi := ⟨some 146, _, _, _, _, _⟩) (v := undef) rfl (by kernel_rfl) (by kernel_rfl) (by kernel_rfl) (fun _ _ _ h => h) (Or.inr ⟨by rfl, rfl⟩) hHeld ?_
      simp only [Act.put, List.setIfInBounds_toArray, List.set_cons_zero, List.set_cons_succ]
      refine wpAnyH_take (i := 9) (oi := ⟨some 147, _, _, _, _, _⟩) (v := undef) rfl (by kernel_rfl) (by kernel_rfl) (by kernel_rfl) (fun _ _ _ h => h) (Or.inr ⟨by rfl, rfl⟩) hHeld ?_
      simp only [Act.put, List.setIfInBounds_toArray, List.set_cons_zero, List.set_cons_succ]
      refine wpAnyH_take (i := 10) (oi := ⟨some 148, _, _, _, _, _⟩) (v := undef) rfl (by kernel_rfl) (by kernel_rfl) (by kernel_rfl) (fun _ _ _ h => h) (Or.inr ⟨by rfl, rfl⟩) hHeld ?_
      simp only [Act.put, List.setIfInBounds_toArray, List.set_cons_zero, List.set_cons_succ]
      refine wpAnyH_take (i := 11) (oi := ⟨some 149, _, _, _, _, _⟩) (v := undef) rfl (by kernel_rfl) (by kernel_rfl) (by kernel_rfl) (fun _ _ _ h => h) (Or.inr ⟨by rfl, rfl⟩) hHeld ?_
      simp only [Act.put, List.setIfInBounds_toArray, List.set_cons_zero, List.set_cons_succ]
      refine wpAnyH_take (i := 12) (oi := ⟨some 150, _, _, _, _, _⟩) (v := undef) rfl (by kernel_rfl) (by kernel_rfl) (by kernel_rfl) (fun _ _ _ h => h) (Or.inr ⟨by rfl, rfl⟩) hHeld ?_
      simp only [Act.put, List.setIfInBounds_toArray, List.set_cons_zero, List.set_cons_succ]
      refine wpAnyH_take (i := 13) (oi := ⟨some 151, _, _, _, _, _⟩) (v := undef) rfl (by kernel_rfl) (by kernel_rfl) (by kernel_rfl) (fun _ _ _ h => h) (Or.inr ⟨by rfl, rfl⟩) hHeld ?_
      simp only [Act.put, List.setIfInBounds_toArray, List.set_cons_zero, List.set_cons_succ]
      refine wpAnyH_take (i := 14) (oi := ⟨some 152, _, _, _, _, _⟩) (v := undef) rfl (by kernel_rfl) (by kernel_rfl) (by kernel_rfl) (fun _ _ _ h => h) (Or.inr ⟨by rfl, rfl⟩) hHeld ?_
      simp only [Act.put, List.setIfInBounds_toArray, List.set_cons_zero, List.set_cons_succ]
      refine wpAnyH_take (i := 15) (oi := ⟨some 153, _, _, _, _, _⟩) (v := undef) rfl (by kernel_rfl) (by kernel_rfl) (by kernel_rfl) (fun _ _ _ h => h) (Or.inr ⟨by rfl, rfl⟩) hHeld ?_
      simp only [Act.put, List.setIfInBounds_toArray, List.set_cons_zero, List.set_cons_succ]
      refine wpAnyH_take (i := 16) (oi := ⟨some 154, _, _, _, _, _⟩) (v := undef) rfl (by kernel_rfl) (by kernel_rfl) (by kernel_rfl) (fun _ _ _ h => h) (Or.inr ⟨by rfl, rfl⟩) hHeld ?_
      simp only [Act.put, List.setIfInBounds_toArray, List.set_cons_zero, List.set_cons_succ]
      refine wpAnyH_take (i := 17) (oi := ⟨some 155, _, _, _, _, _⟩) (v := undef) rfl (by kernel_rfl) (by kernel_rfl) (by kernel_rfl) (fun _ _ _ h => h) (Or.inr ⟨by rfl, rfl⟩) hHeld ?_
      simp only [Act.put, List.setIfInBounds_toArray, List.set_cons_zero, List.set_cons_succ]
      refine wpAnyH_take (i := 18) (oi := ⟨some 156, _, _, _, _, _⟩) (v := undef) rfl (by kernel_rfl) (by kernel_rfl) (by kernel_rfl) (fun _ _ _ h => h) (Or.inr ⟨by rfl, rfl⟩) hHeld ?_
      simp only [Act.put, List.setIfInBounds_toArray, List.set_cons_zero, List.set_cons_succ]
      refine wpAnyH_take (i := 19) (oi := ⟨some 157, _, _, _, _, _⟩) (v := .bool true) rfl (by kernel_rfl) (by kernel_rfl) (by kernel_rfl) (fun _ _ _ h => h) (Or.inl ⟨by rfl, fun w' hw => ?hy⟩) hHeld ?_
      case hy => (try dsimp only at hw); go_simp
      simp only [Act.put, List.setIfInBounds_toArray, List.set_cons_zero, List.set_cons_succ]
      refine wpAnyH_take (i := 20) (oi := ⟨some 158, _, _, _, _, _⟩) (v := .bool true) rfl (by kernel_rfl) (by kernel_rfl) (by kernel_rfl) (fun _ _ _ h => h) (Or.inl ⟨by rfl, fun w' hw => ?hy⟩) hHeld ?_
      case hy => (try dsimp only at hw); go_simp
      simp only [Act.put, List.setIfInBounds_toArray, List.set_cons_zero, List.set_cons_succ]
      refine wpAnyH_take (i := 21) (oi := ⟨some 159, _, _, _, _, _⟩) (v := undef) rfl (by kernel_rfl) (by kernel_rfl) (by kernel_rfl) (fun _ _ _ h => h) (Or.inr ⟨by rfl, rfl⟩) hHeld ?_
      simp only [Act.put, List.setIfInBounds_toArray, List.set_cons_zero, List.set_cons_succ]
      refine wpAnyH_take (i := 22) (oi := ⟨some 160, _, _, _, _, _⟩) (v := undef) rfl (by kernel_rfl) (by kernel_rfl) (by kernel_rfl) (fun _ _ _ h => h) (Or.inr ⟨by rfl, rfl⟩) hHeld ?_
      simp only [Act.put, List.setIfInBounds_toArray, List.set_cons_zero, List.set_cons_succ]
      refine wpAnyH_take (i := 23) (oi := ⟨some 161, _, _, _, _, _⟩) (v := undef) rfl (by kernel_rfl) (by kernel_rfl) (by kernel_rfl) (fun _ _ _ h => h) (Or.inr ⟨by rfl, rfl⟩) hHeld ?_
      simp only [Act.put, List.setIfInBounds_toArray, List.set_cons_zero, List.set_cons_succ]
      refine wpAnyH_take (i := 24) (oi := ⟨some 162, _, _, _, _, _⟩) (v := undef) rfl (by kernel_rfl) (by kernel_rfl) (by kernel_rfl) (fun _ _ _ h => h) (Or.inr ⟨by rfl, rfl⟩) hHeld ?_
      simp only [Act.put, List.setIfInBounds_toArray, List.set_cons_zero, List.set_cons_succ]
      refine wpAnyH_take (i := 25) (oi := ⟨some 163, _, _, _, _, _⟩) (v := undef) rfl (by kernel_rfl) (by kernel_rfl) (by kernel_rfl) (fun _ _ _ h => h) (Or.inr ⟨by rfl, rfl⟩) hHeld ?_
      simp only [Act.put, List.setIfInBounds_toArray, List.set_cons_zero, List.set_cons_succ]
      refine wpAnyH_take (i := 26) (oi := ⟨some 164, _, _, _, _, _⟩) (v := undef) rfl (by kernel_rfl) (by kernel_rfl) (by kernel_rfl) (fun _ _ _ h => h) (Or.inr ⟨by rfl, rfl⟩) hHeld ?_
      simp only [Act.put, List.setIfInBounds_toArray, List.set_cons_zero, List.set_cons_succ]
      refine wpAnyH_take (i := 27) (oi := ⟨some 165, _, _, _, _, _⟩) (v := undef) rfl (by kernel_rfl) (by kernel_rfl) (by kernel_rfl) (fun _ _ _ h => h) (Or.inr ⟨by rfl, rfl⟩) hHeld ?_
      simp only [Act.put, List.setIfInBounds_toArray, List.set_cons_zero, List.set_cons_succ]
      refine wpAnyH_take (i := 28) (oi := ⟨some 166, _, _, _, _, _⟩) (v := undef) rfl (by kernel_rfl) (by kernel_rfl) (by kernel_rfl) (fun _ _ _ h => h) (Or.inr ⟨by rfl, rfl⟩) hHeld ?_
      simp only [Act.put, List.setIfInBounds_toArray, List.set_cons_zero, List.set_cons_succ]
      refine wpAnyH_take (i := 29) (oi := ⟨some 167, _, _, _, _, _⟩) (v := undef) rfl (by kernel_rfl) (by kernel_rfl) (by kernel_rfl) (fun _ _ _ h => h) (Or.inr ⟨by rfl, rfl⟩) hHeld ?_
      simp only [Act.put, List.setIfInBounds_toArray, List.set_cons_zero, List.set_cons_succ]
      refine wpAnyH_take (i := 30) (oi := ⟨some 168, _, _, _, _, _⟩) (v := undef) rfl (by kernel_rfl) (by kernel_rfl) (by kernel_rfl) (fun _ _ _ h => h) (Or.inr ⟨by rfl, rfl⟩) hHeld ?_
      simp only [Act.put, List.setIfInBounds_toArray, List.set_cons_zero, List.set_cons_succ]
      refine wpAnyH_take (i := 31) (oi := ⟨some 169, _, _, _, _, _⟩) (v := undef) rfl (by kernel_rfl) (by kernel_rfl) (by kernel_rfl) (fun _ _ _ h => h) (Or.inr ⟨by rfl, rfl⟩) hHeld ?_
      simp only [Act.put, List.setIfInBounds_toArray, List.set_cons_zero, List.set_cons_succ]
      refine wpAnyH_take (i := 32) (oi := ⟨some 170, _, _, _, _, _⟩) (v := undef) rfl (by kernel_rfl) (by kernel_rfl) (by kernel_rfl) (fun _ _ _ h => h) (Or.inr ⟨by rfl, rfl⟩) hHeld ?_
      simp only [Act.put, List.setIfInBounds_toArray, List.set_cons_zero, List.set_cons_succ]
      refine wpAnyH_take (i := 33) (oi := ⟨some 171, _, _, _, _, _⟩) (v := undef) rfl (by kernel_rfl) (by kernel_rfl) (by kernel_rfl) (fun _ _ _ h => h) (Or.inr ⟨by rfl, rfl⟩) hHeld ?_
      simp only [Act.put, List.setIfInBounds_toArray, List.set_cons_zero, List.set_cons_succ]
      refine wpAnyH_take (i := 34) (oi := ⟨some 172, _, _, _, _, _⟩) (v := .bool true) rfl (by kernel_rfl) (by kernel_rfl) (by kernel_rfl) (fun _ _ _ h => h) (Or.inl ⟨by rfl, fun w' hw => ?hy⟩) hHeld ?_
      case hy => (try dsimp only at hw); go_simp
      simp only [Act.put, List.setIfInBounds_toArray, List.set_cons_zero, List.set_cons_succ]
      refine wpAnyH_done (by kernel_rfl) ?_ _
      have KK := HkS.bel hHeld
      clear hHeld
      go_wp2
      go_ret
      exact ⟨retBo HE.out.symm, KK⟩
    | true =>
    obtain ⟨V, rfl, hVp⟩ := node_is hnd
    have HND := Lib.hid hnd
    have hVn : V < zs.length := by omega
    have HVV := Lib.hid hv
    have hndz : btB (V : Int) 0 ((zs.length : Int) - 1) = true := by rw [hcast]; exact hnd
    have HNZ := Lib.hid hndz
    clear hnd hndz hv
    have T2 := T
    obtain ⟨x0, x1, y0, y1, -, -, a0, a1, a2, a3, KK⟩ := T
    have T := T2
    clear T2
    obtain ⟨rb, ro, rfl, -, cV⟩ := (hR.below KK).at_ hVn
    obtain ⟨rb', ro', e', -, cF⟩ := (hR.below KK).at_ hFn
    injection e' with e'; injection e' with e1 e2; subst e1; subst e2
    obtain ⟨rb', ro', e', -, cT⟩ := (hR.below KK).at_ hTn
    injection e' with e'; injection e' with e1 e2; subst e1; subst e2
    have hVi : (V : Int) < zs.length := by omega
    have hFi : (F : Int) < zs.length := by omega
    have hTi : (Tn : Int) < zs.length := by omega
    have T0 : HkR w w.heap.size (w.heap.size + 1) w.heap.size wr.heap.size (.slice N ps.length cn) (.slice Ar rs.length ca) (.slice (some ⟨rb, ro, none⟩) zs.length cr) (.slice (some ⟨b, off, none⟩) hs.length cb) (.slice N ps.length cn) (.slice Ar rs.length ca) (F : Int) (Tn : Int) l (V : Int) rb (ro + V) (ro + F) (ro + Tn) (zg zs V) (zg zs F) (zg zs Tn) wc.drew := HkR.under (Below.refl _ _).drew ⟨cV, cF, cT, T⟩
    clear cV cF cT T KK
    by_cases h1 : zg zs F ≤ zg zs V
    · as_aux_lemma =>
        have HE := Lib.hid (HA7.out (fun _ _ e => expl_rank (rs := rs) (zs := zs) (hs := hs) (a := ((F : Int), (Tn : Int), l, (V : Int))) HVV.out rfl rfl rfl (fun g => by omega) e))
        have g1 : decide (zg zs F ≤ zg zs V) = true := decide_eq_true h1
        clear HA7 HNX
        go_wp2_with fail
        clear x0 x1 y0 y1 a0 a1 a2 a3
        refine wp_region_held_drew (S := (fun w' => HkR w w.heap.size (w.heap.size + 1) w.heap.size wr.heap.size (.slice N ps.length cn) (.slice Ar rs.length ca) (.slice (some ⟨rb, ro, none⟩) zs.length cr) (.slice (some ⟨b, off, none⟩) hs.length cb) (.slice N ps.length cn) (.slice Ar rs.length ca) (F : Int) (Tn : Int) l (V : Int) rb (ro + V) (ro + F) (ro + Tn) (zg zs V) (zg zs F) (zg zs Tn) w')) (by kernel_rfl) ?_ (fun hHeld => ?_)
        · exact T0
        clear T0
        refine wpAnyH_take (i := 0) (oi := ⟨some 138, _, _, _, _, _⟩) (v := .agg #[.slice N ps.length cn, .slice Ar rs.length ca]) rfl (by kernel_rfl) (by kernel_rfl) (by kernel_rfl) (fun _ _ _ h => h) (Or.inl ⟨by rfl, fun w' hw => ?hy⟩) hHeld ?_
        case hy => (try dsimp only at hw); go_simp
        simp only [Act.put, List.setIfInBounds_toArray, List.set_cons_zero, List.set_cons_succ]
        refine wpAnyH_take (i := 1) (oi := ⟨some 139, _, _, _, _, _⟩) (v := .pointer (some ⟨wr.heap.size, 3, none⟩)) rfl (by kernel_rfl) (by kernel_rfl) (by kernel_rfl) (fun _ _ _ h => h) (Or.inl ⟨by rfl, fun w' hw => ?hy⟩) hHeld ?_
        case hy => (try dsimp only at hw); go_simp
        simp only [Act.put, List.setIfInBounds_toArray, List.set_cons_zero, List.set_cons_succ]
        refine wpAnyH_take (i := 2) (oi := ⟨some 140, _, _, _, _, _⟩) (v := .int .i64 (V : Int)) rfl (by kernel_rfl) (by kernel_rfl) (by kernel_rfl) (fun _ _ _ h => h) (Or.inl ⟨by rfl, fun w' hw => ?hy⟩) hHeld ?_
        case hy => (try dsimp only at hw); go_simp
        simp only [Act.put, List.setIfInBounds_toArray, List.set_cons_zero, List.set_cons_succ]
        refine wpAnyH_ready (rs := [3]) (by kernel_rfl) (by simp) ?_
        refine AllReadyH.cons (o := ⟨some 141, _, _, _, _, _⟩) rfl (fun K hK => ?_) AllReadyH.nil
        go_simp
        refine (l04Node_any N Ar ps.length rs.length cn ca (V : Int) _ hn).mono ?_; rw [HND.out]; rintro e w3 ⟨rfl, b3⟩
        go_wp2_with fail
        refine hK.out _ _ ?_ (fun hHeld => ?_)
        · exact HkR.under b3 hHeld
        clear hK K
        try simp only [Act.put, List.setIfInBounds_toArray, List.set_cons_zero, List.set_cons_succ]
        refine wpAnyH_take (i := 4) (oi := ⟨some 142, _, _, _, _, _⟩) (v := .bool false) rfl (by kernel_rfl) (by kernel_rfl) (by kernel_rfl) (fun _ _ _ h => h) (Or.inl ⟨by rfl, fun w' hw => ?hy⟩) hHeld ?_
        case hy => (try dsimp only at hw); go_simp
        simp only [Act.put, List.setIfInBounds_toArray, List.set_cons_zero, List.set_cons_succ]
        refine wpAnyH_take (i := 5) (oi := ⟨some 143, _, _, _, _, _⟩) (v := .bool false) rfl (by kernel_rfl) (by kernel_rfl) (by kernel_rfl) (fun _ _ _ h => h) (Or.inl ⟨by rfl, fun w' hw => ?hy⟩) hHeld ?_
        case hy => (try dsimp only at hw); go_simp
        simp only [Act.put, List.setIfInBounds_toArray, List.set_cons_zero, List.set_cons_succ]
        refine wpAnyH_take (i := 6) (oi := ⟨some 144, _, _, _, _, _⟩) (v := .pointer (some ⟨w.heap.size + 1, 0, none⟩)) rfl (by kernel_rfl) (by kernel_rfl) (by kernel_rfl) (fun _ _ _ h => h) (Or.inl ⟨by rfl, fun w' hw => ?hy⟩) hHeld ?_
        case hy => (try dsimp only at hw); go_simp
        simp only [Act.put, List.setIfInBounds_toArray, List.set_cons_zero, List.set_cons_succ]
        refine wpAnyH_take (i := 7) (oi := ⟨some 145, _, _, _, _, _⟩) (v := .slice (some ⟨rb, ro, none⟩) zs.length cr) rfl (by kernel_rfl) (by kernel_rfl) (by kernel_rfl) (fun _ _ _ h => h) (Or.inl ⟨by rfl, fun w' hw => ?hy⟩) hHeld ?_
        case hy => (try dsimp only at hw); go_simp
        simp only [Act.put, List.setIfInBounds_toArray, List.set_cons_zero, List.set_cons_succ]
        refine wpAnyH_take (i := 8) (oi := ⟨some 146, _, _, _, _, _⟩) (v := .pointer (some ⟨wr.heap.size, 3, none⟩)) rfl (by kernel_rfl) (by kernel_rfl) (by kernel_rfl) (fun _ _ _ h => h) (Or.inl ⟨by rfl, fun w' hw => ?hy⟩) hHeld ?_
        case hy => (try dsimp only at hw); go_simp
        simp only [Act.put, List.setIfInBounds_toArray, List.set_cons_zero, List.set_cons_succ]
        refine wpAnyH_take (i := 9) (oi := ⟨some 147, _, _, _, _, _⟩) (v := .int .i64 (V : Int)) rfl (by kernel_rfl) (by kernel_rfl) (by kernel_rfl) (fun _ _ _ h => h) (Or.inl ⟨by rfl, fun w' hw => ?hy⟩) hHeld ?_
        case hy => (try dsimp only at hw); go_simp
        simp only [Act.put, List.setIfInBounds_toArray, List.set_cons_zero, List.set_cons_succ]
        refine wpAnyH_take (i := 10) (oi := ⟨some 148, _, _, _, _, _⟩) (v := .pointer (some ⟨rb, ro + V, none⟩)) rfl (by kernel_rfl) (by kernel_rfl) (by kernel_rfl) (fun _ _ _ h => h) (Or.inl ⟨by rfl, fun w' hw => ?hy⟩) hHeld ?_
        case hy => (try dsimp only at hw); go_simp
        simp only [Act.put, List.setIfInBounds_toArray, List.set_cons_zero, List.set_cons_succ]
        refine wpAnyH_take (i := 11) (oi := ⟨some 149, _, _, _, _, _⟩) (v := .int .i64 (zg zs V)) rfl (by kernel_rfl) (by kernel_rfl) (by kernel_rfl) (fun _ _ _ h => h) (Or.inl ⟨by rfl, fun w' hw => ?hy⟩) hHeld ?_
        case hy => (try dsimp only at hw); go_simp
        simp only [Act.put, List.setIfInBounds_toArray, List.set_cons_zero, List.set_cons_succ]
        refine wpAnyH_take (i := 12) (oi := ⟨some 150, _, _, _, _, _⟩) (v := .pointer (some ⟨w.heap.size + 1, 0, none⟩)) rfl (by kernel_rfl) (by kernel_rfl) (by kernel_rfl) (fun _ _ _ h => h) (Or.inl ⟨by rfl, fun w' hw => ?hy⟩) hHeld ?_
        case hy => (try dsimp only at hw); go_simp
        simp only [Act.put, List.setIfInBounds_toArray, List.set_cons_zero, List.set_cons_succ]
        refine wpAnyH_take (i := 13) (oi := ⟨some 151, _, _, _, _, _⟩) (v := .slice (some ⟨rb, ro, none⟩) zs.length cr) rfl (by kernel_rfl) (by kernel_rfl) (by kernel_rfl) (fun _ _ _ h => h) (Or.inl ⟨by rfl, fun w' hw => ?hy⟩) hHeld ?_
        case hy => (try dsimp only at hw); go_simp
        simp only [Act.put, List.setIfInBounds_toArray, List.set_cons_zero, List.set_cons_succ]
        refine wpAnyH_take (i := 14) (oi := ⟨some 152, _, _, _, _, _⟩) (v := .pointer (some ⟨wr.heap.size, 0, none⟩)) rfl (by kernel_rfl) (by kernel_rfl) (by kernel_rfl) (fun _ _ _ h => h) (Or.inl ⟨by rfl, fun w' hw => ?hy⟩) hHeld ?_
        case hy => (try dsimp only at hw); go_simp
        simp only [Act.put, List.setIfInBounds_toArray, List.set_cons_zero, List.set_cons_succ]
        refine wpAnyH_take (i := 15) (oi := ⟨some 153, _, _, _, _, _⟩) (v := .int .i64 (F : Int)) rfl (by kernel_rfl) (by kernel_rfl) (by kernel_rfl) (fun _ _ _ h => h) (Or.inl ⟨by rfl, fun w' hw => ?hy⟩) hHeld ?_
        case hy => (try dsimp only at hw); go_simp
        simp only [Act.put, List.setIfInBounds_toArray, List.set_cons_zero, List.set_cons_succ]
        refine wpAnyH_take (i := 16) (oi := ⟨some 154, _, _, _, _, _⟩) (v := .pointer (some ⟨rb, ro + F, none⟩)) rfl (by kernel_rfl) (by kernel_rfl) (by kernel_rfl) (fun _ _ _ h => h) (Or.inl ⟨by rfl, fun w' hw => ?hy⟩) hHeld ?_
        case hy => (try dsimp only at hw); go_simp
        simp only [Act.put, List.setIfInBounds_toArray, List.set_cons_zero, List.set_cons_succ]
        refine wpAnyH_take (i := 17) (oi := ⟨some 155, _, _, _, _, _⟩) (v := .int .i64 (zg zs F)) rfl (by kernel_rfl) (by kernel_rfl) (by kernel_rfl) (fun _ _ _ h => h) (Or.inl ⟨by rfl, fun w' hw => ?hy⟩) hHeld ?_
        case hy => (try dsimp only at hw); go_simp
        simp only [Act.put, List.setIfInBounds_toArray, List.set_cons_zero, List.set_cons_succ]
        refine wpAnyH_take (i := 18) (oi := ⟨some 156, _, _, _, _, _⟩) (v := .bool true) rfl (by kernel_rfl) (by kernel_rfl) (by kernel_rfl) (fun _ _ _ h => h) (Or.inl ⟨by rfl, fun w' hw => ?hy⟩) hHeld ?_
        case hy => (try dsimp only at hw); go_simp
        simp only [Act.put, List.setIfInBounds_toArray, List.set_cons_zero, List.set_cons_succ]
        refine wpAnyH_take (i := 19) (oi := ⟨some 157, _, _, _, _, _⟩) (v := .bool true) rfl (by kernel_rfl) (by kernel_rfl) (by kernel_rfl) (fun _ _ _ h => h) (Or.inl ⟨by rfl, fun w' hw => ?hy⟩) hHeld ?_
        case hy => (try dsimp only at hw); go_simp
        simp only [Act.put, List.setIfInBounds_toArray, List.set_cons_zero, List.set_cons_succ]
        refine wpAnyH_take (i := 20) (oi := ⟨some 158, _, _, _, _, _⟩) (v := .bool true) rfl (by kernel_rfl) (by kernel_rfl) (by kernel_rfl) (fun _ _ _ h => h) (Or.inl ⟨by rfl, fun w' hw => ?hy⟩) hHeld ?_
        case hy => (try dsimp only at hw); go_simp
        simp only [Act.put, List.setIfInBounds_toArray, List.set_cons_zero, List.set_cons_succ]
        refine wpAnyH_take (i := 21) (oi := ⟨some 159, _, _, _, _, _⟩) (v := undef) rfl (by kernel_rfl) (by kernel_rfl) (by kernel_rfl) (fun _ _ _ h => h) (Or.inr ⟨by rfl, rfl⟩) hHeld ?_
        simp only [Act.put, List.setIfInBounds_toArray, List.set_cons_zero, List.set_cons_succ]
        refine wpAnyH_take (i := 22) (oi := ⟨some 160, _, _, _, _, _⟩) (v := undef) rfl (by kernel_rfl) (by kernel_rfl) (by kernel_rfl) (fun _ _ _ h => h) (Or.inr ⟨by rfl, rfl⟩) hHeld ?_
        simp only [Act.put, List.setIfInBounds_toArray, List.set_cons_zero, List.set_cons_succ]
        refine wpAnyH_take (i := 23) (oi := ⟨some 161, _, _, _, _, _⟩) (v := undef) rfl (by kernel_rfl) (by kernel_rfl) (by kernel_rfl) (fun _ _ _ h => h) (Or.inr ⟨by rfl, rfl⟩) hHeld ?_
        simp only [Act.put, List.setIfInBounds_toArray, List.set_cons_zero, List.set_cons_succ]
        refine wpAnyH_take (i := 24) (oi := ⟨some 162, _, _, _, _, _⟩) (v := undef) rfl (by kernel_rfl) (by kernel_rfl) (by kernel_rfl) (fun _ _ _ h => h) (Or.inr ⟨by rfl, rfl⟩) hHeld ?_
        simp only [Act.put, List.setIfInBounds_toArray, List.set_cons_zero, List.set_cons_succ]
        refine wpAnyH_take (i := 25) (oi := ⟨some 163, _, _, _, _, _⟩) (v := undef) rfl (by kernel_rfl) (by kernel_rfl) (by kernel_rfl) (fun _ _ _ h => h) (Or.inr ⟨by rfl, rfl⟩) hHeld ?_
        simp only [Act.put, List.setIfInBounds_toArray, List.set_cons_zero, List.set_cons_succ]
        refine wpAnyH_take (i := 26) (oi := ⟨some 164, _, _, _, _, _⟩) (v := undef) rfl (by kernel_rfl) (by kernel_rfl) (by kernel_rfl) (fun _ _ _ h => h) (Or.inr ⟨by rfl, rfl⟩) hHeld ?_
        simp only [Act.put, List.setIfInBounds_toArray, List.set_cons_zero, List.set_cons_succ]
        refine wpAnyH_take (i := 27) (oi := ⟨some 165, _, _, _, _, _⟩) (v := undef) rfl (by kernel_rfl) (by kernel_rfl) (by kernel_rfl) (fun _ _ _ h => h) (Or.inr ⟨by rfl, rfl⟩) hHeld ?_
        simp only [Act.put, List.setIfInBounds_toArray, List.set_cons_zero, List.set_cons_succ]
        refine wpAnyH_take (i := 28) (oi := ⟨some 166, _, _, _, _, _⟩) (v := undef) rfl (by kernel_rfl) (by kernel_rfl) (by kernel_rfl) (fun _ _ _ h => h) (Or.inr ⟨by rfl, rfl⟩) hHeld ?_
        simp only [Act.put, List.setIfInBounds_toArray, List.set_cons_zero, List.set_cons_succ]
        refine wpAnyH_take (i := 29) (oi := ⟨some 167, _, _, _, _, _⟩) (v := undef) rfl (by kernel_rfl) (by kernel_rfl) (by kernel_rfl) (fun _ _ _ h => h) (Or.inr ⟨by rfl, rfl⟩) hHeld ?_
        simp only [Act.put, List.setIfInBounds_toArray, List.set_cons_zero, List.set_cons_succ]
        refine wpAnyH_take (i := 30) (oi := ⟨some 168, _, _, _, _, _⟩) (v := undef) rfl (by kernel_rfl) (by kernel_rfl) (by kernel_rfl) (fun _ _ _ h => h) (Or.inr ⟨by rfl, rfl⟩) hHeld ?_
        simp only [Act.put, List.setIfInBounds_toArray, List.set_cons_zero, List.set_cons_succ]
        refine wpAnyH_take (i := 31) (oi := ⟨some 169, _, _, _, _, _⟩) (v := undef) rfl (by kernel_rfl) (by kernel_rfl) (by kernel_rfl) (fun _ _ _ h => h) (Or.inr ⟨by rfl, rfl⟩) hHeld ?_
        simp only [Act.put, List.setIfInBounds_toArray, List.set_cons_zero, List.set_cons_succ]
        refine wpAnyH_take (i := 32) (oi := ⟨some 170, _, _, _, _, _⟩) (v := undef) rfl (by kernel_rfl) (by kernel_rfl) (by kernel_rfl) (fun _ _ _ h => h) (Or.inr ⟨by rfl, rfl⟩) hHeld ?_
        simp only [Act.put, List.setIfInBounds_toArray, List.set_cons_zero, List.set_cons_succ]
        refine wpAnyH_take (i := 33) (oi := ⟨some 171, _, _, _, _, _⟩) (v := undef) rfl (by kernel_rfl) (by kernel_rfl) (by kernel_rfl) (fun _ _ _ h => h) (Or.inr ⟨by rfl, rfl⟩) hHeld ?_
        simp only [Act.put, List.setIfInBounds_toArray, List.set_cons_zero, List.set_cons_succ]
        refine wpAnyH_take (i := 34) (oi := ⟨some 172, _, _, _, _, _⟩) (v := .bool true) rfl (by kernel_rfl) (by kernel_rfl) (by kernel_rfl) (fun _ _ _ h => h) (Or.inl ⟨by rfl, fun w' hw => ?hy⟩) hHeld ?_
        case hy => (try dsimp only at hw); go_simp
        simp only [Act.put, List.setIfInBounds_toArray, List.set_cons_zero, List.set_cons_succ]
        refine wpAnyH_done (by kernel_rfl) ?_ _
        have KK := HkR.bel hHeld
        clear hHeld
        go_wp2
        go_ret
        exact ⟨retBo HE.out.symm, KK⟩
    have g1 : decide (zg zs F ≤ zg zs V) = false := decide_eq_false h1
    by_cases h2 : zg zs Tn ≤ zg zs V
    · as_aux_lemma =>
        have HE := Lib.hid (HA7.out (fun _ _ e => expl_rank (rs := rs) (zs := zs) (hs := hs) (a := ((F : Int), (Tn : Int), l, (V : Int))) HVV.out rfl rfl rfl (fun g => by omega) e))
        have g2 : decide (zg zs Tn ≤ zg zs V) = true := decide_eq_true h2
        clear HA7 HNX
        go_wp2_with fail
        clear x0 x1 y0 y1 a0 a1 a2 a3
        refine wp_region_held_drew (S := (fun w' => HkR w w.heap.size (w.heap.size + 1) w.heap.size wr.heap.size (.slice N ps.length cn) (.slice Ar rs.length ca) (.slice (some ⟨rb, ro, none⟩) zs.length cr) (.slice (some ⟨b, off, none⟩) hs.length cb) (.slice N ps.length cn) (.slice Ar rs.length ca) (F : Int) (Tn : Int) l (V : Int) rb (ro + V) (ro + F) (ro + Tn) (zg zs V) (zg zs F) (zg zs Tn) w')) (by kernel_rfl) ?_ (fun hHeld => ?_)
        · exact T0
        clear T0
        refine wpAnyH_take (i := 0) (oi := ⟨some 138, _, _, _, _, _⟩) (v := .agg #[.slice N ps.length cn, .slice Ar rs.length ca]) rfl (by kernel_rfl) (by kernel_rfl) (by kernel_rfl) (fun _ _ _ h => h) (Or.inl ⟨by rfl, fun w' hw => ?hy⟩) hHeld ?_
        case hy => (try dsimp only at hw); go_simp
        simp only [Act.put, List.setIfInBounds_toArray, List.set_cons_zero, List.set_cons_succ]
        refine wpAnyH_take (i := 1) (oi := ⟨some 139, _, _, _, _, _⟩) (v := .pointer (some ⟨wr.heap.size, 3, none⟩)) rfl (by kernel_rfl) (by kernel_rfl) (by kernel_rfl) (fun _ _ _ h => h) (Or.inl ⟨by rfl, fun w' hw => ?hy⟩) hHeld ?_
        case hy => (try dsimp only at hw); go_simp
        simp only [Act.put, List.setIfInBounds_toArray, List.set_cons_zero, List.set_cons_succ]
        refine wpAnyH_take (i := 2) (oi := ⟨some 140, _, _, _, _, _⟩) (v := .int .i64 (V : Int)) rfl (by kernel_rfl) (by kernel_rfl) (by kernel_rfl) (fun _ _ _ h => h) (Or.inl ⟨by rfl, fun w' hw => ?hy⟩) hHeld ?_
        case hy => (try dsimp only at hw); go_simp
        simp only [Act.put, List.setIfInBounds_toArray, List.set_cons_zero, List.set_cons_succ]
        refine wpAnyH_ready (rs := [3]) (by kernel_rfl) (by simp) ?_
        refine AllReadyH.cons (o := ⟨some 141, _, _, _, _, _⟩) rfl (fun K hK => ?_) AllReadyH.nil
        go_simp
        refine (l04Node_any N Ar ps.length rs.length cn ca (V : Int) _ hn).mono ?_; rw [HND.out]; rintro e w3 ⟨rfl, b3⟩
        go_wp2_with fail
        refine hK.out _ _ ?_ (fun hHeld => ?_)
        · exact HkR.under b3 hHeld
        clear hK K
        try simp only [Act.put, List.setIfInBounds_toArray, List.set_cons_zero, List.set_cons_succ]
        refine wpAnyH_take (i := 4) (oi := ⟨some 142, _, _, _, _, _⟩) (v := .bool false) rfl (by kernel_rfl) (by kernel_rfl) (by kernel_rfl) (fun _ _ _ h => h) (Or.inl ⟨by rfl, fun w' hw => ?hy⟩) hHeld ?_
        case hy => (try dsimp only at hw); go_simp
        simp only [Act.put, List.setIfInBounds_toArray, List.set_cons_zero, List.set_cons_succ]
        refine wpAnyH_take (i := 5) (oi := ⟨some 143, _, _, _, _, _⟩) (v := .bool false) rfl (by kernel_rfl) (by kernel_rfl) (by kernel_rfl) (fun _ _ _ h => h) (Or.inl ⟨by rfl, fun w' hw => ?hy⟩) hHeld ?_
        case hy => (try dsimp only at hw); go_simp
        simp only [Act.put, List.setIfInBounds_toArray, List.set_cons_zero, List.set_cons_succ]
        refine wpAnyH_take (i := 6) (oi := ⟨some 144, _, _, _, _, _⟩) (v := .pointer (some ⟨w.heap.size + 1, 0, none⟩)) rfl (by kernel_rfl) (by kernel_rfl) (by kernel_rfl) (fun _ _ _ h => h) (Or.inl ⟨by rfl, fun w' hw => ?hy⟩) hHeld ?_
        case hy => (try dsimp only at hw); go_simp
        simp only [Act.put, List.setIfInBounds_toArray, List.set_cons_zero, List.set_cons_succ]
        refine wpAnyH_take (i := 7) (oi := ⟨some 145, _, _, _, _, _⟩) (v := .slice (some ⟨rb, ro, none⟩) zs.length cr) rfl (by kernel_rfl) (by kernel_rfl) (by kernel_rfl) (fun _ _ _ h => h) (Or.inl ⟨by rfl, fun w' hw => ?hy⟩) hHeld ?_
        case hy => (try dsimp only at hw); go_simp
        simp only [Act.put, List.setIfInBounds_toArray, List.set_cons_zero, List.set_cons_succ]
        refine wpAnyH_take (i := 8) (oi := ⟨some 146, _, _, _, _, _⟩) (v := .pointer (some ⟨wr.heap.size, 3, none⟩)) rfl (by kernel_rfl) (by kernel_rfl) (by kernel_rfl) (fun _ _ _ h => h) (Or.inl ⟨by rfl, fun w' hw => ?hy⟩) hHeld ?_
        case hy => (try dsimp only at hw); go_simp
        simp only [Act.put, List.setIfInBounds_toArray, List.set_cons_zero, List.set_cons_succ]
        refine wpAnyH_take (i := 9) (oi := ⟨some 147, _, _, _, _, _⟩) (v := .int .i64 (V : Int)) rfl (by kernel_rfl) (by kernel_rfl) (by kernel_rfl) (fun _ _ _ h => h) (Or.inl ⟨by rfl, fun w' hw => ?hy⟩) hHeld ?_
        case hy => (try dsimp only at hw); go_simp
        simp only [Act.put, List.setIfInBounds_toArray, List.set_cons_zero, List.set_cons_succ]
        refine wpAnyH_take (i := 10) (oi := ⟨some 148, _, _, _, _, _⟩) (v := .pointer (some ⟨rb, ro + V, none⟩)) rfl (by kernel_rfl) (by kernel_rfl) (by kernel_rfl) (fun _ _ _ h => h) (Or.inl ⟨by rfl, fun w' hw => ?hy⟩) hHeld ?_
        case hy => (try dsimp only at hw); go_simp
        simp only [Act.put, List.setIfInBounds_toArray, List.set_cons_zero, List.set_cons_succ]
        refine wpAnyH_take (i := 11) (oi := ⟨some 149, _, _, _, _, _⟩) (v := .int .i64 (zg zs V)) rfl (by kernel_rfl) (by kernel_rfl) (by kernel_rfl) (fun _ _ _ h => h) (Or.inl ⟨by rfl, fun w' hw => ?hy⟩) hHeld ?_
        case hy => (try dsimp only at hw); go_simp
        simp only [Act.put, List.setIfInBounds_toArray, List.set_cons_zero, List.set_cons_succ]
        refine wpAnyH_take (i := 12) (oi := ⟨some 150, _, _, _, _, _⟩) (v := .pointer (some ⟨w.heap.size + 1, 0, none⟩)) rfl (by kernel_rfl) (by kernel_rfl) (by kernel_rfl) (fun _ _ _ h => h) (Or.inl ⟨by rfl, fun w' hw => ?hy⟩) hHeld ?_
        case hy => (try dsimp only at hw); go_simp
        simp only [Act.put, List.setIfInBounds_toArray, List.set_cons_zero, List.set_cons_succ]
        refine wpAnyH_take (i := 13) (oi := ⟨some 151, _, _, _, _, _⟩) (v := .slice (some ⟨rb, ro, none⟩) zs.length cr) rfl (by kernel_rfl) (by kernel_rfl) (by kernel_rfl) (fun _ _ _ h => h) (Or.inl ⟨by rfl, fun w' hw => ?hy⟩) hHeld ?_
        case hy => (try dsimp only at hw); go_simp
        simp only [Act.put, List.setIfInBounds_toArray, List.set_cons_zero, List.set_cons_succ]
        refine wpAnyH_take (i := 14) (oi := ⟨some 152, _, _, _, _, _⟩) (v := .pointer (some ⟨wr.heap.size, 0, none⟩)) rfl (by kernel_rfl) (by kernel_rfl) (by kernel_rfl) (fun _ _ _ h => h) (Or.inl ⟨by rfl, fun w' hw => ?hy⟩) hHeld ?_
        case hy => (try dsimp only at hw); go_simp
        simp only [Act.put, List.setIfInBounds_toArray, List.set_cons_zero, List.set_cons_succ]
        refine wpAnyH_take (i := 15) (oi := ⟨some 153, _, _, _, _, _⟩) (v := .int .i64 (F : Int)) rfl (by kernel_rfl) (by kernel_rfl) (by kernel_rfl) (fun _ _ _ h => h) (Or.inl ⟨by rfl, fun w' hw => ?hy⟩) hHeld ?_
        case hy => (try dsimp only at hw); go_simp
        simp only [Act.put, List.setIfInBounds_toArray, List.set_cons_zero, List.set_cons_succ]
        refine wpAnyH_take (i := 16) (oi := ⟨some 154, _, _, _, _, _⟩) (v := .pointer (some ⟨rb, ro + F, none⟩)) rfl (by kernel_rfl) (by kernel_rfl) (by kernel_rfl) (fun _ _ _ h => h) (Or.inl ⟨by rfl, fun w' hw => ?hy⟩) hHeld ?_
        case hy => (try dsimp only at hw); go_simp
        simp only [Act.put, List.setIfInBounds_toArray, List.set_cons_zero, List.set_cons_succ]
        refine wpAnyH_take (i := 17) (oi := ⟨some 155, _, _, _, _, _⟩) (v := .int .i64 (zg zs F)) rfl (by kernel_rfl) (by kernel_rfl) (by kernel_rfl) (fun _ _ _ h => h) (Or.inl ⟨by rfl, fun w' hw => ?hy⟩) hHeld ?_
        case hy => (try dsimp only at hw); go_simp
        simp only [Act.put, List.setIfInBounds_toArray, List.set_cons_zero, List.set_cons_succ]
        refine wpAnyH_take (i := 18) (oi := ⟨some 156, _, _, _, _, _⟩) (v := .bool false) rfl (by kernel_rfl) (by kernel_rfl) (by kernel_rfl) (fun _ _ _ h => h) (Or.inl ⟨by rfl, fun w' hw => ?hy⟩) hHeld ?_
        case hy => (try dsimp only at hw); go_simp
        simp only [Act.put, List.setIfInBounds_toArray, List.set_cons_zero, List.set_cons_succ]
        refine wpAnyH_take (i := 19) (oi := ⟨some 157, _, _, _, _, _⟩) (v := .bool false) rfl (by kernel_rfl) (by kernel_rfl) (by kernel_rfl) (fun _ _ _ h => h) (Or.inl ⟨by rfl, fun w' hw => ?hy⟩) hHeld ?_
        case hy => (try dsimp only at hw); go_simp
        simp only [Act.put, List.setIfInBounds_toArray, List.set_cons_zero, List.set_cons_succ]
        refine wpAnyH_take (i := 20) (oi := ⟨some 158, _, _, _, _, _⟩) (v := .bool false) rfl (by kernel_rfl) (by kernel_rfl) (by kernel_rfl) (fun _ _ _ h => h) (Or.inl ⟨by rfl, fun w' hw => ?hy⟩) hHeld ?_
        case hy => (try dsimp only at hw); go_simp
        simp only [Act.put, List.setIfInBounds_toArray, List.set_cons_zero, List.set_cons_succ]
        refine wpAnyH_take (i := 21) (oi := ⟨some 159, _, _, _, _, _⟩) (v := .pointer (some ⟨w.heap.size + 1, 0, none⟩)) rfl (by kernel_rfl) (by kernel_rfl) (by kernel_rfl) (fun _ _ _ h => h) (Or.inl ⟨by rfl, fun w' hw => ?hy⟩) hHeld ?_
        case hy => (try dsimp only at hw); go_simp
        simp only [Act.put, List.setIfInBounds_toArray, List.set_cons_zero, List.set_cons_succ]
        refine wpAnyH_take (i := 22) (oi := ⟨some 160, _, _, _, _, _⟩) (v := .slice (some ⟨rb, ro, none⟩) zs.length cr) rfl (by kernel_rfl) (by kernel_rfl) (by kernel_rfl) (fun _ _ _ h => h) (Or.inl ⟨by rfl, fun w' hw => ?hy⟩) hHeld ?_
        case hy => (try dsimp only at hw); go_simp
        simp only [Act.put, List.setIfInBounds_toArray, List.set_cons_zero, List.set_cons_succ]
        refine wpAnyH_take (i := 23) (oi := ⟨some 161, _, _, _, _, _⟩) (v := .pointer (some ⟨wr.heap.size, 3, none⟩)) rfl (by kernel_rfl) (by kernel_rfl) (by kernel_rfl) (fun _ _ _ h => h) (Or.inl ⟨by rfl, fun w' hw => ?hy⟩) hHeld ?_
        case hy => (try dsimp only at hw); go_simp
        simp only [Act.put, List.setIfInBounds_toArray, List.set_cons_zero, List.set_cons_succ]
        refine wpAnyH_take (i := 24) (oi := ⟨some 162, _, _, _, _, _⟩) (v := .int .i64 (V : Int)) rfl (by kernel_rfl) (by kernel_rfl) (by kernel_rfl) (fun _ _ _ h => h) (Or.inl ⟨by rfl, fun w' hw => ?hy⟩) hHeld ?_
        case hy => (try dsimp only at hw); go_simp
        simp only [Act.put, List.setIfInBounds_toArray, List.set_cons_zero, List.set_cons_succ]
        refine wpAnyH_take (i := 25) (oi := ⟨some 163, _, _, _, _, _⟩) (v := .pointer (some ⟨rb, ro + V, none⟩)) rfl (by kernel_rfl) (by kernel_rfl) (by kernel_rfl) (fun _ _ _ h => h) (Or.inl ⟨by rfl, fun w' hw => ?hy⟩) hHeld ?_
        case hy => (try dsimp only at hw); go_simp
        simp only [Act.put, List.setIfInBounds_toArray, List.set_cons_zero, List.set_cons_succ]
        refine wpAnyH_take (i := 26) (oi := ⟨some 164, _, _, _, _, _⟩) (v := .int .i64 (zg zs V)) rfl (by kernel_rfl) (by kernel_rfl) (by kernel_rfl) (fun _ _ _ h => h) (Or.inl ⟨by rfl, fun w' hw => ?hy⟩) hHeld ?_
        case hy => (try dsimp only at hw); go_simp
        simp only [Act.put, List.setIfInBounds_toArray, List.set_cons_zero, List.set_cons_succ]
        refine wpAnyH_take (i := 27) (oi := ⟨some 165, _, _, _, _, _⟩) (v := .pointer (some ⟨w.heap.size + 1, 0, none⟩)) rfl (by kernel_rfl) (by kernel_rfl) (by kernel_rfl) (fun _ _ _ h => h) (Or.inl ⟨by rfl, fun w' hw => ?hy⟩) hHeld ?_
        case hy => (try dsimp only at hw); go_simp
        simp only [Act.put, List.setIfInBounds_toArray, List.set_cons_zero, List.set_cons_succ]
        refine wpAnyH_take (i := 28) (oi := ⟨some 166, _, _, _, _, _⟩) (v := .slice (some ⟨rb, ro, none⟩) zs.length cr) rfl (by kernel_rfl) (by kernel_rfl) (by kernel_rfl) (fun _ _ _ h => h) (Or.inl ⟨by rfl, fun w' hw => ?hy⟩) hHeld ?_
        case hy => (try dsimp only at hw); go_simp
        simp only [Act.put, List.setIfInBounds_toArray, List.set_cons_zero, List.set_cons_succ]
        refine wpAnyH_take (i := 29) (oi := ⟨some 167, _, _, _, _, _⟩) (v := .pointer (some ⟨wr.heap.size, 1, none⟩)) rfl (by kernel_rfl) (by kernel_rfl) (by kernel_rfl) (fun _ _ _ h => h) (Or.inl ⟨by rfl, fun w' hw => ?hy⟩) hHeld ?_
        case hy => (try dsimp only at hw); go_simp
        simp only [Act.put, List.setIfInBounds_toArray, List.set_cons_zero, List.set_cons_succ]
        refine wpAnyH_take (i := 30) (oi := ⟨some 168, _, _, _, _, _⟩) (v := .int .i64 (Tn : Int)) rfl (by kernel_rfl) (by kernel_rfl) (by kernel_rfl) (fun _ _ _ h => h) (Or.inl ⟨by rfl, fun w' hw => ?hy⟩) hHeld ?_
        case hy => (try dsimp only at hw); go_simp
        simp only [Act.put, List.setIfInBounds_toArray, List.set_cons_zero, List.set_cons_succ]
        refine wpAnyH_take (i := 31) (oi := ⟨some 169, _, _, _, _, _⟩) (v := .pointer (some ⟨rb, ro + Tn, none⟩)) rfl (by kernel_rfl) (by kernel_rfl) (by kernel_rfl) (fun _ _ _ h => h) (Or.inl ⟨by rfl, fun w' hw => ?hy⟩) hHeld ?_
        case hy => (try dsimp only at hw); go_simp
        simp only [Act.put, List.setIfInBounds_toArray, List.set_cons_zero, List.set_cons_succ]
        refine wpAnyH_take (i := 32) (oi := ⟨some 170, _, _, _, _, _⟩) (v := .int .i64 (zg zs Tn)) rfl (by kernel_rfl) (by kernel_rfl) (by kernel_rfl) (fun _ _ _ h => h) (Or.inl ⟨by rfl, fun w' hw => ?hy⟩) hHeld ?_
        case hy => (try dsimp only at hw); go_simp
        simp only [Act.put, List.setIfInBounds_toArray, List.set_cons_zero, List.set_cons_succ]
        refine wpAnyH_take (i := 33) (oi := ⟨some 171, _, _, _, _, _⟩) (v := .bool true) rfl (by kernel_rfl) (by kernel_rfl) (by kernel_rfl) (fun _ _ _ h => h) (Or.inl ⟨by rfl, fun w' hw => ?hy⟩) hHeld ?_
        case hy => (try dsimp only at hw); go_simp
        simp only [Act.put, List.setIfInBounds_toArray, List.set_cons_zero, List.set_cons_succ]
        refine wpAnyH_take (i := 34) (oi := ⟨some 172, _, _, _, _, _⟩) (v := .bool true) rfl (by kernel_rfl) (by kernel_rfl) (by kernel_rfl) (fun _ _ _ h => h) (Or.inl ⟨by rfl, fun w' hw => ?hy⟩) hHeld ?_
        case hy => (try dsimp only at hw); go_simp
        simp only [Act.put, List.setIfInBounds_toArray, List.set_cons_zero, List.set_cons_succ]
        refine wpAnyH_done (by kernel_rfl) ?_ _
        have KK := HkR.bel hHeld
        clear hHeld
        go_wp2
        go_ret
        exact ⟨retBo HE.out.symm, KK⟩
    have g2 : decide (zg zs Tn ≤ zg zs V) = false := decide_eq_false h2
    have HRK : Hid (zg zs V < zg zs F ∧ zg zs V < zg zs Tn) := Lib.hid ⟨by omega, by omega⟩
    as_aux_lemma =>
    go_wp2_with fail
    clear x0 x1 y0 y1 a0 a1 a2 a3
    refine wp_region_held_drew (S := (fun w' => HkR w w.heap.size (w.heap.size + 1) w.heap.size wr.heap.size (.slice N ps.length cn) (.slice Ar rs.length ca) (.slice (some ⟨rb, ro, none⟩) zs.length cr) (.slice (some ⟨b, off, none⟩) hs.length cb) (.slice N ps.length cn) (.slice Ar rs.length ca) (F : Int) (Tn : Int) l (V : Int) rb (ro + V) (ro + F) (ro + Tn) (zg zs V) (zg zs F) (zg zs Tn) w')) (by kernel_rfl) ?_ (fun hHeld => ?_)
    · as_aux_lemma =>
        exact T0
    clear T0
    refine wpAnyH_take (i := 0) (oi := ⟨some 138, _, _, _, _, _⟩) (v := .agg #[.slice N ps.length cn, .slice Ar rs.length ca]) rfl (by kernel_rfl) (by kernel_rfl) (by kernel_rfl) (fun _ _ _ h => h) (Or.inl ⟨by rfl, fun w' hw => ?hy⟩) hHeld ?_
    case hy => (try dsimp only at hw); go_simp
    simp only [Act.put, List.setIfInBounds_toArray, List.set_cons_zero, List.set_cons_succ]
    refine wpAnyH_take (i := 1) (oi := ⟨some 139, _, _, _, _, _⟩) (v := .pointer (some ⟨wr.heap.size, 3, none⟩)) rfl (by kernel_rfl) (by kernel_rfl) (by kernel_rfl) (fun _ _ _ h => h) (Or.inl ⟨by rfl, fun w' hw => ?hy⟩) hHeld ?_
    case hy => (try dsimp only at hw); go_simp
    simp only [Act.put, List.setIfInBounds_toArray, List.set_cons_zero, List.set_cons_succ]
    refine wpAnyH_take (i := 2) (oi := ⟨some 140, _, _, _, _, _⟩) (v := .int .i64 (V : Int)) rfl (by kernel_rfl) (by kernel_rfl) (by kernel_rfl) (fun _ _ _ h => h) (Or.inl ⟨by rfl, fun w' hw => ?hy⟩) hHeld ?_
    case hy => (try dsimp only at hw); go_simp
    simp only [Act.put, List.setIfInBounds_toArray, List.set_cons_zero, List.set_cons_succ]
    refine wpAnyH_ready (rs := [3]) (by kernel_rfl) (by simp) ?_
    refine AllReadyH.cons (o := ⟨some 141, _, _, _, _, _⟩) rfl (fun K hK => ?_) AllReadyH.nil
    go_simp
    refine (l04Node_any N Ar ps.length rs.length cn ca (V : Int) _ hn).mono ?_; rw [HND.out]; rintro e w3 ⟨rfl, b3⟩
    go_wp2_with fail
    refine hK.out _ _ ?_ (fun hHeld => ?_)
    · as_aux_lemma =>
        exact HkR.under b3 hHeld
    clear hK K
    try simp only [Act.put, List.setIfInBounds_toArray, List.set_cons_zero, List.set_cons_succ]
    refine wpAnyH_take (i := 4) (oi := ⟨some 142, _, _, _, _, _⟩) (v := .bool false) rfl (by kernel_rfl) (by kernel_rfl) (by kernel_rfl) (fun _ _ _ h => h) (Or.inl ⟨by rfl, fun w' hw => ?hy⟩) hHeld ?_
    case hy => (try dsimp only at hw); go_simp
    simp only [Act.put, List.setIfInBounds_toArray, List.set_cons_zero, List.set_cons_succ]
    refine wpAnyH_take (i := 5) (oi := ⟨some 143, _, _, _, _, _⟩) (v := .bool false) rfl (by kernel_rfl) (by kernel_rfl) (by kernel_rfl) (fun _ _ _ h => h) (Or.inl ⟨by rfl, fun w' hw => ?hy⟩) hHeld ?_
    case hy => (try dsimp only at hw); go_simp
    simp only [Act.put, List.setIfInBounds_toArray, List.set_cons_zero, List.set_cons_succ]
    refine wpAnyH_take (i := 6) (oi := ⟨some 144, _, _, _, _, _⟩) (v := .pointer (some ⟨w.heap.size + 1, 0, none⟩)) rfl (by kernel_rfl) (by kernel_rfl) (by kernel_rfl) (fun _ _ _ h => h) (Or.inl ⟨by rfl, fun w' hw => ?hy⟩) hHeld ?_
    case hy => (try dsimp only at hw); go_simp
    simp only [Act.put, List.setIfInBounds_toArray, List.set_cons_zero, List.set_cons_succ]
    refine wpAnyH_take (i := 7) (oi := ⟨some 145, _, _, _, _, _⟩) (v := .slice (some ⟨rb, ro, none⟩) zs.length cr) rfl (by kernel_rfl) (by kernel_rfl) (by kernel_rfl) (fun _ _ _ h => h) (Or.inl ⟨by rfl, fun w' hw => ?hy⟩) hHeld ?_
    case hy => (try dsimp only at hw); go_simp
    simp only [Act.put, List.setIfInBounds_toArray, List.set_cons_zero, List.set_cons_succ]
    refine wpAnyH_take (i := 8) (oi := ⟨some 146, _, _, _, _, _⟩) (v := .pointer (some ⟨wr.heap.size, 3, none⟩)) rfl (by kernel_rfl) (by kernel_rfl) (by kernel_rfl) (fun _ _ _ h => h) (Or.inl ⟨by rfl, fun w' hw => ?hy⟩) hHeld ?_
    case hy => (try dsimp only at hw); go_simp
    simp only [Act.put, List.setIfInBounds_toArray, List.set_cons_zero, List.set_cons_succ]
    refine wpAnyH_take (i := 9) (oi := ⟨some 147, _, _, _, _, _⟩) (v := .int .i64 (V : Int)) rfl (by kernel_rfl) (by kernel_rfl) (by kernel_rfl) (fun _ _ _ h => h) (Or.inl ⟨by rfl, fun w' hw => ?hy⟩) hHeld ?_
    case hy => (try dsimp only at hw); go_simp
    simp only [Act.put, List.setIfInBounds_toArray, List.set_cons_zero, List.set_cons_succ]
    refine wpAnyH_take (i := 10) (oi := ⟨some 148, _, _, _, _, _⟩) (v := .pointer (some ⟨rb, ro + V, none⟩)) rfl (by kernel_rfl) (by kernel_rfl) (by kernel_rfl) (fun _ _ _ h => h) (Or.inl ⟨by rfl, fun w' hw => ?hy⟩) hHeld ?_
    case hy => (try dsimp only at hw); go_simp
    simp only [Act.put, List.setIfInBounds_toArray, List.set_cons_zero, List.set_cons_succ]
    refine wpAnyH_take (i := 11) (oi := ⟨some 149, _, _, _, _, _⟩) (v := .int .i64 (zg zs V)) rfl (by kernel_rfl) (by kernel_rfl) (by kernel_rfl) (fun _ _ _ h => h) (Or.inl ⟨by rfl, fun w' hw => ?hy⟩) hHeld ?_
    case hy => (try dsimp only at hw); go_simp
    simp only [Act.put, List.setIfInBounds_toArray, List.set_cons_zero, List.set_cons_succ]
    refine wpAnyH_take (i := 12) (oi := ⟨some 150, _, _, _, _, _⟩) (v := .pointer (some ⟨w.heap.size + 1, 0, none⟩)) rfl (by kernel_rfl) (by kernel_rfl) (by kernel_rfl) (fun _ _ _ h => h) (Or.inl ⟨by rfl, fun w' hw => ?hy⟩) hHeld ?_
    case hy => (try dsimp only at hw); go_simp
    simp only [Act.put, List.setIfInBounds_toArray, List.set_cons_zero, List.set_cons_succ]
    refine wpAnyH_take (i := 13) (oi := ⟨some 151, _, _, _, _, _⟩) (v := .slice (some ⟨rb, ro, none⟩) zs.length cr) rfl (by kernel_rfl) (by kernel_rfl) (by kernel_rfl) (fun _ _ _ h => h) (Or.inl ⟨by rfl, fun w' hw => ?hy⟩) hHeld ?_
    case hy => (try dsimp only at hw); go_simp
    simp only [Act.put, List.setIfInBounds_toArray, List.set_cons_zero, List.set_cons_succ]
    refine wpAnyH_take (i := 14) (oi := ⟨some 152, _, _, _, _, _⟩) (v := .pointer (some ⟨wr.heap.size, 0, none⟩)) rfl (by kernel_rfl) (by kernel_rfl) (by kernel_rfl) (fun _ _ _ h => h) (Or.inl ⟨by rfl, fun w' hw => ?hy⟩) hHeld ?_
    case hy => (try dsimp only at hw); go_simp
    simp only [Act.put, List.setIfInBounds_toArray, List.set_cons_zero, List.set_cons_succ]
    refine wpAnyH_take (i := 15) (oi := ⟨some 153, _, _, _, _, _⟩) (v := .int .i64 (F : Int)) rfl (by kernel_rfl) (by kernel_rfl) (by kernel_rfl) (fun _ _ _ h => h) (Or.inl ⟨by rfl, fun w' hw => ?hy⟩) hHeld ?_
    case hy => (try dsimp only at hw); go_simp
    simp only [Act.put, List.setIfInBounds_toArray, List.set_cons_zero, List.set_cons_succ]
    refine wpAnyH_take (i := 16) (oi := ⟨some 154, _, _, _, _, _⟩) (v := .pointer (some ⟨rb, ro + F, none⟩)) rfl (by kernel_rfl) (by kernel_rfl) (by kernel_rfl) (fun _ _ _ h => h) (Or.inl ⟨by rfl, fun w' hw => ?hy⟩) hHeld ?_
    case hy => (try dsimp only at hw); go_simp
    simp only [Act.put, List.setIfInBounds_toArray, List.set_cons_zero, List.set_cons_succ]
    refine wpAnyH_take (i := 17) (oi := ⟨some 155, _, _, _, _, _⟩) (v := .int .i64 (zg zs F)) rfl (by kernel_rfl) (by kernel_rfl) (by kernel_rfl) (fun _ _ _ h => h) (Or.inl ⟨by rfl, fun w' hw => ?hy⟩) hHeld ?_
    case hy => (try dsimp only at hw); go_simp
    simp only [Act.put, List.setIfInBounds_toArray, List.set_cons_zero, List.set_cons_succ]
    refine wpAnyH_take (i := 18) (oi := ⟨some 156, _, _, _, _, _⟩) (v := .bool false) rfl (by kernel_rfl) (by kernel_rfl) (by kernel_rfl) (fun _ _ _ h => h) (Or.inl ⟨by rfl, fun w' hw => ?hy⟩) hHeld ?_
    case hy => (try dsimp only at hw); go_simp
    simp only [Act.put, List.setIfInBounds_toArray, List.set_cons_zero, List.set_cons_succ]
    refine wpAnyH_take (i := 19) (oi := ⟨some 157, _, _, _, _, _⟩) (v := .bool false) rfl (by kernel_rfl) (by kernel_rfl) (by kernel_rfl) (fun _ _ _ h => h) (Or.inl ⟨by rfl, fun w' hw => ?hy⟩) hHeld ?_
    case hy => (try dsimp only at hw); go_simp
    simp only [Act.put, List.setIfInBounds_toArray, List.set_cons_zero, List.set_cons_succ]
    refine wpAnyH_take (i := 20) (oi := ⟨some 158, _, _, _, _, _⟩) (v := .bool false) rfl (by kernel_rfl) (by kernel_rfl) (by kernel_rfl) (fun _ _ _ h => h) (Or.inl ⟨by rfl, fun w' hw => ?hy⟩) hHeld ?_
    case hy => (try dsimp only at hw); go_simp
    simp only [Act.put, List.setIfInBounds_toArray, List.set_cons_zero, List.set_cons_succ]
    refine wpAnyH_take (i := 21) (oi := ⟨some 159, _, _, _, _, _⟩) (v := .pointer (some ⟨w.heap.size + 1, 0, none⟩)) rfl (by kernel_rfl) (by kernel_rfl) (by kernel_rfl) (fun _ _ _ h => h) (Or.inl ⟨by rfl, fun w' hw => ?hy⟩) hHeld ?_
    case hy => (try dsimp only at hw); go_simp
    simp only [Act.put, List.setIfInBounds_toArray, List.set_cons_zero, List.set_cons_succ]
    refine wpAnyH_take (i := 22) (oi := ⟨some 160, _, _, _, _, _⟩) (v := .slice (some ⟨rb, ro, none⟩) zs.length cr) rfl (by kernel_rfl) (by kernel_rfl) (by kernel_rfl) (fun _ _ _ h => h) (Or.inl ⟨by rfl, fun w' hw => ?hy⟩) hHeld ?_
    case hy => (try dsimp only at hw); go_simp
    simp only [Act.put, List.setIfInBounds_toArray, List.set_cons_zero, List.set_cons_succ]
    refine wpAnyH_take (i := 23) (oi := ⟨some 161, _, _, _, _, _⟩) (v := .pointer (some ⟨wr.heap.size, 3, none⟩)) rfl (by kernel_rfl) (by kernel_rfl) (by kernel_rfl) (fun _ _ _ h => h) (Or.inl ⟨by rfl, fun w' hw => ?hy⟩) hHeld ?_
    case hy => (try dsimp only at hw); go_simp
    simp only [Act.put, List.setIfInBounds_toArray, List.set_cons_zero, List.set_cons_succ]
    refine wpAnyH_take (i := 24) (oi := ⟨some 162, _, _, _, _, _⟩) (v := .int .i64 (V : Int)) rfl (by kernel_rfl) (by kernel_rfl) (by kernel_rfl) (fun _ _ _ h => h) (Or.inl ⟨by rfl, fun w' hw => ?hy⟩) hHeld ?_
    case hy => (try dsimp only at hw); go_simp
    simp only [Act.put, List.setIfInBounds_toArray, List.set_cons_zero, List.set_cons_succ]
    refine wpAnyH_take (i := 25) (oi := ⟨some 163, _, _, _, _, _⟩) (v := .pointer (some ⟨rb, ro + V, none⟩)) rfl (by kernel_rfl) (by kernel_rfl) (by kernel_rfl) (fun _ _ _ h => h) (Or.inl ⟨by rfl, fun w' hw => ?hy⟩) hHeld ?_
    case hy => (try dsimp only at hw); go_simp
    simp only [Act.put, List.setIfInBounds_toArray, List.set_cons_zero, List.set_cons_succ]
    refine wpAnyH_take (i := 26) (oi := ⟨some 164, _, _, _, _, _⟩) (v := .int .i64 (zg zs V)) rfl (by kernel_rfl) (by kernel_rfl) (by kernel_rfl) (fun _ _ _ h => h) (Or.inl ⟨by rfl, fun w' hw => ?hy⟩) hHeld ?_
    case hy => (try dsimp only at hw); go_simp
    simp only [Act.put, List.setIfInBounds_toArray, List.set_cons_zero, List.set_cons_succ]
    refine wpAnyH_take (i := 27) (oi := ⟨some 165, _, _, _, _, _⟩) (v := .pointer (some ⟨w.heap.size + 1, 0, none⟩)) rfl (by kernel_rfl) (by kernel_rfl) (by kernel_rfl) (fun _ _ _ h => h) (Or.inl ⟨by rfl, fun w' hw => ?hy⟩) hHeld ?_
    case hy => (try dsimp only at hw); go_simp
    simp only [Act.put, List.setIfInBounds_toArray, List.set_cons_zero, List.set_cons_succ]
    refine wpAnyH_take (i := 28) (oi := ⟨some 166, _, _, _, _, _⟩) (v := .slice (some ⟨rb, ro, none⟩) zs.length cr) rfl (by kernel_rfl) (by kernel_rfl) (by kernel_rfl) (fun _ _ _ h => h) (Or.inl ⟨by rfl, fun w' hw => ?hy⟩) hHeld ?_
    case hy => (try dsimp only at hw); go_simp
    simp only [Act.put, List.setIfInBounds_toArray, List.set_cons_zero, List.set_cons_succ]
    refine wpAnyH_take (i := 29) (oi := ⟨some 167, _, _, _, _, _⟩) (v := .pointer (some ⟨wr.heap.size, 1, none⟩)) rfl (by kernel_rfl) (by kernel_rfl) (by kernel_rfl) (fun _ _ _ h => h) (Or.inl ⟨by rfl, fun w' hw => ?hy⟩) hHeld ?_
    case hy => (try dsimp only at hw); go_simp
    simp only [Act.put, List.setIfInBounds_toArray, List.set_cons_zero, List.set_cons_succ]
    refine wpAnyH_take (i := 30) (oi := ⟨some 168, _, _, _, _, _⟩) (v := .int .i64 (Tn : Int)) rfl (by kernel_rfl) (by kernel_rfl) (by kernel_rfl) (fun _ _ _ h => h) (Or.inl ⟨by rfl, fun w' hw => ?hy⟩) hHeld ?_
    case hy => (try dsimp only at hw); go_simp
    simp only [Act.put, List.setIfInBounds_toArray, List.set_cons_zero, List.set_cons_succ]
    refine wpAnyH_take (i := 31) (oi := ⟨some 169, _, _, _, _, _⟩) (v := .pointer (some ⟨rb, ro + Tn, none⟩)) rfl (by kernel_rfl) (by kernel_rfl) (by kernel_rfl) (fun _ _ _ h => h) (Or.inl ⟨by rfl, fun w' hw => ?hy⟩) hHeld ?_
    case hy => (try dsimp only at hw); go_simp
    simp only [Act.put, List.setIfInBounds_toArray, List.set_cons_zero, List.set_cons_succ]
    refine wpAnyH_take (i := 32) (oi := ⟨some 170, _, _, _, _, _⟩) (v := .int .i64 (zg zs Tn)) rfl (by kernel_rfl) (by kernel_rfl) (by kernel_rfl) (fun _ _ _ h => h) (Or.inl ⟨by rfl, fun w' hw => ?hy⟩) hHeld ?_
    case hy => (try dsimp only at hw); go_simp
    simp only [Act.put, List.setIfInBounds_toArray, List.set_cons_zero, List.set_cons_succ]
    refine wpAnyH_take (i := 33) (oi := ⟨some 171, _, _, _, _, _⟩) (v := .bool false) rfl (by kernel_rfl) (by kernel_rfl) (by kernel_rfl) (fun _ _ _ h => h) (Or.inl ⟨by rfl, fun w' hw => ?hy⟩) hHeld ?_
    case hy => (try dsimp only at hw); go_simp
    simp only [Act.put, List.setIfInBounds_toArray, List.set_cons_zero, List.set_cons_succ]
    refine wpAnyH_take (i := 34) (oi := ⟨some 172, _, _, _, _, _⟩) (v := .bool false) rfl (by kernel_rfl) (by kernel_rfl) (by kernel_rfl) (fun _ _ _ h => h) (Or.inl ⟨by rfl, fun w' hw => ?hy⟩) hHeld ?_
    case hy => (try dsimp only at hw); go_simp
    simp only [Act.put, List.setIfInBounds_toArray, List.set_cons_zero, List.set_cons_succ]
    refine wpAnyH_done (by kernel_rfl) ?_ _
    have T := hHeld.2.2.2
    clear hHeld h1 h2 g1 g2
    have T2 := T
    obtain ⟨x0, x1, y0, y1, -, -, a0, a1, a2, a3, KK⟩ := T
    have T := T2
    clear T2 KK
    go_wp2_with fail
    clear x0 x1 y0 y1 a0 a1 a2 a3
    go_region_held3 (fun w' => HkS w w.heap.size (w.heap.size + 1) w.heap.size wr.heap.size (.slice N ps.length cn) (.slice Ar rs.length ca) (.slice (some ⟨rb, ro, none⟩) zs.length cr) (.slice (some ⟨b, off, none⟩) hs.length cb) (.slice N ps.length cn) (.slice Ar rs.length ca) (F : Int) (Tn : Int) l (V : Int) w')
      (first | exact HkS.drew T | assumption | (refine HkS.under (by assumption) ?_; assumption))
      (first
        | (go_at_call 46; refine (l09Arc_any _ _ _ _ _ hs _ _ _ hh (hH.below (HkS.bel (by assumption)))).mono ?_; rintro e wX ⟨rfl, bX⟩))
    rename_i hU
    clear T
    have T := hU
    clear hU
    have T2 := T
    obtain ⟨x0, x1, y0, y1, -, -, a0, a1, a2, a3, KK⟩ := T
    have T := T2
    clear T2
    rcases findH_or hs (F : Int) (V : Int) with ⟨h1, -⟩ | ⟨i, hi, h1, -⟩
    · as_aux_lemma =>
        have HE := Lib.hid (HA7.out (fun _ _ e => via_none (rs := rs) (zs := zs) (hs := hs) (a := ((F : Int), (Tn : Int), l, (V : Int))) HVV.out (.inl h1) e))
        rw [h1]
        clear HA7 HNX T h1
        go_wp2_with fail
        go_quiet (fail)
        go_wp2
        go_ret
        exact ⟨retBo HE.out.symm, below_drewN KK _⟩
    rcases findH_or hs (V : Int) (Tn : Int) with ⟨h2, -⟩ | ⟨j, hj, h2, -⟩
    · as_aux_lemma =>
        have HE := Lib.hid (HA7.out (fun _ _ e => via_none (rs := rs) (zs := zs) (hs := hs) (a := ((F : Int), (Tn : Int), l, (V : Int))) HVV.out (.inr h2) e))
        rw [h1, h2]
        have hi0 : decide ((i : Int) < 0) = false := decide_eq_false (by omega)
        have hi1 : ¬ (i : Int) < 0 := by omega
        clear HA7 HNX T h1 h2
        go_wp2_with fail
        go_quiet (fail)
        go_wp2
        go_ret
        exact ⟨retBo HE.out.symm, below_drewN KK _⟩
    have HY := Lib.hid (fun (e : (hcg hs i).2.2.1 + (hcg hs j).2.2.1 = l) => via_yes (rs := rs) (zs := zs) (hs := hs) (a := ((F : Int), (Tn : Int), l, (V : Int))) (i := i) (j := j) HVV.out HNZ.out HRK.out.1 HRK.out.2 h1 h2 e)
    have HL := Lib.hid (fun ha (e : explP rs zs hs ((F : Int), (Tn : Int), l, (V : Int))) => via_len (rs := rs) (zs := zs) (hs := hs) (a := ((F : Int), (Tn : Int), l, (V : Int))) (i := i) (j := j) HVV.out h1 h2 ha e)
    have HOI : Hid (hok zs.length hs → (1 ≤ (hcg hs i).2.2.1 ∧ (hcg hs i).2.2.1 ≤ 1000000) ∧ 1 ≤ (hcg hs j).2.2.1 ∧ (hcg hs j).2.2.1 ≤ 1000000) := Lib.hid (fun h => ⟨(h i hi).2.2, (h j hj).2.2⟩)
    rw [h1, h2]
    have hi0 : decide ((i : Int) < 0) = false := decide_eq_false (by omega)
    have hi1 : ¬ (i : Int) < 0 := by omega
    have hj0 : decide ((j : Int) < 0) = false := decide_eq_false (by omega)
    have hj1 : ¬ (j : Int) < 0 := by omega
    have hii : (i : Int) < hs.length := by omega
    have hji : (j : Int) < hs.length := by omega
    obtain ⟨b', off', e', -, -, -, cx, -⟩ := (hH.below KK).at_ hi
    injection e' with e'; injection e' with e1 e2; subst e1; subst e2
    obtain ⟨b', off', e', -, -, -, cy, -⟩ := (hH.below KK).at_ hj
    injection e' with e'; injection e' with e1 e2; subst e1; subst e2
    clear h1 h2
    generalize (hcg hs i).2.2.1 = lx at *
    generalize (hcg hs j).2.2.1 = ly at *
    obtain ⟨s, hws⟩ : ∃ s, IntKind.i64.wrap (lx + ly) = s := ⟨_, rfl⟩
    have HS : Hid (hok zs.length hs → s = lx + ly) := Lib.hid (fun h => by
      have := HOI.out h
      rw [← hws, IntWalk.i64_left]; unfold wrap64; omega)
    cases hsl : (s == l) with
    | false =>
      have HE := Lib.hid (HA7.out (fun ok ha e => by
        have g1 := HS.out ok
        have g2 := HL.out ha e
        rw [g1, g2] at hsl
        simp at hsl))
      have hsn : (s != l) = true := by simpa using hsl
      clear HA7 HNX T
      go_wp2_with fail
      go_quiet (fail)
      go_wp2
      go_ret
      exact ⟨retBo HE.out.symm, below_drewN KK _⟩
    | true =>
      have HE := Lib.hid (HNX.out HE1.out HE2.out HE3.out HE4.out HORD.out (fun ok => HY.out (by have g1 := HS.out ok; have g2 : s = l := (by simpa using hsl); omega)))
      have hsn : (s != l) = false := by simpa using hsl
      clear HA7 HNX
      go_wp2_with fail
      go_quiet (fail)
      go_wp2
      go_roundw
      case rel => exact ⟨k + 1, by omega, by go_num, HE, HkS.two (HkS.drewN T _)⟩
      case measure => simp [intOf]; omega

open Classical in
theorem specHierOk_any (N Ar R B : Option Addr) (cn ca cr cb : Nat) (ps : List (Int × Int)) (rs : List A3) (zs : List Int) (hs : List A4) (w : World) (hn : ps.length ≤ 1048576) (hm : rs.length ≤ 1048576) (hz : zs.length ≤ 1048576) (hh : hs.length ≤ 1048576)
    (hP : IsPts w N ps) (hA : IsArcs w Ar rs) (hR : IsInts w R zs) (hH : IsHs w B hs) :
    Calls Try.prog 15 #[.agg #[.slice N ps.length cn, .slice Ar rs.length ca], .agg #[.slice R zs.length cr, .slice B hs.length cb]] w fun e w' => e = .returned (.bool (hierB ps rs zs hs)) ∧ Below w.heap.size w w' := by
  by_cases hbad : netB ps rs = false ∨ ¬ zs.length = ps.length ∨ ¬ okZ zs ∨ 400 < hs.length
  · exact specHierOk_no N Ar R B cn ca cr cb ps rs zs hs w hn hm hz hh hP hA hR hH hbad
  · have h1 : netB ps rs = true := by cases h : netB ps rs with
      | true => rfl
      | false => exact absurd (.inl h) hbad
    have h2 : zs.length = ps.length := Classical.byContradiction fun h => hbad (.inr (.inl h))
    have h3 : okZ zs := Classical.byContradiction fun h => hbad (.inr (.inr (.inl h)))
    exact specHierOk_yes N Ar R B cn ca cr cb ps rs zs hs w hn hm hz hh hP hA hR hH h1 h2 h3 (fun h => hbad (.inr (.inr (.inr h))))

end Go.Proofs.Ytagaildnfbegkaa
