/-
  What (impl.Hier).climbed computes.
-/
import Derived.Test.YtagaildnfbegkabClimbFin
namespace Go.Proofs.Ytagaildnfbegkab
open Go.RowKit Go.Deep Go.Maps

/-- A hierarchy in its box, and nothing older has turned. -/
abbrev HiS (W0 : World) (b : Nat) (u v : Value) (w : World) : Prop := w.cell? ⟨b, 0, none⟩ = some u ∧ w.cell? ⟨b, 1, none⟩ = some v ∧ Below W0.heap.size W0 w
theorem HiS.under {W0 : World} {b : Nat} {u v : Value} {w w' : World} (hb : Below w.heap.size w w') (h : HiS W0 b u v w) : HiS W0 b u v w' := ⟨cell_under hb h.1, cell_under hb h.2.1, h.2.2.trans (hb.mono h.2.2.size)⟩
/-- Numbers of the call's own; where there are none, no slice at all. -/
def NilMade (w : World) (zs : List Int) (e : Ending) (w' : World) : Prop := (zs = [] → e = .returned (.slice none 0 0)) ∧ IntsMade w zs e w'
theorem nearer_still (d o : Int) (w : World) {bo : Bool} (h : nrB d o = bo) : Calls Try.prog 39 #[.int .i64 d, .int .i64 o] w fun e w' => e = .returned (.bool bo) ∧ w' = w :=
  (nearer_any d o w).mono fun e w' h' => ⟨by rw [h'.1, h], h'.2.symm⟩
theorem mStartUp (v : Value) (w : World) : (method 262 74 v "loop.example/g00640/impl.start").run Try.prog w = .ok (115, v) w := by kernel_rfl
theorem mStartDown (v : Value) (w : World) : (method 262 75 v "loop.example/g00640/impl.start").run Try.prog w = .ok (116, v) w := by kernel_rfl

set_option maxRecDepth 1000000 in
set_option maxHeartbeats 8000000 in
theorem climbed_up_no (s : Int) (A B : Option Addr) (ca cc : Nat) (zs : List Int) (rs : List A4) (w : World) (hn : zs.length ≤ 1048576) (hm : rs.length ≤ 1048576) (ha : IsInts w A zs) (hb : IsHs w B rs) (hs : btB s 0 ((zs.length : Int) - 1) = false) :
    Calls Try.prog 60 #[.agg #[.slice A zs.length ca, .slice B rs.length cc], climbV true s] w fun e w' => ∃ d, ClR zs rs true s d ∧ NilMade w d e w' := by
  have X := Pair.new w 30 (.slice A zs.length ca) (.slice B rs.length cc)
  have K := below1 w (.cells #[.slice A zs.length ca, .slice B rs.length cc] 30)
  obtain ⟨x0, x1, -, -⟩ := X.cells
  have m1 := mStartUp
  have HS := Lib.hid hs
  obtain ⟨W, hW⟩ : ∃ W, W = w.alloc (.cells #[.slice A zs.length ca, .slice B rs.length cc] 30) := ⟨_, rfl⟩
  rw [← hW] at x0 x1 K
  have HW := Lib.hid hW
  have TS : HiS w w.heap.size (.slice A zs.length ca) (.slice B rs.length cc) W.drew := ⟨x0, x1, K.drew⟩
  clear hW X hs
  unfold climbV
  go_enter Try.func60, Try.ntmps60
  go_wp2_with fail
  rw [← HW.out]
  · skip
    refine wp_region_held_drew (S := (fun w' => HiS w w.heap.size (.slice A zs.length ca) (.slice B rs.length cc) w')) (by kernel_rfl) ?_ (fun hHeld => ?_)
    · exact TS
    clear TS
    refine wpAnyH_take (i := 0) (oi := ⟨some 11, _, _, _, _, _⟩) (v := .agg #[.slice A zs.length ca, .slice B rs.length cc]) rfl (by kernel_rfl) (by kernel_rfl) (by kernel_rfl) (fun _ _ _ h => h) (Or.inl ⟨by rfl, fun w' hw => ?hy⟩) hHeld ?_
    case hy => (try dsimp only at hw); go_simp
    simp only [Act.put, List.setIfInBounds_toArray, List.set_cons_zero, List.set_cons_succ]
    refine wpAnyH_take (i := 1) (oi := ⟨some 12, _, _, _, _, _⟩) (v := .iface 74 (.int .i64 s)) rfl (by kernel_rfl) (by kernel_rfl) (by kernel_rfl) (fun _ _ _ h => h) (Or.inl ⟨by rfl, fun w' hw => ?hy⟩) hHeld ?_
    case hy => (try dsimp only at hw); go_simp
    simp only [Act.put, List.setIfInBounds_toArray, List.set_cons_zero, List.set_cons_succ]
    refine wpAnyH_ready (rs := [2]) (by kernel_rfl) (by simp) ?_
    refine AllReadyH.cons (o := ⟨some 13, _, _, _, _, _⟩) rfl (fun K hK => ?_) AllReadyH.nil
    go_simp
    refine (upStart_any s _).mono ?_; rintro e w3 ⟨rfl, rfl⟩
    go_wp2_with fail
    refine hK.out _ _ ?_ (fun hHeld => ?_)
    · exact hHeld
    clear hK K
    try simp only [Act.put, List.setIfInBounds_toArray, List.set_cons_zero, List.set_cons_succ]
    refine wpAnyH_ready (rs := [3]) (by kernel_rfl) (by simp) ?_
    refine AllReadyH.cons (o := ⟨some 14, _, _, _, _, _⟩) rfl (fun K hK => ?_) AllReadyH.nil
    go_simp
    refine (hasNodeH_any A B zs.length ca rs.length cc s _ hn).mono ?_; rw [HS.out]; rintro e w4 ⟨rfl, b4⟩
    go_wp2_with fail
    refine hK.out _ _ ?_ (fun hHeld => ?_)
    · exact HiS.under b4 hHeld
    clear hK K
    try simp only [Act.put, List.setIfInBounds_toArray, List.set_cons_zero, List.set_cons_succ]
    refine wpAnyH_take (i := 4) (oi := ⟨some 15, _, _, _, _, _⟩) (v := .bool true) rfl (by kernel_rfl) (by kernel_rfl) (by kernel_rfl) (fun _ _ _ h => h) (Or.inl ⟨by rfl, fun w' hw => ?hy⟩) hHeld ?_
    case hy => (try dsimp only at hw); go_simp
    simp only [Act.put, List.setIfInBounds_toArray, List.set_cons_zero, List.set_cons_succ]
    refine wpAnyH_take (i := 5) (oi := ⟨some 16, _, _, _, _, _⟩) (v := .bool true) rfl (by kernel_rfl) (by kernel_rfl) (by kernel_rfl) (fun _ _ _ h => h) (Or.inl ⟨by rfl, fun w' hw => ?hy⟩) hHeld ?_
    case hy => (try dsimp only at hw); go_simp
    simp only [Act.put, List.setIfInBounds_toArray, List.set_cons_zero, List.set_cons_succ]
    refine wpAnyH_take (i := 6) (oi := ⟨some 17, _, _, _, _, _⟩) (v := undef) rfl (by kernel_rfl) (by kernel_rfl) (by kernel_rfl) (fun _ _ _ h => h) (Or.inr ⟨by rfl, rfl⟩) hHeld ?_
    simp only [Act.put, List.setIfInBounds_toArray, List.set_cons_zero, List.set_cons_succ]
    refine wpAnyH_take (i := 7) (oi := ⟨some 18, _, _, _, _, _⟩) (v := undef) rfl (by kernel_rfl) (by kernel_rfl) (by kernel_rfl) (fun _ _ _ h => h) (Or.inr ⟨by rfl, rfl⟩) hHeld ?_
    simp only [Act.put, List.setIfInBounds_toArray, List.set_cons_zero, List.set_cons_succ]
    refine wpAnyH_take (i := 8) (oi := ⟨some 19, _, _, _, _, _⟩) (v := undef) rfl (by kernel_rfl) (by kernel_rfl) (by kernel_rfl) (fun _ _ _ h => h) (Or.inr ⟨by rfl, rfl⟩) hHeld ?_
    simp only [Act.put, List.setIfInBounds_toArray, List.set_cons_zero, List.set_cons_succ]
    refine wpAnyH_take (i := 9) (oi := ⟨some 20, _, _, _, _, _⟩) (v := .bool true) rfl (by kernel_rfl) (by kernel_rfl) (by kernel_rfl) (fun _ _ _ h => h) (Or.inl ⟨by rfl, fun w' hw => ?hy⟩) hHeld ?_
    case hy => (try dsimp only at hw); go_simp
    simp only [Act.put, List.setIfInBounds_toArray, List.set_cons_zero, List.set_cons_succ]
    refine wpAnyH_done (by kernel_rfl) ?_ _
    go_wp2
    go_ret
    exact ⟨[], .inr ⟨.inl HS.out, rfl⟩, fun _ => rfl, none, 0, rfl, by simp, (fun hp => by simp at hp), hHeld.2.2⟩

set_option maxRecDepth 1000000 in
set_option maxHeartbeats 8000000 in
theorem climbed_up_yes (s : Int) (A B : Option Addr) (ca cc : Nat) (zs : List Int) (rs : List A4) (w : World) (hn : zs.length ≤ 1048576) (hm : rs.length ≤ 1048576) (ha : IsInts w A zs) (hb : IsHs w B rs) (hs : btB s 0 ((zs.length : Int) - 1) = true) :
    Calls Try.prog 60 #[.agg #[.slice A zs.length ca, .slice B rs.length cc], climbV true s] w fun e w' => ∃ d, ClR zs rs true s d ∧ NilMade w d e w' := by
  have X := Pair.new w 30 (.slice A zs.length ca) (.slice B rs.length cc)
  have K := below1 w (.cells #[.slice A zs.length ca, .slice B rs.length cc] 30)
  obtain ⟨x0, x1, -, -⟩ := X.cells
  have m1 := mStartUp
  have HS := Lib.hid hs
  obtain ⟨S, rfl, hS⟩ := node_is hs
  obtain ⟨W, hW⟩ : ∃ W, W = w.alloc (.cells #[.slice A zs.length ca, .slice B rs.length cc] 30) := ⟨_, rfl⟩
  rw [← hW] at x0 x1 K
  have HW := Lib.hid hW
  have TS : HiS w w.heap.size (.slice A zs.length ca) (.slice B rs.length cc) W.drew := ⟨x0, x1, K.drew⟩
  clear hW X hs
  unfold climbV
  go_enter Try.func60, Try.ntmps60
  go_wp2_with fail
  rw [← HW.out]
  · skip
    refine wp_region_held_drew (S := (fun w' => HiS w w.heap.size (.slice A zs.length ca) (.slice B rs.length cc) w')) (by kernel_rfl) ?_ (fun hHeld => ?_)
    · exact TS
    clear TS
    refine wpAnyH_take (i := 0) (oi := ⟨some 11, _, _, _, _, _⟩) (v := .agg #[.slice A zs.length ca, .slice B rs.length cc]) rfl (by kernel_rfl) (by kernel_rfl) (by kernel_rfl) (fun _ _ _ h => h) (Or.inl ⟨by rfl, fun w' hw => ?hy⟩) hHeld ?_
    case hy => (try dsimp only at hw); go_simp
    simp only [Act.put, List.setIfInBounds_toArray, List.set_cons_zero, List.set_cons_succ]
    refine wpAnyH_take (i := 1) (oi := ⟨some 12, _, _, _, _, _⟩) (v := .iface 74 (.int .i64 (S : Int))) rfl (by kernel_rfl) (by kernel_rfl) (by kernel_rfl) (fun _ _ _ h => h) (Or.inl ⟨by rfl, fun w' hw => ?hy⟩) hHeld ?_
    case hy => (try dsimp only at hw); go_simp
    simp only [Act.put, List.setIfInBounds_toArray, List.set_cons_zero, List.set_cons_succ]
    refine wpAnyH_ready (rs := [2]) (by kernel_rfl) (by simp) ?_
    refine AllReadyH.cons (o := ⟨some 13, _, _, _, _, _⟩) rfl (fun K hK => ?_) AllReadyH.nil
    go_simp
    refine (upStart_any (S : Int) _).mono ?_; rintro e w3 ⟨rfl, rfl⟩
    go_wp2_with fail
    refine hK.out _ _ ?_ (fun hHeld => ?_)
    · exact hHeld
    clear hK K
    try simp only [Act.put, List.setIfInBounds_toArray, List.set_cons_zero, List.set_cons_succ]
    refine wpAnyH_ready (rs := [3]) (by kernel_rfl) (by simp) ?_
    refine AllReadyH.cons (o := ⟨some 14, _, _, _, _, _⟩) rfl (fun K hK => ?_) AllReadyH.nil
    go_simp
    refine (hasNodeH_any A B zs.length ca rs.length cc (S : Int) _ hn).mono ?_; rw [HS.out]; rintro e w4 ⟨rfl, b4⟩
    go_wp2_with fail
    refine hK.out _ _ ?_ (fun hHeld => ?_)
    · exact HiS.under b4 hHeld
    clear hK K
    try simp only [Act.put, List.setIfInBounds_toArray, List.set_cons_zero, List.set_cons_succ]
    refine wpAnyH_take (i := 4) (oi := ⟨some 15, _, _, _, _, _⟩) (v := .bool false) rfl (by kernel_rfl) (by kernel_rfl) (by kernel_rfl) (fun _ _ _ h => h) (Or.inl ⟨by rfl, fun w' hw => ?hy⟩) hHeld ?_
    case hy => (try dsimp only at hw); go_simp
    simp only [Act.put, List.setIfInBounds_toArray, List.set_cons_zero, List.set_cons_succ]
    refine wpAnyH_take (i := 5) (oi := ⟨some 16, _, _, _, _, _⟩) (v := .bool false) rfl (by kernel_rfl) (by kernel_rfl) (by kernel_rfl) (fun _ _ _ h => h) (Or.inl ⟨by rfl, fun w' hw => ?hy⟩) hHeld ?_
    case hy => (try dsimp only at hw); go_simp
    simp only [Act.put, List.setIfInBounds_toArray, List.set_cons_zero, List.set_cons_succ]
    refine wpAnyH_take (i := 6) (oi := ⟨some 17, _, _, _, _, _⟩) (v := .agg #[.slice A zs.length ca, .slice B rs.length cc]) rfl (by kernel_rfl) (by kernel_rfl) (by kernel_rfl) (fun _ _ _ h => h) (Or.inl ⟨by rfl, fun w' hw => ?hy⟩) hHeld ?_
    case hy => (try dsimp only at hw); go_simp
    simp only [Act.put, List.setIfInBounds_toArray, List.set_cons_zero, List.set_cons_succ]
    refine wpAnyH_ready (rs := [7]) (by kernel_rfl) (by simp) ?_
    refine AllReadyH.cons (o := ⟨some 18, _, _, _, _, _⟩) rfl (fun K hK => ?_) AllReadyH.nil
    go_simp
    refine (arcsOkH_any A B zs.length ca cc rs _ hn hm (hb.below hHeld.2.2)).mono ?_; rintro e w5 ⟨bo, rfl, hy, hno, b5⟩
    go_wp2_with fail
    refine hK.out _ _ ?_ (fun hHeld => ?_)
    · exact HiS.under b5 hHeld
    clear hK K
    try simp only [Act.put, List.setIfInBounds_toArray, List.set_cons_zero, List.set_cons_succ]
    refine wpAnyH_take (i := 8) (oi := ⟨some 19, _, _, _, _, _⟩) (v := .bool (!bo)) rfl (by kernel_rfl) (by kernel_rfl) (by kernel_rfl) (fun _ _ _ h => h) (Or.inl ⟨by rfl, fun w' hw => ?hy⟩) hHeld ?_
    case hy => (try dsimp only at hw); go_simp
    simp only [Act.put, List.setIfInBounds_toArray, List.set_cons_zero, List.set_cons_succ]
    refine wpAnyH_take (i := 9) (oi := ⟨some 20, _, _, _, _, _⟩) (v := .bool (!bo)) rfl (by kernel_rfl) (by kernel_rfl) (by kernel_rfl) (fun _ _ _ h => h) (Or.inl ⟨by rfl, fun w' hw => ?hy⟩) hHeld ?_
    case hy => (try dsimp only at hw); go_simp
    simp only [Act.put, List.setIfInBounds_toArray, List.set_cons_zero, List.set_cons_succ]
    refine wpAnyH_done (by kernel_rfl) ?_ _
    cases bo with
    | false =>
      have HN := Lib.hid (hno rfl)
      clear hy hno
      go_wp2
      go_ret
      exact ⟨[], .inr ⟨.inr HN.out, rfl⟩, fun _ => rfl, none, 0, rfl, by simp, (fun hp => by simp at hp), hHeld.2.2⟩
    | true =>
      have HK := Lib.hid (hy rfl)
      clear hy hno b4 b5
      obtain ⟨x0, x1, K5⟩ := hHeld
      have hSi : (S : Int) < zs.length := by omega
      have kb := below1 w5 (.cells #[.int .i64 (-1)] 3)
      have K6 := K5.trans (kb.mono K5.size)
      have c1 : (w5.alloc (.cells #[.int .i64 (-1)] 3)).cell? ⟨w5.heap.size, 0, none⟩ = some (.int .i64 (-1)) := cell_of_block (heap_alloc_new _ _)
      replace x0 := cell_under kb x0
      replace x1 := cell_under kb x1
      have hz5 : w.heap.size ≤ w5.heap.size := K5.size
      have hz6 : (w5.alloc (.cells #[.int .i64 (-1)] 3)).heap.size = w5.heap.size + 1 := World.size_alloc _ _
      clear kb K5 K
      go_wp2_with fail
      obtain ⟨V, hV⟩ : ∃ V, V = w5.alloc (.cells #[.int .i64 (-1)] 3) := ⟨_, rfl⟩
      rw [← hV] at x0 x1 c1 K6 hz6 ⊢
      clear hV
      refine (repeat_big w5.heap.size 1 zs.length V hn (by omega) c1).mono ?_; rintro e w6 ⟨rfl, I6, b6⟩
      replace x0 := cell_under b6 x0
      replace x1 := cell_under b6 x1
      have K7 := K6.trans (b6.mono K6.size)
      obtain ⟨g, hg⟩ : ∃ g, g = V.heap.size := ⟨_, rfl⟩
      rw [← hg] at I6 ⊢
      have hgw : w.heap.size + 1 ≤ g := by omega
      have I7 := I6.first hS
      have fz := I6.frozen S
      have ic := I6.cell hS
      have K8 : Below w.heap.size w (w6.setCell ⟨g, S, none⟩ (.int .i64 0)) := K7.setCell (by simp; omega) _
      have x0' : (w6.setCell ⟨g, S, none⟩ (.int .i64 0)).cell? ⟨w.heap.size, 0, none⟩ = some (.slice A zs.length ca) := by rw [World.cell?_setCell_far _ _ _ _ (by simp; omega)]; exact x0
      have x1' : (w6.setCell ⟨g, S, none⟩ (.int .i64 0)).cell? ⟨w.heap.size, 1, none⟩ = some (.slice B rs.length cc) := by rw [World.cell?_setCell_far _ _ _ _ (by simp; omega)]; exact x1
      clear b6 c1 K6 K7 hg hz5 hz6 x0 x1
      go_wp2_with fail
      refine (upStart_any (S : Int) _).mono ?_; rintro e w7 ⟨rfl, rfl⟩
      go_wp2_with fail
      obtain ⟨U, hU⟩ : ∃ U, U = w6.setCell ⟨g, S, none⟩ (.int .i64 0) := ⟨_, rfl⟩
      rw [← hU] at I7 K8 x0' x1' ⊢
      have hlt7 := I7.lt
      refine (rungs_any true (S : Int) A B ca cc zs rs U hn hm HK.out (ha.below K8) (hb.below K8) (by omega)).mono ?_; rintro e w8 ⟨b, off, L, A', cap, HB, HP, HO, rfl, HCr, b8⟩
      obtain ⟨gl, hA', hgl, hglt, HC⟩ : ∃ gl, (0 < L.length → A' = some ⟨gl, 0, none⟩) ∧ U.heap.size ≤ gl ∧ (0 < L.length → gl < w8.heap.size) ∧ ∀ k, k < L.length → w8.cell? ⟨gl, k, none⟩ = some (encP b off (L.getD k 0)) := by
        rcases Nat.eq_zero_or_pos L.length with h | h
        · exact ⟨U.heap.size, fun h' => by omega, Nat.le_refl _, fun h' => by omega, fun k hk => by omega⟩
        · obtain ⟨gl, e, h1, h2, h3⟩ := HCr h
          exact ⟨gl, fun _ => e, h1, fun _ => h2, h3⟩
      have hLl : L.length ≤ rs.length := by rw [HP.length_eq]; exact luse_len _ _ _ _
      have K9 := K8.trans (b8.mono K8.size)
      have I9 : IRow w8 g zs.length (zg (dC zs.length S)) := I7.below b8
      have HP' := Lib.hid HP
      have HO' := Lib.hid HO
      have HB' := Lib.hid HB
      have HCI := Lib.hid (Ci.begin (zs := zs) (rs := rs) (up := true) hS)
      have hgg : g ≠ gl := by omega
      clear HCr HP HO HB I7 I6 x0' x1' fz ic K8 hU b8 hgl hglt hlt7 x0 x1 HW
      have hgl2 := hA'
      have HA' := Lib.hid hA'
      clear hA' hgl2
      go_wp2
      go_loopw [34] (fun vi wr => ∃ (k : Nat) (d : List Int), k ≤ L.length ∧ vi = .int .i64 k ∧ Hid (Ci zs rs true S d) ∧ Hid (∀ j, j < k → ¬ rlxA zs rs true d (L.getD j 0)) ∧ IRow wr g zs.length (zg d) ∧ (∀ j, j < L.length → wr.cell? ⟨gl, j, none⟩ = some (encP b off (L.getD j 0))) ∧ Below w.heap.size w wr) (fun i _ => L.length - (intOf i).toNat)
      case atStart => exact ⟨0, _, by omega, rfl, HCI, Lib.hid (fun j hj => by omega), I9, HC, K9⟩
      case round =>
        clear HCI I9 K9 HC
        obtain ⟨k, d, hkk, rfl, HCI, HJ, I, HC, K⟩ := hrel
        by_cases hlt : k < L.length
        · obtain ⟨hal, hau⟩ := luse_at HP'.out hlt
          obtain ⟨e1, l1, e2, l2, l3, l4⟩ := hok_at HK.out true hal
          obtain ⟨b', off', hBb, hbb, c0, c1, c2, -⟩ := (hb.below K).at_ hal
          have hbo := HB'.out (by omega)
          rw [hBb] at hbo
          injection hbo with hbo
          injection hbo with hbo1 hbo2
          obtain rfl := hbo1
          obtain rfl := hbo2
          have hAe := HA'.out (by omega)
          have hki : (k : Int) < L.length := by omega
          have HEF := Lib.hid (endsFor_any true (S : Int) b' (off' + L.getD k 0 * 4) (hcg rs (L.getD k 0)).1 (hcg rs (L.getD k 0)).2.1 wr c0 c1)
          have q1 : (if true = true then (hcg rs (L.getD k 0)).1 else (hcg rs (L.getD k 0)).2.1) = ((lw rs true (L.getD k 0) : Nat) : Int) := by rw [← e1]; rfl
          have q2 : (if true = true then (hcg rs (L.getD k 0)).2.1 else (hcg rs (L.getD k 0)).1) = ((hg rs true (L.getD k 0) : Nat) : Int) := by rw [← e2]; rfl
          rw [q1, q2] at HEF
          have ck := HC k hlt
          have HNO : Hid ((zg d (lw rs true (L.getD k 0)) = -1 ∨ nrB (zg d (lw rs true (L.getD k 0)) + lnZ rs (L.getD k 0)) (zg d (hg rs true (L.getD k 0))) = false) → ∀ j, j < k + 1 → ¬ rlxA zs rs true d (L.getD j 0)) := Lib.hid (fun h j hj => by
            rcases Nat.lt_or_ge j k with r | r
            · exact HJ.out j r
            · obtain rfl : j = k := by omega
              rintro ⟨-, r1, r2⟩
              rcases h with h | h
              · exact r1 h
              · rw [(nrB_iff _ _).2 r2] at h; cases h)
          have HYES : Hid (zg d (lw rs true (L.getD k 0)) ≠ -1 → nrB (zg d (lw rs true (L.getD k 0)) + lnZ rs (L.getD k 0)) (zg d (hg rs true (L.getD k 0))) = true → Ci zs rs true S (d.set (hg rs true (L.getD k 0)) (zg d (lw rs true (L.getD k 0)) + lnZ rs (L.getD k 0))) ∧ ∀ j, j < k + 1 → ¬ rlxA zs rs true (d.set (hg rs true (L.getD k 0)) (zg d (lw rs true (L.getD k 0)) + lnZ rs (L.getD k 0))) (L.getD j 0)) := Lib.hid (fun h1 h2 => by
            have r : rlxA zs rs true d (L.getD k 0) := ⟨hau, h1, (nrB_iff _ _).1 h2⟩
            refine ⟨(HCI.out.put HK.out hal r).1, fun j hj => ?_⟩
            rcases Nat.lt_or_ge j k with q | q
            · exact HCI.out.next HK.out (luse_at HP'.out (by omega)).1 hal (HO'.out j k q hlt) r (.inr (HJ.out j q))
            · obtain rfl : j = k := by omega
              exact HCI.out.next HK.out hal hal (Int.le_refl _) r (.inl rfl))
          have hrP := HCI.out.room hn l1
          have hrQ := HCI.out.room hn l2
          have HL := Lib.hid HCI.out.len
          unfold encP at ck
          replace HC := Lib.hid HC
          have el : (hcg rs (L.getD k 0)).2.2.1 = lnZ rs (L.getD k 0) := rfl
          rw [el] at c2
          clear e1 e2 q1 q2 hau hBb el c0 c1
          generalize lnZ rs (L.getD k 0) = l at *
          generalize lw rs true (L.getD k 0) = P at *
          generalize hg rs true (L.getD k 0) = Q at *
          generalize L.getD k 0 = a at *
          subst hAe
          have hPi : (P : Int) < zs.length := by omega
          have hQi : (Q : Int) < zs.length := by omega
          go_wp2_with fail
          refine HEF.out.mono ?_; rintro e w1 ⟨rfl, kk, rfl⟩
          have I1 := I.drewN kk
          have K1 := below_drewN K kk
          have HC1 : Hid (∀ j, j < L.length → (wr.drewN kk).cell? ⟨gl, j, none⟩ = some (encP b' off' (L.getD j 0))) := Lib.hid (fun j hj => HC.out j hj)
          have c2' : (wr.drewN kk).cell? ⟨b', off' + a * 4 + 2, none⟩ = some (.int .i64 l) := c2
          have dP := I1.cell l1
          have dQ := I1.cell l2
          have fQ := I1.frozen Q
          obtain ⟨W1, hW1⟩ : ∃ W1, W1 = wr.drewN kk := ⟨_, rfl⟩
          rw [← hW1] at I1 K1 HC1 c2' dP dQ fQ ⊢
          clear hW1 I K HC c2 ck HEF
          generalize hxe : zg d P = x at *
          generalize hye : zg d Q = y at *
          clear hxe hye
          by_cases hx : x = -1
          · have HN := Lib.hid (HNO.out (.inl hx))
            have hx1 : (x != -1) = false := by simpa using hx
            clear hx HYES HNO
            go_wp2_with fail
            go_quiet (fail)
            go_wp2
            go_roundw
            case rel => exact ⟨k + 1, d, by omega, by go_num, HCI, HN, I1.drewN _, fun j hj => HC1.out j hj, below_drewN K1 _⟩
            case measure => simp [intOf]; omega
          · have hx1 : (x != -1) = true := by simpa using hx
            have hwr : IntKind.i64.wrap (x + l) = x + l := by rw [IntWalk.i64_left]; unfold wrap64; omega
            cases hnr : nrB (x + l) y with
            | false =>
              have HN := Lib.hid (HNO.out (.inr hnr))
              have HNS := Lib.hid (fun w => nearer_still (x + l) y w hnr)
              clear hx HYES HNO hnr
              go_wp2_with fail
              go_quiet ((go_at_call 39; exact Calls.quiet_of_same (HNS.out _)))
              go_wp2
              go_roundw
              case rel => exact ⟨k + 1, d, by omega, by go_num, HCI, HN, I1.drewN _, fun j hj => HC1.out j hj, below_drewN K1 _⟩
              case measure => simp [intOf]; omega
            | true =>
              obtain ⟨HC2, HN⟩ := HYES.out hx hnr
              replace HC2 := Lib.hid HC2
              replace HN := Lib.hid HN
              have HNS := Lib.hid (fun w => nearer_still (x + l) y w hnr)
              clear hx HYES HNO hnr
              go_wp2_with fail
              go_quiet ((go_at_call 39; exact Calls.quiet_of_same (HNS.out _)))
              go_wp2
              go_roundw
              case rel => exact ⟨k + 1, _, by omega, by go_num, HC2, HN, (I1.drewN _).put HL.out Q l2 _, fun j hj => by rw [World.cell?_setCell_far _ _ _ _ (by simp; omega)]; exact HC1.out j hj, (below_drewN K1 _).setCell (by simp; omega) _⟩
              case measure => simp [intOf]; omega
        · obtain rfl : k = L.length := by omega
          have HE := Lib.hid (HCI.out.all HP'.out HJ.out)
          have HL := Lib.hid HCI.out.len
          go_wp2
          go_ret
          exact ⟨d, .inl ⟨S, rfl, hS, HK.out, HE.out⟩, (fun h => by have := HL.out; rw [h] at this; simp at this; omega), irow_made HL.out I (by omega) K⟩

set_option maxRecDepth 1000000 in
set_option maxHeartbeats 8000000 in
theorem climbed_down_no (s : Int) (A B : Option Addr) (ca cc : Nat) (zs : List Int) (rs : List A4) (w : World) (hn : zs.length ≤ 1048576) (hm : rs.length ≤ 1048576) (ha : IsInts w A zs) (hb : IsHs w B rs) (hs : btB s 0 ((zs.length : Int) - 1) = false) :
    Calls Try.prog 60 #[.agg #[.slice A zs.length ca, .slice B rs.length cc], climbV false s] w fun e w' => ∃ d, ClR zs rs false s d ∧ NilMade w d e w' := by
  have X := Pair.new w 30 (.slice A zs.length ca) (.slice B rs.length cc)
  have K := below1 w (.cells #[.slice A zs.length ca, .slice B rs.length cc] 30)
  obtain ⟨x0, x1, -, -⟩ := X.cells
  have m1 := mStartDown
  have HS := Lib.hid hs
  obtain ⟨W, hW⟩ : ∃ W, W = w.alloc (.cells #[.slice A zs.length ca, .slice B rs.length cc] 30) := ⟨_, rfl⟩
  rw [← hW] at x0 x1 K
  have HW := Lib.hid hW
  have TS : HiS w w.heap.size (.slice A zs.length ca) (.slice B rs.length cc) W.drew := ⟨x0, x1, K.drew⟩
  clear hW X hs
  unfold climbV
  go_enter Try.func60, Try.ntmps60
  go_wp2_with fail
  rw [← HW.out]
  · skip
    refine wp_region_held_drew (S := (fun w' => HiS w w.heap.size (.slice A zs.length ca) (.slice B rs.length cc) w')) (by kernel_rfl) ?_ (fun hHeld => ?_)
    · exact TS
    clear TS
    refine wpAnyH_take (i := 0) (oi := ⟨some 11, _, _, _, _, _⟩) (v := .agg #[.slice A zs.length ca, .slice B rs.length cc]) rfl (by kernel_rfl) (by kernel_rfl) (by kernel_rfl) (fun _ _ _ h => h) (Or.inl ⟨by rfl, fun w' hw => ?hy⟩) hHeld ?_
    case hy => (try dsimp only at hw); go_simp
    simp only [Act.put, List.setIfInBounds_toArray, List.set_cons_zero, List.set_cons_succ]
    refine wpAnyH_take (i := 1) (oi := ⟨some 12, _, _, _, _, _⟩) (v := .iface 75 (.int .i64 s)) rfl (by kernel_rfl) (by kernel_rfl) (by kernel_rfl) (fun _ _ _ h => h) (Or.inl ⟨by rfl, fun w' hw => ?hy⟩) hHeld ?_
    case hy => (try dsimp only at hw); go_simp
    simp only [Act.put, List.setIfInBounds_toArray, List.set_cons_zero, List.set_cons_succ]
    refine wpAnyH_ready (rs := [2]) (by kernel_rfl) (by simp) ?_
    refine AllReadyH.cons (o := ⟨some 13, _, _, _, _, _⟩) rfl (fun K hK => ?_) AllReadyH.nil
    go_simp
    refine (downStart_any s _).mono ?_; rintro e w3 ⟨rfl, rfl⟩
    go_wp2_with fail
    refine hK.out _ _ ?_ (fun hHeld => ?_)
    · exact hHeld
    clear hK K
    try simp only [Act.put, List.setIfInBounds_toArray, List.set_cons_zero, List.set_cons_succ]
    refine wpAnyH_ready (rs := [3]) (by kernel_rfl) (by simp) ?_
    refine AllReadyH.cons (o := ⟨some 14, _, _, _, _, _⟩) rfl (fun K hK => ?_) AllReadyH.nil
    go_simp
    refine (hasNodeH_any A B zs.length ca rs.length cc s _ hn).mono ?_; rw [HS.out]; rintro e w4 ⟨rfl, b4⟩
    go_wp2_with fail
    refine hK.out _ _ ?_ (fun hHeld => ?_)
    · exact HiS.under b4 hHeld
    clear hK K
    try simp only [Act.put, List.setIfInBounds_toArray, List.set_cons_zero, List.set_cons_succ]
    refine wpAnyH_take (i := 4) (oi := ⟨some 15, _, _, _, _, _⟩) (v := .bool true) rfl (by kernel_rfl) (by kernel_rfl) (by kernel_rfl) (fun _ _ _ h => h) (Or.inl ⟨by rfl, fun w' hw => ?hy⟩) hHeld ?_
    case hy => (try dsimp only at hw); go_simp
    simp only [Act.put, List.setIfInBounds_toArray, List.set_cons_zero, List.set_cons_succ]
    refine wpAnyH_take (i := 5) (oi := ⟨some 16, _, _, _, _, _⟩) (v := .bool true) rfl (by kernel_rfl) (by kernel_rfl) (by kernel_rfl) (fun _ _ _ h => h) (Or.inl ⟨by rfl, fun w' hw => ?hy⟩) hHeld ?_
    case hy => (try dsimp only at hw); go_simp
    simp only [Act.put, List.setIfInBounds_toArray, List.set_cons_zero, List.set_cons_succ]
    refine wpAnyH_take (i := 6) (oi := ⟨some 17, _, _, _, _, _⟩) (v := undef) rfl (by kernel_rfl) (by kernel_rfl) (by kernel_rfl) (fun _ _ _ h => h) (Or.inr ⟨by rfl, rfl⟩) hHeld ?_
    simp only [Act.put, List.setIfInBounds_toArray, List.set_cons_zero, List.set_cons_succ]
    refine wpAnyH_take (i := 7) (oi := ⟨some 18, _, _, _, _, _⟩) (v := undef) rfl (by kernel_rfl) (by kernel_rfl) (by kernel_rfl) (fun _ _ _ h => h) (Or.inr ⟨by rfl, rfl⟩) hHeld ?_
    simp only [Act.put, List.setIfInBounds_toArray, List.set_cons_zero, List.set_cons_succ]
    refine wpAnyH_take (i := 8) (oi := ⟨some 19, _, _, _, _, _⟩) (v := undef) rfl (by kernel_rfl) (by kernel_rfl) (by kernel_rfl) (fun _ _ _ h => h) (Or.inr ⟨by rfl, rfl⟩) hHeld ?_
    simp only [Act.put, List.setIfInBounds_toArray, List.set_cons_zero, List.set_cons_succ]
    refine wpAnyH_take (i := 9) (oi := ⟨some 20, _, _, _, _, _⟩) (v := .bool true) rfl (by kernel_rfl) (by kernel_rfl) (by kernel_rfl) (fun _ _ _ h => h) (Or.inl ⟨by rfl, fun w' hw => ?hy⟩) hHeld ?_
    case hy => (try dsimp only at hw); go_simp
    simp only [Act.put, List.setIfInBounds_toArray, List.set_cons_zero, List.set_cons_succ]
    refine wpAnyH_done (by kernel_rfl) ?_ _
    go_wp2
    go_ret
    exact ⟨[], .inr ⟨.inl HS.out, rfl⟩, fun _ => rfl, none, 0, rfl, by simp, (fun hp => by simp at hp), hHeld.2.2⟩

set_option maxRecDepth 1000000 in
set_option maxHeartbeats 8000000 in
theorem climbed_down_yes (s : Int) (A B : Option Addr) (ca cc : Nat) (zs : List Int) (rs : List A4) (w : World) (hn : zs.length ≤ 1048576) (hm : rs.length ≤ 1048576) (ha : IsInts w A zs) (hb : IsHs w B rs) (hs : btB s 0 ((zs.length : Int) - 1) = true) :
    Calls Try.prog 60 #[.agg #[.slice A zs.length ca, .slice B rs.length cc], climbV false s] w fun e w' => ∃ d, ClR zs rs false s d ∧ NilMade w d e w' := by
  have X := Pair.new w 30 (.slice A zs.length ca) (.slice B rs.length cc)
  have K := below1 w (.cells #[.slice A zs.length ca, .slice B rs.length cc] 30)
  obtain ⟨x0, x1, -, -⟩ := X.cells
  have m1 := mStartDown
  have HS := Lib.hid hs
  obtain ⟨S, rfl, hS⟩ := node_is hs
  obtain ⟨W, hW⟩ : ∃ W, W = w.alloc (.cells #[.slice A zs.length ca, .slice B rs.length cc] 30) := ⟨_, rfl⟩
  rw [← hW] at x0 x1 K
  have HW := Lib.hid hW
  have TS : HiS w w.heap.size (.slice A zs.length ca) (.slice B rs.length cc) W.drew := ⟨x0, x1, K.drew⟩
  clear hW X hs
  unfold climbV
  go_enter Try.func60, Try.ntmps60
  go_wp2_with fail
  rw [← HW.out]
  · skip
    refine wp_region_held_drew (S := (fun w' => HiS w w.heap.size (.slice A zs.length ca) (.slice B rs.length cc) w')) (by kernel_rfl) ?_ (fun hHeld => ?_)
    · exact TS
    clear TS
    refine wpAnyH_take (i := 0) (oi := ⟨some 11, _, _, _, _, _⟩) (v := .agg #[.slice A zs.length ca, .slice B rs.length cc]) rfl (by kernel_rfl) (by kernel_rfl) (by kernel_rfl) (fun _ _ _ h => h) (Or.inl ⟨by rfl, fun w' hw => ?hy⟩) hHeld ?_
    case hy => (try dsimp only at hw); go_simp
    simp only [Act.put, List.setIfInBounds_toArray, List.set_cons_zero, List.set_cons_succ]
    refine wpAnyH_take (i := 1) (oi := ⟨some 12, _, _, _, _, _⟩) (v := .iface 75 (.int .i64 (S : Int))) rfl (by kernel_rfl) (by kernel_rfl) (by kernel_rfl) (fun _ _ _ h => h) (Or.inl ⟨by rfl, fun w' hw => ?hy⟩) hHeld ?_
    case hy => (try dsimp only at hw); go_simp
    simp only [Act.put, List.setIfInBounds_toArray, List.set_cons_zero, List.set_cons_succ]
    refine wpAnyH_ready (rs := [2]) (by kernel_rfl) (by simp) ?_
    refine AllReadyH.cons (o := ⟨some 13, _, _, _, _, _⟩) rfl (fun K hK => ?_) AllReadyH.nil
    go_simp
    refine (downStart_any (S : Int) _).mono ?_; rintro e w3 ⟨rfl, rfl⟩
    go_wp2_with fail
    refine hK.out _ _ ?_ (fun hHeld => ?_)
    · exact hHeld
    clear hK K
    try simp only [Act.put, List.setIfInBounds_toArray, List.set_cons_zero, List.set_cons_succ]
    refine wpAnyH_ready (rs := [3]) (by kernel_rfl) (by simp) ?_
    refine AllReadyH.cons (o := ⟨some 14, _, _, _, _, _⟩) rfl (fun K hK => ?_) AllReadyH.nil
    go_simp
    refine (hasNodeH_any A B zs.length ca rs.length cc (S : Int) _ hn).mono ?_; rw [HS.out]; rintro e w4 ⟨rfl, b4⟩
    go_wp2_with fail
    refine hK.out _ _ ?_ (fun hHeld => ?_)
    · exact HiS.under b4 hHeld
    clear hK K
    try simp only [Act.put, List.setIfInBounds_toArray, List.set_cons_zero, List.set_cons_succ]
    refine wpAnyH_take (i := 4) (oi := ⟨some 15, _, _, _, _, _⟩) (v := .bool false) rfl (by kernel_rfl) (by kernel_rfl) (by kernel_rfl) (fun _ _ _ h => h) (Or.inl ⟨by rfl, fun w' hw => ?hy⟩) hHeld ?_
    case hy => (try dsimp only at hw); go_simp
    simp only [Act.put, List.setIfInBounds_toArray, List.set_cons_zero, List.set_cons_succ]
    refine wpAnyH_take (i := 5) (oi := ⟨some 16, _, _, _, _, _⟩) (v := .bool false) rfl (by kernel_rfl) (by kernel_rfl) (by kernel_rfl) (fun _ _ _ h => h) (Or.inl ⟨by rfl, fun w' hw => ?hy⟩) hHeld ?_
    case hy => (try dsimp only at hw); go_simp
    simp only [Act.put, List.setIfInBounds_toArray, List.set_cons_zero, List.set_cons_succ]
    refine wpAnyH_take (i := 6) (oi := ⟨some 17, _, _, _, _, _⟩) (v := .agg #[.slice A zs.length ca, .slice B rs.length cc]) rfl (by kernel_rfl) (by kernel_rfl) (by kernel_rfl) (fun _ _ _ h => h) (Or.inl ⟨by rfl, fun w' hw => ?hy⟩) hHeld ?_
    case hy => (try dsimp only at hw); go_simp
    simp only [Act.put, List.setIfInBounds_toArray, List.set_cons_zero, List.set_cons_succ]
    refine wpAnyH_ready (rs := [7]) (by kernel_rfl) (by simp) ?_
    refine AllReadyH.cons (o := ⟨some 18, _, _, _, _, _⟩) rfl (fun K hK => ?_) AllReadyH.nil
    go_simp
    refine (arcsOkH_any A B zs.length ca cc rs _ hn hm (hb.below hHeld.2.2)).mono ?_; rintro e w5 ⟨bo, rfl, hy, hno, b5⟩
    go_wp2_with fail
    refine hK.out _ _ ?_ (fun hHeld => ?_)
    · exact HiS.under b5 hHeld
    clear hK K
    try simp only [Act.put, List.setIfInBounds_toArray, List.set_cons_zero, List.set_cons_succ]
    refine wpAnyH_take (i := 8) (oi := ⟨some 19, _, _, _, _, _⟩) (v := .bool (!bo)) rfl (by kernel_rfl) (by kernel_rfl) (by kernel_rfl) (fun _ _ _ h => h) (Or.inl ⟨by rfl, fun w' hw => ?hy⟩) hHeld ?_
    case hy => (try dsimp only at hw); go_simp
    simp only [Act.put, List.setIfInBounds_toArray, List.set_cons_zero, List.set_cons_succ]
    refine wpAnyH_take (i := 9) (oi := ⟨some 20, _, _, _, _, _⟩) (v := .bool (!bo)) rfl (by kernel_rfl) (by kernel_rfl) (by kernel_rfl) (fun _ _ _ h => h) (Or.inl ⟨by rfl, fun w' hw => ?hy⟩) hHeld ?_
    case hy => (try dsimp only at hw); go_simp
    simp only [Act.put, List.setIfInBounds_toArray, List.set_cons_zero, List.set_cons_succ]
    refine wpAnyH_done (by kernel_rfl) ?_ _
    cases bo with
    | false =>
      have HN := Lib.hid (hno rfl)
      clear hy hno
      go_wp2
      go_ret
      exact ⟨[], .inr ⟨.inr HN.out, rfl⟩, fun _ => rfl, none, 0, rfl, by simp, (fun hp => by simp at hp), hHeld.2.2⟩
    | true =>
      have HK := Lib.hid (hy rfl)
      clear hy hno b4 b5
      obtain ⟨x0, x1, K5⟩ := hHeld
      have hSi : (S : Int) < zs.length := by omega
      have kb := below1 w5 (.cells #[.int .i64 (-1)] 3)
      have K6 := K5.trans (kb.mono K5.size)
      have c1 : (w5.alloc (.cells #[.int .i64 (-1)] 3)).cell? ⟨w5.heap.size, 0, none⟩ = some (.int .i64 (-1)) := cell_of_block (heap_alloc_new _ _)
      replace x0 := cell_under kb x0
      replace x1 := cell_under kb x1
      have hz5 : w.heap.size ≤ w5.heap.size := K5.size
      have hz6 : (w5.alloc (.cells #[.int .i64 (-1)] 3)).heap.size = w5.heap.size + 1 := World.size_alloc _ _
      clear kb K5 K
      go_wp2_with fail
      obtain ⟨V, hV⟩ : ∃ V, V = w5.alloc (.cells #[.int .i64 (-1)] 3) := ⟨_, rfl⟩
      rw [← hV] at x0 x1 c1 K6 hz6 ⊢
      clear hV
      refine (repeat_big w5.heap.size 1 zs.length V hn (by omega) c1).mono ?_; rintro e w6 ⟨rfl, I6, b6⟩
      replace x0 := cell_under b6 x0
      replace x1 := cell_under b6 x1
      have K7 := K6.trans (b6.mono K6.size)
      obtain ⟨g, hg⟩ : ∃ g, g = V.heap.size := ⟨_, rfl⟩
      rw [← hg] at I6 ⊢
      have hgw : w.heap.size + 1 ≤ g := by omega
      have I7 := I6.first hS
      have fz := I6.frozen S
      have ic := I6.cell hS
      have K8 : Below w.heap.size w (w6.setCell ⟨g, S, none⟩ (.int .i64 0)) := K7.setCell (by simp; omega) _
      have x0' : (w6.setCell ⟨g, S, none⟩ (.int .i64 0)).cell? ⟨w.heap.size, 0, none⟩ = some (.slice A zs.length ca) := by rw [World.cell?_setCell_far _ _ _ _ (by simp; omega)]; exact x0
      have x1' : (w6.setCell ⟨g, S, none⟩ (.int .i64 0)).cell? ⟨w.heap.size, 1, none⟩ = some (.slice B rs.length cc) := by rw [World.cell?_setCell_far _ _ _ _ (by simp; omega)]; exact x1
      clear b6 c1 K6 K7 hg hz5 hz6 x0 x1
      go_wp2_with fail
      refine (downStart_any (S : Int) _).mono ?_; rintro e w7 ⟨rfl, rfl⟩
      go_wp2_with fail
      obtain ⟨U, hU⟩ : ∃ U, U = w6.setCell ⟨g, S, none⟩ (.int .i64 0) := ⟨_, rfl⟩
      rw [← hU] at I7 K8 x0' x1' ⊢
      have hlt7 := I7.lt
      refine (rungs_any false (S : Int) A B ca cc zs rs U hn hm HK.out (ha.below K8) (hb.below K8) (by omega)).mono ?_; rintro e w8 ⟨b, off, L, A', cap, HB, HP, HO, rfl, HCr, b8⟩
      obtain ⟨gl, hA', hgl, hglt, HC⟩ : ∃ gl, (0 < L.length → A' = some ⟨gl, 0, none⟩) ∧ U.heap.size ≤ gl ∧ (0 < L.length → gl < w8.heap.size) ∧ ∀ k, k < L.length → w8.cell? ⟨gl, k, none⟩ = some (encP b off (L.getD k 0)) := by
        rcases Nat.eq_zero_or_pos L.length with h | h
        · exact ⟨U.heap.size, fun h' => by omega, Nat.le_refl _, fun h' => by omega, fun k hk => by omega⟩
        · obtain ⟨gl, e, h1, h2, h3⟩ := HCr h
          exact ⟨gl, fun _ => e, h1, fun _ => h2, h3⟩
      have hLl : L.length ≤ rs.length := by rw [HP.length_eq]; exact luse_len _ _ _ _
      have K9 := K8.trans (b8.mono K8.size)
      have I9 : IRow w8 g zs.length (zg (dC zs.length S)) := I7.below b8
      have HP' := Lib.hid HP
      have HO' := Lib.hid HO
      have HB' := Lib.hid HB
      have HCI := Lib.hid (Ci.begin (zs := zs) (rs := rs) (up := false) hS)
      have hgg : g ≠ gl := by omega
      clear HCr HP HO HB I7 I6 x0' x1' fz ic K8 hU b8 hgl hglt hlt7 x0 x1 HW
      have hgl2 := hA'
      have HA' := Lib.hid hA'
      clear hA' hgl2
      go_wp2
      go_loopw [34] (fun vi wr => ∃ (k : Nat) (d : List Int), k ≤ L.length ∧ vi = .int .i64 k ∧ Hid (Ci zs rs false S d) ∧ Hid (∀ j, j < k → ¬ rlxA zs rs false d (L.getD j 0)) ∧ IRow wr g zs.length (zg d) ∧ (∀ j, j < L.length → wr.cell? ⟨gl, j, none⟩ = some (encP b off (L.getD j 0))) ∧ Below w.heap.size w wr) (fun i _ => L.length - (intOf i).toNat)
      case atStart => exact ⟨0, _, by omega, rfl, HCI, Lib.hid (fun j hj => by omega), I9, HC, K9⟩
      case round =>
        clear HCI I9 K9 HC
        obtain ⟨k, d, hkk, rfl, HCI, HJ, I, HC, K⟩ := hrel
        by_cases hlt : k < L.length
        · obtain ⟨hal, hau⟩ := luse_at HP'.out hlt
          obtain ⟨e1, l1, e2, l2, l3, l4⟩ := hok_at HK.out false hal
          obtain ⟨b', off', hBb, hbb, c0, c1, c2, -⟩ := (hb.below K).at_ hal
          have hbo := HB'.out (by omega)
          rw [hBb] at hbo
          injection hbo with hbo
          injection hbo with hbo1 hbo2
          obtain rfl := hbo1
          obtain rfl := hbo2
          have hAe := HA'.out (by omega)
          have hki : (k : Int) < L.length := by omega
          have HEF := Lib.hid (endsFor_any false (S : Int) b' (off' + L.getD k 0 * 4) (hcg rs (L.getD k 0)).1 (hcg rs (L.getD k 0)).2.1 wr c0 c1)
          have q1 : (if false = true then (hcg rs (L.getD k 0)).1 else (hcg rs (L.getD k 0)).2.1) = ((lw rs false (L.getD k 0) : Nat) : Int) := by rw [← e1]; rfl
          have q2 : (if false = true then (hcg rs (L.getD k 0)).2.1 else (hcg rs (L.getD k 0)).1) = ((hg rs false (L.getD k 0) : Nat) : Int) := by rw [← e2]; rfl
          rw [q1, q2] at HEF
          have ck := HC k hlt
          have HNO : Hid ((zg d (lw rs false (L.getD k 0)) = -1 ∨ nrB (zg d (lw rs false (L.getD k 0)) + lnZ rs (L.getD k 0)) (zg d (hg rs false (L.getD k 0))) = false) → ∀ j, j < k + 1 → ¬ rlxA zs rs false d (L.getD j 0)) := Lib.hid (fun h j hj => by
            rcases Nat.lt_or_ge j k with r | r
            · exact HJ.out j r
            · obtain rfl : j = k := by omega
              rintro ⟨-, r1, r2⟩
              rcases h with h | h
              · exact r1 h
              · rw [(nrB_iff _ _).2 r2] at h; cases h)
          have HYES : Hid (zg d (lw rs false (L.getD k 0)) ≠ -1 → nrB (zg d (lw rs false (L.getD k 0)) + lnZ rs (L.getD k 0)) (zg d (hg rs false (L.getD k 0))) = true → Ci zs rs false S (d.set (hg rs false (L.getD k 0)) (zg d (lw rs false (L.getD k 0)) + lnZ rs (L.getD k 0))) ∧ ∀ j, j < k + 1 → ¬ rlxA zs rs false (d.set (hg rs false (L.getD k 0)) (zg d (lw rs false (L.getD k 0)) + lnZ rs (L.getD k 0))) (L.getD j 0)) := Lib.hid (fun h1 h2 => by
            have r : rlxA zs rs false d (L.getD k 0) := ⟨hau, h1, (nrB_iff _ _).1 h2⟩
            refine ⟨(HCI.out.put HK.out hal r).1, fun j hj => ?_⟩
            rcases Nat.lt_or_ge j k with q | q
            · exact HCI.out.next HK.out (luse_at HP'.out (by omega)).1 hal (HO'.out j k q hlt) r (.inr (HJ.out j q))
            · obtain rfl : j = k := by omega
              exact HCI.out.next HK.out hal hal (Int.le_refl _) r (.inl rfl))
          have hrP := HCI.out.room hn l1
          have hrQ := HCI.out.room hn l2
          have HL := Lib.hid HCI.out.len
          unfold encP at ck
          replace HC := Lib.hid HC
          have el : (hcg rs (L.getD k 0)).2.2.1 = lnZ rs (L.getD k 0) := rfl
          rw [el] at c2
          clear e1 e2 q1 q2 hau hBb el c0 c1
          generalize lnZ rs (L.getD k 0) = l at *
          generalize lw rs false (L.getD k 0) = P at *
          generalize hg rs false (L.getD k 0) = Q at *
          generalize L.getD k 0 = a at *
          subst hAe
          have hPi : (P : Int) < zs.length := by omega
          have hQi : (Q : Int) < zs.length := by omega
          go_wp2_with fail
          refine HEF.out.mono ?_; rintro e w1 ⟨rfl, kk, rfl⟩
          have I1 := I.drewN kk
          have K1 := below_drewN K kk
          have HC1 : Hid (∀ j, j < L.length → (wr.drewN kk).cell? ⟨gl, j, none⟩ = some (encP b' off' (L.getD j 0))) := Lib.hid (fun j hj => HC.out j hj)
          have c2' : (wr.drewN kk).cell? ⟨b', off' + a * 4 + 2, none⟩ = some (.int .i64 l) := c2
          have dP := I1.cell l1
          have dQ := I1.cell l2
          have fQ := I1.frozen Q
          obtain ⟨W1, hW1⟩ : ∃ W1, W1 = wr.drewN kk := ⟨_, rfl⟩
          rw [← hW1] at I1 K1 HC1 c2' dP dQ fQ ⊢
          clear hW1 I K HC c2 ck HEF
          generalize hxe : zg d P = x at *
          generalize hye : zg d Q = y at *
          clear hxe hye
          by_cases hx : x = -1
          · have HN := Lib.hid (HNO.out (.inl hx))
            have hx1 : (x != -1) = false := by simpa using hx
            clear hx HYES HNO
            go_wp2_with fail
            go_quiet (fail)
            go_wp2
            go_roundw
            case rel => exact ⟨k + 1, d, by omega, by go_num, HCI, HN, I1.drewN _, fun j hj => HC1.out j hj, below_drewN K1 _⟩
            case measure => simp [intOf]; omega
          · have hx1 : (x != -1) = true := by simpa using hx
            have hwr : IntKind.i64.wrap (x + l) = x + l := by rw [IntWalk.i64_left]; unfold wrap64; omega
            cases hnr : nrB (x + l) y with
            | false =>
              have HN := Lib.hid (HNO.out (.inr hnr))
              have HNS := Lib.hid (fun w => nearer_still (x + l) y w hnr)
              clear hx HYES HNO hnr
              go_wp2_with fail
              go_quiet ((go_at_call 39; exact Calls.quiet_of_same (HNS.out _)))
              go_wp2
              go_roundw
              case rel => exact ⟨k + 1, d, by omega, by go_num, HCI, HN, I1.drewN _, fun j hj => HC1.out j hj, below_drewN K1 _⟩
              case measure => simp [intOf]; omega
            | true =>
              obtain ⟨HC2, HN⟩ := HYES.out hx hnr
              replace HC2 := Lib.hid HC2
              replace HN := Lib.hid HN
              have HNS := Lib.hid (fun w => nearer_still (x + l) y w hnr)
              clear hx HYES HNO hnr
              go_wp2_with fail
              go_quiet ((go_at_call 39; exact Calls.quiet_of_same (HNS.out _)))
              go_wp2
              go_roundw
              case rel => exact ⟨k + 1, _, by omega, by go_num, HC2, HN, (I1.drewN _).put HL.out Q l2 _, fun j hj => by rw [World.cell?_setCell_far _ _ _ _ (by simp; omega)]; exact HC1.out j hj, (below_drewN K1 _).setCell (by simp; omega) _⟩
              case measure => simp [intOf]; omega
        · obtain rfl : k = L.length := by omega
          have HE := Lib.hid (HCI.out.all HP'.out HJ.out)
          have HL := Lib.hid HCI.out.len
          go_wp2
          go_ret
          exact ⟨d, .inl ⟨S, rfl, hS, HK.out, HE.out⟩, (fun h => by have := HL.out; rw [h] at this; simp at this; omega), irow_made HL.out I (by omega) K⟩

theorem climbed_any (up : Bool) (s : Int) (A B : Option Addr) (ca cc : Nat) (zs : List Int) (rs : List A4) (w : World) (hn : zs.length ≤ 1048576) (hm : rs.length ≤ 1048576) (ha : IsInts w A zs) (hb : IsHs w B rs) :
    Calls Try.prog 60 #[.agg #[.slice A zs.length ca, .slice B rs.length cc], climbV up s] w fun e w' => ∃ d, ClR zs rs up s d ∧ NilMade w d e w' := by
  cases hs : btB s 0 ((zs.length : Int) - 1) with
  | false => cases up with
    | true => exact climbed_up_no s A B ca cc zs rs w hn hm ha hb hs
    | false => exact climbed_down_no s A B ca cc zs rs w hn hm ha hb hs
  | true => cases up with
    | true => exact climbed_up_yes s A B ca cc zs rs w hn hm ha hb hs
    | false => exact climbed_down_yes s A B ca cc zs rs w hn hm ha hb hs
end Go.Proofs.Ytagaildnfbegkab
