/-
  What impl.hasNode, impl.allows, impl.precedes and impl.NetOk compute.
-/
import Derived.Test.YtagaildnfbegkaaNetSpec
import Derived.Deep.RegionWith
namespace Go.Proofs.Ytagaildnfbegkaa
open Go.RowKit Go.Deep

theorem hasNode_any (A B : Option Addr) (n m ca cb : Nat) (u : Int) (w : World) :
    Calls Try.prog 86 #[.agg #[.slice A n ca, .slice B m cb], .int .i64 u] w fun e w' => e = .returned (.bool (btB u 0 ((n : Int) - 1))) ∧ Below w.heap.size w w' := by
  have K := below1 w (.cells #[.slice A n ca, .slice B m cb] 49)
  by_cases h0 : 0 ≤ u
  · by_cases h1 : u < n
    · have H := Lib.hid (btB_true (n := u) (a := 0) (b := (n : Int) - 1) h0 (by omega))
      go_enter Try.func86, Try.ntmps86
      go_wp2
      go_ret
      exact ⟨retB H.out.symm, K⟩
    · have H := Lib.hid (btB_high (n := u) (a := 0) (b := (n : Int) - 1) (by omega))
      go_enter Try.func86, Try.ntmps86
      go_wp2
      go_ret
      exact ⟨retB H.out.symm, K⟩
  · have H := Lib.hid (btB_low (n := u) (a := 0) (b := (n : Int) - 1) h0)
    go_enter Try.func86, Try.ntmps86
    go_wp2
    go_ret
    exact ⟨retB H.out.symm, K⟩

theorem precedes_any (a b c d e f : Int) (w : World) :
    Calls Try.prog 56 #[.agg #[.int .i64 a, .int .i64 b, .int .i64 c], .agg #[.int .i64 d, .int .i64 e, .int .i64 f]] w fun x w' => x = .returned (.bool (arcLt (a, b, c) (d, e, f))) ∧ Below w.heap.size w w' := by
  by_cases h1 : a < d
  · have H := Lib.hid (show arcLt (a, b, c) (d, e, f) = true from decide_eq_true (.inl h1))
    go_enter Try.func56, Try.ntmps56
    go_wp2
    go_ret
    exact ⟨retB H.out.symm, below2 _ _ _⟩
  · by_cases h2 : a = d
    · subst h2
      by_cases h3 : b < e
      · have H := Lib.hid (show arcLt (a, b, c) (a, e, f) = true from decide_eq_true (.inr ⟨rfl, h3⟩))
        go_enter Try.func56, Try.ntmps56
        go_wp2
        go_ret
        exact ⟨retB H.out.symm, below2 _ _ _⟩
      · have H := Lib.hid (show arcLt (a, b, c) (a, e, f) = false from decide_eq_false (by rintro (h | h); exact h1 h; exact h3 h.2))
        go_enter Try.func56, Try.ntmps56
        go_wp2
        go_ret
        exact ⟨retB H.out.symm, below2 _ _ _⟩
    · have H := Lib.hid (show arcLt (a, b, c) (d, e, f) = false from decide_eq_false (by rintro (h | h); exact h1 h; exact h2 h.1))
      go_enter Try.func56, Try.ntmps56
      go_wp2
      go_ret
      exact ⟨retB H.out.symm, below2 _ _ _⟩

/-- Block b holds the arc (f, t, l). -/
def ArcBox (w : World) (b : Nat) (f t l : Int) : Prop := w.cell? ⟨b, 0, none⟩ = some (.int .i64 f) ∧ w.cell? ⟨b, 1, none⟩ = some (.int .i64 t) ∧ w.cell? ⟨b, 2, none⟩ = some (.int .i64 l)
theorem ArcBox.below {w w' : World} {b : Nat} {f t l : Int} (h : ArcBox w b f t l) (hb : Below w.heap.size w w') : ArcBox w' b f t l := ⟨cell_under hb h.1, cell_under hb h.2.1, cell_under hb h.2.2⟩
theorem ArcBox.cells {w : World} {b : Nat} {f t l : Int} (h : ArcBox w b f t l) : w.cell? ⟨b, 0, none⟩ = some (.int .i64 f) ∧ w.cell? ⟨b, 1, none⟩ = some (.int .i64 t) ∧ w.cell? ⟨b, 2, none⟩ = some (.int .i64 l) := h

set_option maxHeartbeats 1000000 in
theorem allows_any (A B : Option Addr) (n m ca cb : Nat) (f t l : Int) (w : World) :
    Calls Try.prog 81 #[.agg #[.slice A n ca, .slice B m cb], .agg #[.int .i64 f, .int .i64 t, .int .i64 l]] w fun e w' => e = .returned (.bool (arcB n (f, t, l))) ∧ Below w.heap.size w w' := by
  have X := (Pair.new w 49 (.slice A n ca) (.slice B m cb)).alloc (.cells #[.int .i64 f, .int .i64 t, .int .i64 l] 82)
  have Y : ArcBox ((w.alloc (.cells #[.slice A n ca, .slice B m cb] 49)).alloc (.cells #[.int .i64 f, .int .i64 t, .int .i64 l] 82)) (w.heap.size + 1) f t l := by
    have h := arc_new (w.alloc (.cells #[.slice A n ca, .slice B m cb] 49)) f t l 82
    rw [World.size_alloc] at h
    exact h
  have K := below2 w (.cells #[.slice A n ca, .slice B m cb] 49) (.cells #[.int .i64 f, .int .i64 t, .int .i64 l] 82)
  cases h1 : btB f 0 ((n : Int) - 1) with
  | false =>
    have H := Lib.hid (arcB_no (a := (f, t, l)) (.inl h1))
    go_enter Try.func81, Try.ntmps81
    go_wp2_with fail
    refine (hasNode_any A B n m ca cb f _).mono ?_; rintro e w1 ⟨rfl, b1⟩
    have k1 := K.trans (b1.mono K.size)
    clear X Y
    go_wp2
    go_ret
    exact ⟨retB H.out.symm, k1⟩
  | true =>
    cases h2 : btB t 0 ((n : Int) - 1) with
    | false =>
      have H := Lib.hid (arcB_no (a := (f, t, l)) (.inr (.inl h2)))
      go_enter Try.func81, Try.ntmps81
      go_wp2_with fail
      refine (hasNode_any A B n m ca cb f _).mono ?_; rintro e w1 ⟨rfl, b1⟩
      have k1 := K.trans (b1.mono K.size)
      replace X := X.below b1
      replace Y := Y.below b1
      clear b1
      obtain ⟨x0, x1, -, -⟩ := X.cells
      obtain ⟨y0, y1, y2⟩ := Y.cells
      go_wp2_with fail
      refine (hasNode_any A B n m ca cb t _).mono ?_; rintro e w2 ⟨rfl, b2⟩
      have k2 := k1.trans (b2.mono k1.size)
      clear x0 x1 y0 y1 y2
      go_wp2
      go_ret
      exact ⟨retB H.out.symm, k2⟩
    | true =>
      go_enter Try.func81, Try.ntmps81
      go_wp2_with fail
      refine (hasNode_any A B n m ca cb f _).mono ?_; rintro e w1 ⟨rfl, b1⟩
      have k1 := K.trans (b1.mono K.size)
      replace X := X.below b1
      replace Y := Y.below b1
      clear b1
      obtain ⟨x0, x1, -, -⟩ := X.cells
      obtain ⟨y0, y1, y2⟩ := Y.cells
      go_wp2_with fail
      refine (hasNode_any A B n m ca cb t _).mono ?_; rintro e w2 ⟨rfl, b2⟩
      have k2 := k1.trans (b2.mono k1.size)
      replace Y := Y.below b2
      clear b2 x0 x1 y0 y1 y2 X
      obtain ⟨y0, y1, y2⟩ := Y.cells
      cases h3 : (f == t) with
      | true =>
        have H := Lib.hid (arcB_no (n := n) (a := (f, t, l)) (.inr (.inr (.inl h3))))
        have h3' : (f != t) = false := by simp at h3; simp [h3]
        go_wp2
        go_ret
        exact ⟨retB H.out.symm, k2⟩
      | false =>
        have h3' : (f != t) = true := by simp at h3; simp [h3]
        by_cases h4 : 1 ≤ l
        · by_cases h5 : l ≤ 10000
          · have H := Lib.hid (arcB_parts (n := n) (a := (f, t, l)) |>.2 ⟨h1, h2, h3, btB_true h4 h5⟩)
            clear h3
            go_wp2
            go_ret
            exact ⟨retB H.out.symm, k2⟩
          · have H := Lib.hid (arcB_no (n := n) (a := (f, t, l)) (.inr (.inr (.inr (btB_high h5)))))
            have hd5 : decide (l ≤ 10000) = false := decide_eq_false h5
            clear h3
            go_wp2
            go_ret
            exact ⟨retB H.out.symm, k2⟩
        · have H := Lib.hid (arcB_no (n := n) (a := (f, t, l)) (.inr (.inr (.inr (btB_low h4)))))
          clear h3
          go_wp2
          go_ret
          exact ⟨retB H.out.symm, k2⟩


set_option maxHeartbeats 2000000 in
theorem implNetOk_any (A B : Option Addr) (ca cb : Nat) (ps : List (Int × Int)) (rs : List (Int × Int × Int)) (w : World) (hn : ps.length ≤ 1048576) (hm : rs.length ≤ 1048576) (ha : IsPts w A ps) (hb : IsArcs w B rs) :
    Calls Try.prog 51 #[.agg #[.slice A ps.length ca, .slice B rs.length cb]] w fun e w' => e = .returned (.bool (netB ps rs)) ∧ Below w.heap.size w w' := by
  have X := Pair.new w 49 (.slice A ps.length ca) (.slice B rs.length cb)
  have K := below1 w (.cells #[.slice A ps.length ca, .slice B rs.length cb] 49)
  by_cases g1 : 20 < ps.length
  · have H := Lib.hid (netB_no (ps := ps) (rs := rs) (fun h => by omega))
    have hd : decide ((20 : Int) < ps.length) = true := decide_eq_true (by omega)
    go_enter Try.func51, Try.ntmps51
    go_wp2
    go_ret
    exact ⟨retB H.out.symm, K⟩
  · by_cases g2 : 70 < rs.length
    · have H := Lib.hid (netB_no (ps := ps) (rs := rs) (fun h => by omega))
      have hd : decide ((20 : Int) < ps.length) = false := decide_eq_false (by omega)
      have hd2 : decide ((70 : Int) < rs.length) = true := decide_eq_true (by omega)
      go_enter Try.func51, Try.ntmps51
      go_wp2
      go_ret
      exact ⟨retB H.out.symm, K⟩
    · have hd : decide ((20 : Int) < ps.length) = false := decide_eq_false (by omega)
      have hd2 : decide ((70 : Int) < rs.length) = false := decide_eq_false (by omega)
      go_enter Try.func51, Try.ntmps51
      go_wp2
      clear hd hd2
      go_loopw [20] (fun i wr => ∃ k : Nat, k ≤ ps.length ∧ i = .int .i64 k ∧ Pair wr w.heap.size 49 (.slice A ps.length ca) (.slice B rs.length cb) ∧ Below w.heap.size w wr ∧ ∀ j, j < k → ptB (ptg ps j).1 (ptg ps j).2 = true) (fun i _ => ps.length - (intOf i).toNat)
      case atStart => exact ⟨0, by omega, rfl, X, K, fun j hj => by omega⟩
      case round =>
        clear X K
        obtain ⟨k, hk, rfl, X, K, hall⟩ := hrel
        have HALL := Lib.hid hall
        clear hall
        by_cases hlt : k < ps.length
        · obtain ⟨b, off, rfl, -, c0, c1⟩ := (ha.below K).at_ hlt
          have b0 := below1 wr (.cells #[.int .i64 (ptg ps k).1, .int .i64 (ptg ps k).2] 120)
          cases hp : ptB (ptg ps k).1 (ptg ps k).2 with
          | false =>
            have H := Lib.hid (netB_no (ps := ps) (rs := rs) (fun h => by have := h.2.2.1 k hlt; rw [hp] at this; cases this))
            go_wp2_with fail
            refine (implPtOk_any _ _ _).mono ?_; rintro e w1 ⟨rfl, b1⟩
            have k1 := (K.trans (b0.mono K.size)).trans (b1.mono (Nat.le_trans K.size b0.size))
            clear b0 b1
            go_wp2
            go_ret
            exact ⟨retB H.out.symm, k1⟩
          | true =>
            have HP := Lib.hid hp
            go_wp2_with fail
            refine (implPtOk_any _ _ _).mono ?_; rintro e w1 ⟨rfl, b1⟩
            have k1 := (K.trans (b0.mono K.size)).trans (b1.mono (Nat.le_trans K.size b0.size))
            replace X := (X.below b0).below b1
            clear b0 b1
            go_wp2
            go_roundw
            case rel => exact ⟨k + 1, by omega, by go_num, X, k1, fun j hj => by
              rcases Nat.lt_or_ge j k with h | h
              · exact HALL.out j h
              · obtain rfl : j = k := by omega
                exact HP.out⟩
            case measure => simp [intOf]; omega
        · obtain ⟨x0, x1, -, -⟩ := X.cells
          obtain rfl : k = ps.length := by omega
          clear hlt hk
          go_wp2
          clear x0 x1
          go_loopw [31] (fun i wr => ∃ k : Nat, k ≤ rs.length ∧ i = .int .i64 k ∧ Pair wr w.heap.size 49 (.slice A ps.length ca) (.slice B rs.length cb) ∧ Below w.heap.size w wr ∧ ArcsUpTo ps.length rs k) (fun i _ => rs.length - (intOf i).toNat)
          case atStart => exact ⟨0, by omega, rfl, X, K, fun j hj => by omega⟩
          case round =>
            clear X K
            obtain ⟨k, hk, rfl, X, K, hall⟩ := hrel
            by_cases hlt : k < rs.length
            · obtain ⟨b, off, rfl, -, c0, c1, c2⟩ := (hb.below K).at_ hlt
              have TC := hb.below K
              obtain ⟨x0, x1, -, -⟩ := X.cells
              have hN := arc_new wr (arg rs k).1 (arg rs k).2.1 (arg rs k).2.2 82
              have T : ArcS w w.heap.size (.slice A ps.length ca) (.slice (some ⟨b, off, none⟩) rs.length cb) wr.heap.size (arg rs k).1 (arg rs k).2.1 (arg rs k).2.2 (wr.alloc (.cells #[.int .i64 (arg rs k).1, .int .i64 (arg rs k).2.1, .int .i64 (arg rs k).2.2] 82)) :=
                ⟨cell_under (below1 _ _) x0, cell_under (below1 _ _) x1, hN.1, hN.2.1, hN.2.2, K.alloc K.size _⟩
              have X' := X.alloc (.cells #[.int .i64 (arg rs k).1, .int .i64 (arg rs k).2.1, .int .i64 (arg rs k).2.2] 82)
              have HALL2 := Lib.hid hall
              have HTC := Lib.hid TC
              clear hall TC hN
              cases h1 : arcB ps.length (arg rs k) with
              | false =>
                have H := Lib.hid (netB_bad (ps := ps) hlt h1)
                go_wp2_with fail
                refine wp_region_held_drew (S := fun w' => ArcS w w.heap.size (.slice A ps.length ca) (.slice (some ⟨b, off, none⟩) rs.length cb) wr.heap.size (arg rs k).1 (arg rs k).2.1 (arg rs k).2.2 w') (by kernel_rfl) ?_ (fun hHeld => ?_)
                · exact ArcS.drew T
                refine wpAnyH_take (i := 0) (oi := ⟨some 36, _, _, _, _, _⟩) (v := .agg #[.slice A ps.length ca, .slice (some ⟨b, off, none⟩) rs.length cb]) rfl (by kernel_rfl) (by kernel_rfl) (by kernel_rfl) (fun _ _ _ h => h) (Or.inl ⟨by rfl, fun w' hw => ?hy⟩) hHeld ?_
                case hy => (try dsimp only at hw); go_simp
                simp only [Act.put, List.setIfInBounds_toArray, List.set_cons_zero, List.set_cons_succ]
                refine wpAnyH_take (i := 1) (oi := ⟨some 37, _, _, _, _, _⟩) (v := .agg #[.int .i64 (arg rs k).1, .int .i64 (arg rs k).2.1, .int .i64 (arg rs k).2.2]) rfl (by kernel_rfl) (by kernel_rfl) (by kernel_rfl) (fun _ _ _ h => h) (Or.inl ⟨by rfl, fun w' hw => ?hy⟩) hHeld ?_
                case hy => (try dsimp only at hw); go_simp
                simp only [Act.put, List.setIfInBounds_toArray, List.set_cons_zero, List.set_cons_succ]
                refine wpAnyH_ready (rs := [2]) (by kernel_rfl) (by simp) ?_
                refine AllReadyH.cons (o := ⟨some 38, _, _, _, _, _⟩) rfl (fun K hK => ?_) AllReadyH.nil
                go_simp
                refine (allows_any _ _ _ _ _ _ _ _ _ _).mono ?_; rintro e w1 ⟨rfl, b1⟩
                go_wp2_with fail
                refine hK.out _ _ ?_ (fun hHeld => ?_)
                · exact ArcS.under b1 hHeld
                clear hK K
                try simp only [Act.put, List.setIfInBounds_toArray, List.set_cons_zero, List.set_cons_succ]
                refine wpAnyH_take (i := 3) (oi := ⟨some 39, _, _, _, _, _⟩) (v := .bool true) rfl (by kernel_rfl) (by kernel_rfl) (by kernel_rfl) (fun _ _ _ h => h) (Or.inl ⟨by rfl, fun w' hw => ?hy⟩) hHeld ?_
                case hy => (try dsimp only at hw); go_simp
                simp only [Act.put, List.setIfInBounds_toArray, List.set_cons_zero, List.set_cons_succ]
                refine wpAnyH_take (i := 4) (oi := ⟨some 40, _, _, _, _, _⟩) (v := .bool true) rfl (by kernel_rfl) (by kernel_rfl) (by kernel_rfl) (fun _ _ _ h => h) (Or.inl ⟨by rfl, fun w' hw => ?hy⟩) hHeld ?_
                case hy => (try dsimp only at hw); go_simp
                simp only [Act.put, List.setIfInBounds_toArray, List.set_cons_zero, List.set_cons_succ]
                refine wpAnyH_take (i := 5) (oi := ⟨some 41, _, _, _, _, _⟩) (v := undef) rfl (by kernel_rfl) (by kernel_rfl) (by kernel_rfl) (fun _ _ _ h => h) (Or.inr ⟨by rfl, rfl⟩) hHeld ?_
                simp only [Act.put, List.setIfInBounds_toArray, List.set_cons_zero, List.set_cons_succ]
                refine wpAnyH_take (i := 6) (oi := ⟨some 42, _, _, _, _, _⟩) (v := undef) rfl (by kernel_rfl) (by kernel_rfl) (by kernel_rfl) (fun _ _ _ h => h) (Or.inr ⟨by rfl, rfl⟩) hHeld ?_
                simp only [Act.put, List.setIfInBounds_toArray, List.set_cons_zero, List.set_cons_succ]
                refine wpAnyH_take (i := 7) (oi := ⟨some 43, _, _, _, _, _⟩) (v := undef) rfl (by kernel_rfl) (by kernel_rfl) (by kernel_rfl) (fun _ _ _ h => h) (Or.inr ⟨by rfl, rfl⟩) hHeld ?_
                simp only [Act.put, List.setIfInBounds_toArray, List.set_cons_zero, List.set_cons_succ]
                refine wpAnyH_take (i := 8) (oi := ⟨some 44, _, _, _, _, _⟩) (v := undef) rfl (by kernel_rfl) (by kernel_rfl) (by kernel_rfl) (fun _ _ _ h => h) (Or.inr ⟨by rfl, rfl⟩) hHeld ?_
                simp only [Act.put, List.setIfInBounds_toArray, List.set_cons_zero, List.set_cons_succ]
                refine wpAnyH_take (i := 9) (oi := ⟨some 45, _, _, _, _, _⟩) (v := undef) rfl (by kernel_rfl) (by kernel_rfl) (by kernel_rfl) (fun _ _ _ h => h) (Or.inr ⟨by rfl, rfl⟩) hHeld ?_
                simp only [Act.put, List.setIfInBounds_toArray, List.set_cons_zero, List.set_cons_succ]
                refine wpAnyH_take (i := 10) (oi := ⟨some 46, _, _, _, _, _⟩) (v := undef) rfl (by kernel_rfl) (by kernel_rfl) (by kernel_rfl) (fun _ _ _ h => h) (Or.inr ⟨by rfl, rfl⟩) hHeld ?_
                simp only [Act.put, List.setIfInBounds_toArray, List.set_cons_zero, List.set_cons_succ]
                refine wpAnyH_take (i := 11) (oi := ⟨some 47, _, _, _, _, _⟩) (v := undef) rfl (by kernel_rfl) (by kernel_rfl) (by kernel_rfl) (fun _ _ _ h => h) (Or.inr ⟨by rfl, rfl⟩) hHeld ?_
                simp only [Act.put, List.setIfInBounds_toArray, List.set_cons_zero, List.set_cons_succ]
                refine wpAnyH_take (i := 12) (oi := ⟨some 48, _, _, _, _, _⟩) (v := undef) rfl (by kernel_rfl) (by kernel_rfl) (by kernel_rfl) (fun _ _ _ h => h) (Or.inr ⟨by rfl, rfl⟩) hHeld ?_
                simp only [Act.put, List.setIfInBounds_toArray, List.set_cons_zero, List.set_cons_succ]
                refine wpAnyH_take (i := 13) (oi := ⟨some 49, _, _, _, _, _⟩) (v := undef) rfl (by kernel_rfl) (by kernel_rfl) (by kernel_rfl) (fun _ _ _ h => h) (Or.inr ⟨by rfl, rfl⟩) hHeld ?_
                simp only [Act.put, List.setIfInBounds_toArray, List.set_cons_zero, List.set_cons_succ]
                refine wpAnyH_take (i := 14) (oi := ⟨some 50, _, _, _, _, _⟩) (v := undef) rfl (by kernel_rfl) (by kernel_rfl) (by kernel_rfl) (fun _ _ _ h => h) (Or.inr ⟨by rfl, rfl⟩) hHeld ?_
                simp only [Act.put, List.setIfInBounds_toArray, List.set_cons_zero, List.set_cons_succ]
                refine wpAnyH_take (i := 15) (oi := ⟨some 51, _, _, _, _, _⟩) (v := undef) rfl (by kernel_rfl) (by kernel_rfl) (by kernel_rfl) (fun _ _ _ h => h) (Or.inr ⟨by rfl, rfl⟩) hHeld ?_
                simp only [Act.put, List.setIfInBounds_toArray, List.set_cons_zero, List.set_cons_succ]
                refine wpAnyH_take (i := 16) (oi := ⟨some 52, _, _, _, _, _⟩) (v := undef) rfl (by kernel_rfl) (by kernel_rfl) (by kernel_rfl) (fun _ _ _ h => h) (Or.inr ⟨by rfl, rfl⟩) hHeld ?_
                simp only [Act.put, List.setIfInBounds_toArray, List.set_cons_zero, List.set_cons_succ]
                refine wpAnyH_take (i := 17) (oi := ⟨some 53, _, _, _, _, _⟩) (v := undef) rfl (by kernel_rfl) (by kernel_rfl) (by kernel_rfl) (fun _ _ _ h => h) (Or.inr ⟨by rfl, rfl⟩) hHeld ?_
                simp only [Act.put, List.setIfInBounds_toArray, List.set_cons_zero, List.set_cons_succ]
                refine wpAnyH_take (i := 18) (oi := ⟨some 54, _, _, _, _, _⟩) (v := .bool true) rfl (by kernel_rfl) (by kernel_rfl) (by kernel_rfl) (fun _ _ _ h => h) (Or.inl ⟨by rfl, fun w' hw => ?hy⟩) hHeld ?_
                case hy => (try dsimp only at hw); go_simp
                simp only [Act.put, List.setIfInBounds_toArray, List.set_cons_zero, List.set_cons_succ]
                refine wpAnyH_done (by kernel_rfl) ?_ _
                obtain ⟨-, -, -, -, -, k1⟩ := hHeld
                clear b1
                go_wp2
                go_ret
                exact ⟨retB H.out.symm, k1⟩
              | true =>
                have HB := Lib.hid h1
                by_cases hk0 : k = 0
                · have hd0 : decide ((0 : Int) < k) = false := decide_eq_false (by omega)
                  have hd1 : decide (0 < k) = false := decide_eq_false (by omega)
                  have HK0 := Lib.hid hk0
                  clear hk0
                  go_wp2_with fail
                  refine wp_region_held_drew (S := fun w' => ArcS w w.heap.size (.slice A ps.length ca) (.slice (some ⟨b, off, none⟩) rs.length cb) wr.heap.size (arg rs k).1 (arg rs k).2.1 (arg rs k).2.2 w') (by kernel_rfl) ?_ (fun hHeld => ?_)
                  · exact ArcS.drew T
                  refine wpAnyH_take (i := 0) (oi := ⟨some 36, _, _, _, _, _⟩) (v := .agg #[.slice A ps.length ca, .slice (some ⟨b, off, none⟩) rs.length cb]) rfl (by kernel_rfl) (by kernel_rfl) (by kernel_rfl) (fun _ _ _ h => h) (Or.inl ⟨by rfl, fun w' hw => ?hy⟩) hHeld ?_
                  case hy => (try dsimp only at hw); go_simp
                  simp only [Act.put, List.setIfInBounds_toArray, List.set_cons_zero, List.set_cons_succ]
                  refine wpAnyH_take (i := 1) (oi := ⟨some 37, _, _, _, _, _⟩) (v := .agg #[.int .i64 (arg rs k).1, .int .i64 (arg rs k).2.1, .int .i64 (arg rs k).2.2]) rfl (by kernel_rfl) (by kernel_rfl) (by kernel_rfl) (fun _ _ _ h => h) (Or.inl ⟨by rfl, fun w' hw => ?hy⟩) hHeld ?_
                  case hy => (try dsimp only at hw); go_simp
                  simp only [Act.put, List.setIfInBounds_toArray, List.set_cons_zero, List.set_cons_succ]
                  refine wpAnyH_ready (rs := [2]) (by kernel_rfl) (by simp) ?_
                  refine AllReadyH.cons (o := ⟨some 38, _, _, _, _, _⟩) rfl (fun K hK => ?_) AllReadyH.nil
                  go_simp
                  refine (allows_any _ _ _ _ _ _ _ _ _ _).mono ?_; rintro e w1 ⟨rfl, b1⟩
                  go_wp2_with fail
                  refine hK.out _ _ ?_ (fun hHeld => ?_)
                  · exact ArcS.under b1 hHeld
                  clear hK K
                  try simp only [Act.put, List.setIfInBounds_toArray, List.set_cons_zero, List.set_cons_succ]
                  refine wpAnyH_take (i := 3) (oi := ⟨some 39, _, _, _, _, _⟩) (v := .bool false) rfl (by kernel_rfl) (by kernel_rfl) (by kernel_rfl) (fun _ _ _ h => h) (Or.inl ⟨by rfl, fun w' hw => ?hy⟩) hHeld ?_
                  case hy => (try dsimp only at hw); go_simp
                  simp only [Act.put, List.setIfInBounds_toArray, List.set_cons_zero, List.set_cons_succ]
                  refine wpAnyH_take (i := 4) (oi := ⟨some 40, _, _, _, _, _⟩) (v := .bool false) rfl (by kernel_rfl) (by kernel_rfl) (by kernel_rfl) (fun _ _ _ h => h) (Or.inl ⟨by rfl, fun w' hw => ?hy⟩) hHeld ?_
                  case hy => (try dsimp only at hw); go_simp
                  simp only [Act.put, List.setIfInBounds_toArray, List.set_cons_zero, List.set_cons_succ]
                  refine wpAnyH_take (i := 5) (oi := ⟨some 41, _, _, _, _, _⟩) (v := .int .i64 k) rfl (by kernel_rfl) (by kernel_rfl) (by kernel_rfl) (fun _ _ _ h => h) (Or.inl ⟨by rfl, fun w' hw => ?hy⟩) hHeld ?_
                  case hy => (try dsimp only at hw); go_simp
                  simp only [Act.put, List.setIfInBounds_toArray, List.set_cons_zero, List.set_cons_succ]
                  refine wpAnyH_take (i := 6) (oi := ⟨some 42, _, _, _, _, _⟩) (v := .bool false) rfl (by kernel_rfl) (by kernel_rfl) (by kernel_rfl) (fun _ _ _ h => h) (Or.inl ⟨by rfl, fun w' hw => ?hy⟩) hHeld ?_
                  case hy => (try dsimp only at hw); go_simp
                  simp only [Act.put, List.setIfInBounds_toArray, List.set_cons_zero, List.set_cons_succ]
                  refine wpAnyH_take (i := 7) (oi := ⟨some 43, _, _, _, _, _⟩) (v := .bool false) rfl (by kernel_rfl) (by kernel_rfl) (by kernel_rfl) (fun _ _ _ h => h) (Or.inl ⟨by rfl, fun w' hw => ?hy⟩) hHeld ?_
                  case hy => (try dsimp only at hw); go_simp
                  simp only [Act.put, List.setIfInBounds_toArray, List.set_cons_zero, List.set_cons_succ]
                  refine wpAnyH_take (i := 8) (oi := ⟨some 44, _, _, _, _, _⟩) (v := undef) rfl (by kernel_rfl) (by kernel_rfl) (by kernel_rfl) (fun _ _ _ h => h) (Or.inr ⟨by rfl, rfl⟩) hHeld ?_
                  simp only [Act.put, List.setIfInBounds_toArray, List.set_cons_zero, List.set_cons_succ]
                  refine wpAnyH_take (i := 9) (oi := ⟨some 45, _, _, _, _, _⟩) (v := undef) rfl (by kernel_rfl) (by kernel_rfl) (by kernel_rfl) (fun _ _ _ h => h) (Or.inr ⟨by rfl, rfl⟩) hHeld ?_
                  simp only [Act.put, List.setIfInBounds_toArray, List.set_cons_zero, List.set_cons_succ]
                  refine wpAnyH_take (i := 10) (oi := ⟨some 46, _, _, _, _, _⟩) (v := undef) rfl (by kernel_rfl) (by kernel_rfl) (by kernel_rfl) (fun _ _ _ h => h) (Or.inr ⟨by rfl, rfl⟩) hHeld ?_
                  simp only [Act.put, List.setIfInBounds_toArray, List.set_cons_zero, List.set_cons_succ]
                  refine wpAnyH_take (i := 11) (oi := ⟨some 47, _, _, _, _, _⟩) (v := undef) rfl (by kernel_rfl) (by kernel_rfl) (by kernel_rfl) (fun _ _ _ h => h) (Or.inr ⟨by rfl, rfl⟩) hHeld ?_
                  simp only [Act.put, List.setIfInBounds_toArray, List.set_cons_zero, List.set_cons_succ]
                  refine wpAnyH_take (i := 12) (oi := ⟨some 48, _, _, _, _, _⟩) (v := undef) rfl (by kernel_rfl) (by kernel_rfl) (by kernel_rfl) (fun _ _ _ h => h) (Or.inr ⟨by rfl, rfl⟩) hHeld ?_
                  simp only [Act.put, List.setIfInBounds_toArray, List.set_cons_zero, List.set_cons_succ]
                  refine wpAnyH_take (i := 13) (oi := ⟨some 49, _, _, _, _, _⟩) (v := undef) rfl (by kernel_rfl) (by kernel_rfl) (by kernel_rfl) (fun _ _ _ h => h) (Or.inr ⟨by rfl, rfl⟩) hHeld ?_
                  simp only [Act.put, List.setIfInBounds_toArray, List.set_cons_zero, List.set_cons_succ]
                  refine wpAnyH_take (i := 14) (oi := ⟨some 50, _, _, _, _, _⟩) (v := undef) rfl (by kernel_rfl) (by kernel_rfl) (by kernel_rfl) (fun _ _ _ h => h) (Or.inr ⟨by rfl, rfl⟩) hHeld ?_
                  simp only [Act.put, List.setIfInBounds_toArray, List.set_cons_zero, List.set_cons_succ]
                  refine wpAnyH_take (i := 15) (oi := ⟨some 51, _, _, _, _, _⟩) (v := undef) rfl (by kernel_rfl) (by kernel_rfl) (by kernel_rfl) (fun _ _ _ h => h) (Or.inr ⟨by rfl, rfl⟩) hHeld ?_
                  simp only [Act.put, List.setIfInBounds_toArray, List.set_cons_zero, List.set_cons_succ]
                  refine wpAnyH_take (i := 16) (oi := ⟨some 52, _, _, _, _, _⟩) (v := undef) rfl (by kernel_rfl) (by kernel_rfl) (by kernel_rfl) (fun _ _ _ h => h) (Or.inr ⟨by rfl, rfl⟩) hHeld ?_
                  simp only [Act.put, List.setIfInBounds_toArray, List.set_cons_zero, List.set_cons_succ]
                  refine wpAnyH_take (i := 17) (oi := ⟨some 53, _, _, _, _, _⟩) (v := .bool false) rfl (by kernel_rfl) (by kernel_rfl) (by kernel_rfl) (fun _ _ _ h => h) (Or.inl ⟨by rfl, fun w' hw => ?hy⟩) hHeld ?_
                  case hy => (try dsimp only at hw); go_simp
                  simp only [Act.put, List.setIfInBounds_toArray, List.set_cons_zero, List.set_cons_succ]
                  refine wpAnyH_take (i := 18) (oi := ⟨some 54, _, _, _, _, _⟩) (v := .bool false) rfl (by kernel_rfl) (by kernel_rfl) (by kernel_rfl) (fun _ _ _ h => h) (Or.inl ⟨by rfl, fun w' hw => ?hy⟩) hHeld ?_
                  case hy => (try dsimp only at hw); go_simp
                  simp only [Act.put, List.setIfInBounds_toArray, List.set_cons_zero, List.set_cons_succ]
                  refine wpAnyH_done (by kernel_rfl) ?_ _
                  obtain ⟨-, -, -, -, -, k1⟩ := hHeld
                  have X2 := (show Pair (wr.alloc (.cells #[.int .i64 (arg rs k).1, .int .i64 (arg rs k).2.1, .int .i64 (arg rs k).2.2] 82)).drew w.heap.size 49 (.slice A ps.length ca) (.slice (some ⟨b, off, none⟩) rs.length cb) from X').below b1
                  clear b1 hd0 hd1
                  go_wp2
                  go_roundw
                  case rel => exact ⟨k + 1, by omega, by go_num, X2, k1, HALL2.out.step HB.out (.inl HK0.out)⟩
                  case measure => simp [intOf]; omega
                · obtain ⟨j, hj⟩ : ∃ j, j + 1 = k := ⟨k - 1, by omega⟩
                  obtain ⟨b', off', hA, -, p0, p1, p2⟩ := HTC.out.at_ (show j < rs.length by omega)
                  injection hA with hA
                  injection hA with hA1 hA2
                  subst hA1 hA2
                  have T2 : ArcS2 w w.heap.size (.slice A ps.length ca) (.slice (some ⟨b, off, none⟩) rs.length cb) wr.heap.size (arg rs k).1 (arg rs k).2.1 (arg rs k).2.2 b (off + j * 3) (arg rs j).1 (arg rs j).2.1 (arg rs j).2.2 (wr.alloc (.cells #[.int .i64 (arg rs k).1, .int .i64 (arg rs k).2.1, .int .i64 (arg rs k).2.2] 82)) :=
                    ⟨T.1, T.2.1, T.2.2.1, T.2.2.2.1, T.2.2.2.2.1, cell_under (below1 _ _) p0, cell_under (below1 _ _) p1, cell_under (below1 _ _) p2, T.2.2.2.2.2⟩
                  have hd0 : decide ((0 : Int) < k) = true := decide_eq_true (by omega)
                  have hd1 : decide (0 < k) = true := decide_eq_true (by omega)
                  have ej : IntKind.i64.wrap ((k : Int) - 1) = j := by rw [show (k : Int) - 1 = j by omega]; exact IntWalk.i64_in _ (by omega)
                  have EJ := Lib.hid ej
                  have hjl : j < rs.length := by omega
                  have hjd : decide (j < rs.length) = true := decide_eq_true hjl
                  have hji : (j : Int) < rs.length := by omega
                  have HJ := Lib.hid hj
                  clear hj ej p0 p1 p2 T
                  cases h5 : arcLt (arg rs j) (arg rs k) with
                  | false =>
                    have H := Lib.hid (netB_unsorted (ps := ps) (k := j) (by rw [HJ.out]; exact hlt) (by rw [HJ.out]; exact h5))
                    go_wp2_with fail
                    have ej := EJ.out
                    go_region_held3 (fun w' => ArcS2 w w.heap.size (.slice A ps.length ca) (.slice (some ⟨b, off, none⟩) rs.length cb) wr.heap.size (arg rs k).1 (arg rs k).2.1 (arg rs k).2.2 b (off + j * 3) (arg rs j).1 (arg rs j).2.1 (arg rs j).2.2 w') (first | exact ArcS2.drew T2 | assumption | (refine ArcS2.under (by assumption) ?_; assumption))
                      (first
                        | (go_at_call 81; refine (allows_any _ _ _ _ _ _ _ _ _ _).mono ?_; rintro e w1 ⟨rfl, b1⟩)
                        | (go_at_call 56; refine (precedes_any _ _ _ _ _ _ _).mono ?_; rintro e w2 ⟨rfl, b2⟩))
                    rename_i hU
                    obtain ⟨-, -, -, -, -, -, -, -, k1⟩ := hU
                    clear ej
                    go_wp2
                    go_ret
                    exact ⟨retB H.out.symm, k1⟩
                  | true =>
                    have H5 := Lib.hid (show arcLt (arg rs (k - 1)) (arg rs k) = true by rw [show k - 1 = j by have := HJ.out; omega]; exact h5)
                    replace X' : Pair (wr.alloc (.cells #[.int .i64 (arg rs k).1, .int .i64 (arg rs k).2.1, .int .i64 (arg rs k).2.2] 82)).drew w.heap.size 49 (.slice A ps.length ca) (.slice (some ⟨b, off, none⟩) rs.length cb) := X'
                    go_wp2_with fail
                    have ej := EJ.out
                    go_region_held3 (fun w' => ArcS2 w w.heap.size (.slice A ps.length ca) (.slice (some ⟨b, off, none⟩) rs.length cb) wr.heap.size (arg rs k).1 (arg rs k).2.1 (arg rs k).2.2 b (off + j * 3) (arg rs j).1 (arg rs j).2.1 (arg rs j).2.2 w') (first | exact ArcS2.drew T2 | assumption | (refine ArcS2.under (by assumption) ?_; assumption))
                      (first
                        | (go_at_call 81; refine (allows_any _ _ _ _ _ _ _ _ _ _).mono ?_; rintro e w1 ⟨rfl, b1⟩)
                        | (go_at_call 56; refine (precedes_any _ _ _ _ _ _ _).mono ?_; rintro e w2 ⟨rfl, b2⟩))
                    rename_i hU
                    obtain ⟨-, -, -, -, -, -, -, -, k1⟩ := hU
                    clear ej
                    replace X' := (X'.below b1).below b2
                    clear b1 b2 hd0 hd1
                    go_wp2
                    go_roundw
                    case rel => exact ⟨k + 1, by omega, by go_num, X', k1, HALL2.out.step HB.out (.inr H5.out)⟩
                    case measure => simp [intOf]; omega
            · obtain ⟨x0, x1, -, -⟩ := X.cells
              obtain rfl : k = rs.length := by omega
              have H := Lib.hid (netB_iff.2 ⟨by omega, by omega, HALL.out, hall⟩)
              go_wp2
              go_ret
              exact ⟨retB H.out.symm, K⟩

end Go.Proofs.Ytagaildnfbegkaa
