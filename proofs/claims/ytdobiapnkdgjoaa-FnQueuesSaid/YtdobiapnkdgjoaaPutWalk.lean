/-
  What spec.l06Put computes: its walk.
-/
import Derived.Test.YtdobiapnkdgjoaaPutSp
namespace Go.Proofs.Ytdobiapnkdgjoaa
open Go.RowKit Go.Deep Go.Maps

/-- Items in a row of the call's own. -/
def PutOwn (w : World) (zs : List (Int × Int)) (e : Ending) (w' : World) : Prop := ∃ v, e = .returned v ∧ w'.ownsRow w.heap.size 45 2 v zs.length (cellsP zs) ∧ Below w.heap.size w w'

theorem putOwn_of {w w' : World} {q r : List (Int × Int)} {x y : Int} {j : Nat} {v : Value} (hs : stopB q (x, y) = false) (hr : restL q (x, y) = r) (hp : place r (x, y) = j)
    (own : w'.ownsRow w.heap.size 45 2 v (r.take j ++ [(x, y)] ++ r.drop j).length (cellsP (r.take j ++ [(x, y)] ++ r.drop j))) (K : Below w.heap.size w w') : PutOwn w (putL q (x, y)) (.returned v) w' := by
  have e : putL q (x, y) = r.take j ++ [(x, y)] ++ r.drop j := by unfold putL insL; rw [hs, hr, hp]; simp
  rw [e]; exact ⟨v, rfl, own, K⟩
theorem putOwn_same {w w' : World} {q : List (Int × Int)} {x y : Int} {v : Value} (hs : stopB q (x, y) = true) (own : w'.ownsRow w.heap.size 45 2 v q.length (cellsP q)) (K : Below w.heap.size w w') : PutOwn w (putL q (x, y)) (.returned v) w' := by
  have e : putL q (x, y) = q := by unfold putL; rw [hs]; simp
  rw [e]; exact ⟨v, rfl, own, K⟩

theorem Pu1.below {w wr wd : World} {q : List (Int × Int)} {x y : Int} {v : Value} {k : Nat} (h : Pu1 w q x y v k wr) (hb : Below wr.heap.size wr wd) : Pu1 w q x y v k wd := by
  obtain ⟨h1, h2, h3, h4, h5⟩ := h
  exact ⟨h1, ownsRow_below h2 hb, h3.below hb, h4, h5.trans (hb.mono h5.size)⟩
theorem pu1_start (w : World) (q : List (Int × Int)) (x y : Int) : Pu1 w q x y (.slice (some ⟨w.heap.size + 1, 0, none⟩) 0 0) 0 ((w.alloc (.cells #[.int .i64 x, .int .i64 y] 45)).alloc (.cells #[] 45)) := by
  have own0 := World.ownsRow_made (base := w.heap.size + 1) (size := 2) (e := 45) (w.alloc (.cells #[.int .i64 x, .int .i64 y] 45)) #[] 0 (by simp) (by decide) rfl
  rw [World.size_alloc] at own0
  exact ⟨⟨_, _, rfl⟩, own0, (Pair.new w _ _ _).alloc _, fun i hi => by omega, below2 w _ _⟩
theorem pu1_skip {w wr : World} {q : List (Int × Int)} {x y : Int} {v : Value} {k : Nat} (h : Pu1 w q x y v k wr) (hk : k < q.length) (he : (ptg q k).2 = y) (hle : ¬ (ptg q k).1 ≤ x) : Pu1 w q x y v (k + 1) wr := by
  obtain ⟨h1, h2, h3, h4, h5⟩ := h
  unfold Pu1
  rw [restL_same (x := (x, y)) hk he]
  refine ⟨h1, h2, h3, fun i hi => ?_, h5⟩
  rcases Nat.lt_or_ge i k with h' | h'
  · exact h4 i h'
  · obtain rfl : i = k := by omega
    exact fun _ => hle
/-- One item appended to the rest. -/
theorem pu1_more {w wr : World} {q : List (Int × Int)} {x y : Int} {v : Value} {k : Nat} (h : Pu1 w q x y v k wr) (hk : k < q.length) (hn : q.length ≤ 1048576) (he : (ptg q k).2 ≠ y) :
    ∃ v' w', (Builtin.append_ #[43, 43] 43 #[v, .slice (some ⟨wr.heap.size, 0, none⟩) 1 1]).run Try.prog (wr.alloc (.cells #[.int .i64 (ptg q k).1, .int .i64 (ptg q k).2] 45)) = .ok v' w' ∧ Pu1 w q x y v' (k + 1) w' := by
  obtain ⟨h1, h2, h3, h4, h5⟩ := h
  have hPl := h3.lt
  have hl : (restL (q.take k) (x, y)).length ≤ k := by have := restL_len (q.take k) (x, y); rw [List.length_take] at this; omega
  have kb := below1 wr (.cells #[.int .i64 (ptg q k).1, .int .i64 (ptg q k).2] 45)
  obtain ⟨v', w', hr, o', g', -⟩ := run_append_items (ty := 43) _ _ _ _ (ownsRow_below h2 kb) (some ⟨wr.heap.size, 0, none⟩) 1 1 [((ptg q k).1, (ptg q k).2)] rfl (one_pts wr _ _) (by omega) (by rw [World.size_alloc]; omega)
  refine ⟨v', w', hr, ?_⟩
  have hown : w'.ownsRow (w.heap.size + 1) 45 2 v' (restL (q.take (k + 1)) (x, y)).length (cellsP (restL (q.take (k + 1)) (x, y))) := by
    rw [restL_more (x := (x, y)) hk he, List.length_append, cellsP_append]; exact o'
  have hP : Pair w' w.heap.size 45 (.int .i64 x) (.int .i64 y) := (h3.alloc _).grown' (w := wr.alloc _) g' (fun g e => by have := (World.ownsRow.lt h2 g e).1; omega)
  have hK : Below w.heap.size w w' := (h5.trans (kb.mono h5.size)).grown g' (by rw [World.size_alloc]; omega) (fun g e => by have := (World.ownsRow.lt h2 g e).1; omega)
  refine ⟨?_, hown, hP, fun i hi => ?_, hK⟩
  · obtain ⟨A, cap, rfl, -, hA⟩ := ownI_is hown
    obtain ⟨g, rfl, -, -⟩ := hA (by rw [restL_more (x := (x, y)) hk he]; simp)
    exact ⟨g, cap, rfl⟩
  · rcases Nat.lt_or_ge i k with h' | h'
    · exact h4 i h'
    · obtain rfl : i = k := by omega
      exact fun h => absurd h he
/-- The whole queue anew. -/
theorem pu1_whole {w wr : World} {q : List (Int × Int)} {x y : Int} {v : Value} {k : Nat} (h : Pu1 w q x y v k wr) (hn : q.length ≤ 1048576) (A : Option Addr) (ca : Nat) (hA : IsPts w A q) :
    ∃ v' w', (Builtin.append_ #[43, 43] 43 #[.slice (some ⟨wr.heap.size, 0, none⟩) 0 0, .slice A q.length ca]).run Try.prog (wr.alloc (.cells #[] 45)) = .ok v' w' ∧ w'.ownsRow w.heap.size 45 2 v' q.length (cellsP q) ∧ Below w.heap.size w w' := by
  obtain ⟨-, -, h3, -, h5⟩ := h
  have kb := below1 wr (.cells #[] 45)
  have own0 := World.ownsRow_made (base := wr.heap.size) (size := 2) (e := 45) wr #[] 0 (Nat.le_refl _) (by decide) rfl
  obtain ⟨v', w', hr, o', g', -⟩ := run_append_items (ty := 43) _ _ _ _ own0 A q.length ca q rfl ((hA.below h5).below kb) (by omega) (by simp)
  exact ⟨v', w', hr, ownsRow_base (by simpa using o') h5.size, h5.trans ((kb.grown g' kb.size (fun g e => (World.ownsRow.lt own0 g e).1)).mono h5.size)⟩

/-- The cells that the second loop reads, and nothing older has turned. -/
abbrev At3 (w0 : World) (b1 o1 b2 : Nat) (k1 d1 x y : Int) (w : World) : Prop := w.cell? ⟨b1, o1, none⟩ = some (.int .i64 k1) ∧ w.cell? ⟨b1, o1 + 1, none⟩ = some (.int .i64 d1) ∧ w.cell? ⟨b2, 0, none⟩ = some (.int .i64 x) ∧ w.cell? ⟨b2, 1, none⟩ = some (.int .i64 y) ∧ Below w0.heap.size w0 w
theorem At3.under {w0 : World} {b1 o1 b2 : Nat} {k1 d1 x y : Int} {w w' : World} (hb : Below w.heap.size w w') (h : At3 w0 b1 o1 b2 k1 d1 x y w) : At3 w0 b1 o1 b2 k1 d1 x y w' := ⟨cell_under hb h.1, cell_under hb h.2.1, cell_under hb h.2.2.1, cell_under hb h.2.2.2.1, h.2.2.2.2.trans (hb.mono h.2.2.2.2.size)⟩
theorem At3.drew {w0 : World} {b1 o1 b2 : Nat} {k1 d1 x y : Int} {w : World} (h : At3 w0 b1 o1 b2 k1 d1 x y w) : At3 w0 b1 o1 b2 k1 d1 x y w.drew := ⟨h.1, h.2.1, h.2.2.1, h.2.2.2.1, h.2.2.2.2.drew⟩

set_option maxRecDepth 100000 in
set_option maxHeartbeats 4000000 in
theorem l06Put_any (A : Option Addr) (ca : Nat) (q : List (Int × Int)) (x y : Int) (w : World) (hn : q.length ≤ 1048576) (h : IsPts w A q) :
    Calls Try.prog 81 #[.slice A q.length ca, .agg #[.int .i64 x, .int .i64 y]] w (PutOwn w (putL q (x, y))) := by
  have U0 := pu1_start w q x y
  go_enter Try.func81, Try.ntmps81
  go_wp2_with fail
  go_loopw [5, 6] (fun v i wr => ∃ k : Nat, k ≤ q.length ∧ i = .int .i64 k ∧ Pu1 w q x y v k wr) (fun _ i _ => q.length - (intOf i).toNat)
  case atStart => exact ⟨0, by omega, rfl, U0⟩
  case round =>
    clear U0
    obtain ⟨k, hk, rfl, U⟩ := hrel
    by_cases hlt : k < q.length
    · obtain ⟨b, off, rfl, -, z1, z2⟩ := (h.below U.2.2.2.2).at_ (k := k) hlt
      obtain ⟨p0, p1, p2, p3⟩ := U.2.2.1.cells
      by_cases he : (ptg q k).2 = y
      · have he' : ((ptg q k).2 == y) = true := by simpa using he
        have HE := Lib.hid he
        by_cases hle : (ptg q k).1 ≤ x
        · have HS := Lib.hid (stopB_yes (x := (x, y)) hlt he hle)
          have HLE := Lib.hid hle
          have HU := Lib.hid U
          clear U he hle
          go_wp2_with fail
          go_quiet (fail)
          have Kd := below_drewN (Below.refl wr.heap.size wr) nq
          have U := HU.out.below Kd
          clear HU Kd z1 z2 p0 p1 p2 p3 he'
          generalize World.drewN wr nq = wd at U ⊢
          obtain ⟨b2, o2, e2, -, z1, z2⟩ := (h.below U.2.2.2.2).at_ (k := k) hlt
          cases e2
          obtain ⟨p0, p1, p2, p3⟩ := U.2.2.1.cells
          have hle := HLE.out
          have HU := Lib.hid U
          clear U
          go_wp2_with fail
          go_quiet (fail)
          have Kd := below_drewN (Below.refl wd.heap.size wd) nq
          have U := HU.out.below Kd
          clear HU Kd z1 z2 p0 p1 p2 p3 hle
          generalize World.drewN wd nq = we at U ⊢
          obtain ⟨v', w', hr, own', K'⟩ := pu1_whole U hn _ ca h
          clear U
          go_wp2_with (at_builtin; refine Lib.wpList_append_run _ rfl _ _ _ _ rfl _ _ rfl rfl _ _ hr ?_)
          go_ret
          exact putOwn_same HS.out own' K'
        · have HLE := Lib.hid hle
          have HU := Lib.hid U
          clear U he hle
          go_wp2_with fail
          go_quiet (fail)
          have Kd := below_drewN (Below.refl wr.heap.size wr) nq
          have U := HU.out.below Kd
          clear HU Kd z1 z2 p0 p1 p2 p3 he'
          generalize World.drewN wr nq = wd at U ⊢
          obtain ⟨b2, o2, e2, -, z1, z2⟩ := (h.below U.2.2.2.2).at_ (k := k) hlt
          cases e2
          obtain ⟨p0, p1, p2, p3⟩ := U.2.2.1.cells
          have hle : decide ((ptg q k).1 ≤ x) = false := decide_eq_false (by have := HLE.out; omega)
          have HU := Lib.hid U
          clear U
          go_wp2_with fail
          go_quiet (fail)
          have Kd := below_drewN (Below.refl wd.heap.size wd) nq
          have HU2 := Lib.hid (pu1_skip (HU.out.below Kd) hlt HE.out (by have := HLE.out; omega))
          clear HU Kd z1 z2 p0 p1 p2 p3
          go_wp2
          go_roundw
          case rel => exact ⟨k + 1, by omega, by go_num, HU2.out⟩
          case measure => simp [intOf]; omega
      · have he' : ((ptg q k).2 == y) = false := by simpa using he
        have HE := Lib.hid he
        have HU := Lib.hid U
        clear U he
        go_wp2_with fail
        go_quiet (fail)
        have Kd := below_drewN (Below.refl wr.heap.size wr) nq
        have U := HU.out.below Kd
        clear HU Kd z1 z2 p0 p1 p2 p3 he'
        generalize World.drewN wr nq = wd at U ⊢
        obtain ⟨b2, o2, e2, -, z1, z2⟩ := (h.below U.2.2.2.2).at_ (k := k) hlt
        cases e2
        obtain ⟨v', w', hr, U'⟩ := pu1_more U hlt hn HE.out
        have HU := Lib.hid U'
        clear U U'
        go_wp2_with (at_builtin; refine Lib.wpList_append_run _ rfl _ _ _ _ rfl _ _ rfl rfl _ _ hr ?_)
        go_roundw
        case rel => exact ⟨k + 1, by omega, by go_num, HU.out⟩
        case measure => simp [intOf]; omega
    · obtain rfl : k = q.length := by omega
      obtain ⟨⟨g, cap, e⟩, own0, P0, hno, K0⟩ := U
      rw [List.take_length] at e own0
      subst e
      have HS := Lib.hid (stopB_no (x := (x, y)) hno)
      have hl := restL_len q (x, y)
      obtain ⟨r, HR⟩ : ∃ r, Hid (restL q (x, y) = r) := ⟨_, Lib.hid rfl⟩
      rw [HR.out] at own0 hl ⊢
      have hcap : r.length ≤ cap := by obtain ⟨A, cap', e, h', -⟩ := ownI_is own0; cases e; exact h'
      have hPl := P0.lt
      clear hno hlt hk
      obtain ⟨wo, rfl⟩ : ∃ wo, wo = wr := ⟨_, rfl⟩
      go_wp2_with fail
      go_loopw [7] (fun i wr2 => ∃ j : Nat, j ≤ r.length ∧ i = .int .i64 j ∧ (∀ i, i < j → ltB (ptg r i) (x, y) = true) ∧ Below wo.heap.size wo wr2) (fun i _ => r.length - (intOf i).toNat)
      case atStart => exact ⟨0, by omega, rfl, fun i hi => by omega, Below.refl _ _⟩
      case round =>
        obtain ⟨j, hj, rfl, hbe, KJ⟩ := hrel
        by_cases hjr : j < r.length
        · obtain ⟨b1, o1, e1, -, z1, z2⟩ := ((own_pts own0).below KJ).at_ (k := j) hjr
          cases e1
          rw [Nat.zero_add] at z1 z2
          obtain ⟨p0, p1, -, -⟩ := (P0.below KJ).cells
          have T : At3 wo g (j * 2) w.heap.size (ptg r j).1 (ptg r j).2 x y _ := ⟨z1, z2, p0, p1, KJ⟩
          have hd0 : decide ((j : Int) < (r.length : Int)) = true := decide_eq_true (by omega)
          have hd1 : decide (j < r.length) = true := decide_eq_true hjr
          have hji : (j : Int) < r.length := by omega
          clear z1 z2 p0 p1 KJ
          by_cases hs : ltB (ptg r j) (x, y) = true
          · have hc : cmpI ((ptg r j).1, (ptg r j).2) (x, y) < 0 := of_decide_eq_true hs
            have HB := Lib.hid (show ∀ i, i < j + 1 → ltB (ptg r i) (x, y) = true from fun i hi => by
              rcases Nat.lt_or_ge i j with h' | h'
              · exact hbe i h'
              · obtain rfl : i = j := by omega
                exact hs)
            obtain ⟨c, HC⟩ : ∃ c, Hid (cmpI ((ptg r j).1, (ptg r j).2) (x, y) = c) := ⟨_, Lib.hid rfl⟩
            rw [HC.out] at hc
            have hc2 : decide (c < 0) = true := decide_eq_true hc
            clear hs hbe
            go_wp2_with fail
            go_region_held3 (fun w' => At3 wo g (j * 2) w.heap.size (ptg r j).1 (ptg r j).2 x y w')
              (first | exact At3.drew T | (refine At3.under (by assumption) ?_; assumption))
              ((go_at_call 93; refine (l06Cmp_any _ _ _ _ _).mono ?_; rw [HC.out]; rintro e w3 ⟨rfl, b3⟩))
            rename_i hU
            obtain ⟨-, -, -, -, KJ⟩ := hU
            clear T b3 HC hc hc2
            go_wp2
            go_roundw
            case rel => exact ⟨j + 1, by omega, by go_num, HB.out, KJ⟩
            case measure => simp [intOf]; omega
          · have hs' : ltB (ptg r j) (x, y) = false := by simpa using hs
            have HPL := Lib.hid (place_is hj hbe (fun _ => hs'))
            have hc : ¬ cmpI ((ptg r j).1, (ptg r j).2) (x, y) < 0 := of_decide_eq_false hs'
            obtain ⟨c, HC⟩ : ∃ c, Hid (cmpI ((ptg r j).1, (ptg r j).2) (x, y) = c) := ⟨_, Lib.hid rfl⟩
            rw [HC.out] at hc
            have hc2 : decide (c < 0) = false := decide_eq_false hc
            clear hs hs' hbe
            go_wp2_with fail
            go_region_held3 (fun w' => At3 wo g (j * 2) w.heap.size (ptg r j).1 (ptg r j).2 x y w')
              (first | exact At3.drew T | (refine At3.under (by assumption) ?_; assumption))
              ((go_at_call 93; refine (l06Cmp_any _ _ _ _ _).mono ?_; rw [HC.out]; rintro e w3 ⟨rfl, b3⟩))
            rename_i hU
            obtain ⟨-, -, -, -, KJ⟩ := hU
            clear T b3 HC hc hc2
            have own := ownsRow_below own0 KJ
            have P := P0.below KJ
            have KW := K0.trans (KJ.mono K0.size)
            clear own0 P0 K0 KJ
            obtain ⟨v1, w1, v2, w2, v3, w3, h1, P1, h2, h3, own3, K3⟩ := cat3 (w := w) (j := j) (by omega) (by omega) own P KW ⟨g, j * 2, none⟩ (cap - j) (fun W hW => by have := isPts_drop j ((own_pts own).below hW); rw [Nat.zero_add] at this; exact this)
            obtain ⟨r0, r1, r2, r3⟩ := P1.cells
            have HO := Lib.hid own3
            have HK := Lib.hid K3
            have hjc : (j : Int) ≤ cap := by omega
            have hjl : ¬ ((r.length : Int) < j) := by omega
            have hjr : j ≤ r.length := by omega
            have hjk : j ≤ cap := by omega
            clear own3 K3 own P P1 KW
            go_wp2_with (at_builtin; first | refine Lib.wpList_append_run _ rfl _ _ _ _ rfl _ _ rfl rfl _ _ h1 ?_ | refine Lib.wpList_append_run _ rfl _ _ _ _ rfl _ _ rfl rfl _ _ h2 ?_ | refine Lib.wpList_append_run _ rfl _ _ _ _ rfl _ _ rfl rfl _ _ h3 ?_)
            go_ret
            exact putOwn_of HS.out HR.out HPL.out HO.out HK.out
        · obtain rfl : j = r.length := by omega
          have HPL := Lib.hid (place_is hj hbe (fun h' => by omega))
          have hd0 : decide ((r.length : Int) < (r.length : Int)) = false := decide_eq_false (by omega)
          have hd1 : decide (r.length < r.length) = false := decide_eq_false (by omega)
          clear hbe
          go_wp2_with fail
          go_quiet (fail)
          replace KJ := below_drewN KJ nq
          generalize World.drewN wr nq = wd at KJ ⊢
          have own := ownsRow_below own0 KJ
          have P := P0.below KJ
          have KW := K0.trans (KJ.mono K0.size)
          clear own0 P0 K0 KJ
          by_cases hcj : r.length = cap
          · obtain ⟨v1, w1, v2, w2, v3, w3, h1, P1, h2, h3, own3, K3⟩ := cat3 (w := w) (j := r.length) (by omega) (by omega) own P KW ⟨g, 0, none⟩ 0 (fun W _ => by rw [List.drop_length]; exact fun hp => by simp at hp)
            rw [Nat.sub_self] at h3
            obtain ⟨r0, r1, r2, r3⟩ := P1.cells
            have HO := Lib.hid own3
            have HK := Lib.hid K3
            clear own3 K3 own P P1 KW
            subst hcj
            go_wp2_with (at_builtin; first | refine Lib.wpList_append_run _ rfl _ _ _ _ rfl _ _ rfl rfl _ _ h1 ?_ | refine Lib.wpList_append_run _ rfl _ _ _ _ rfl _ _ rfl rfl _ _ h2 ?_ | refine Lib.wpList_append_run _ rfl _ _ _ _ rfl _ _ rfl rfl _ _ h3 ?_)
            go_ret
            exact putOwn_of HS.out HR.out HPL.out HO.out HK.out
          · obtain ⟨v1, w1, v2, w2, v3, w3, h1, P1, h2, h3, own3, K3⟩ := cat3 (w := w) (j := r.length) (by omega) (by omega) own P KW ⟨g, r.length * 2, none⟩ (cap - r.length) (fun W _ => by rw [List.drop_length]; exact fun hp => by simp at hp)
            rw [Nat.sub_self] at h3
            obtain ⟨r0, r1, r2, r3⟩ := P1.cells
            have HO := Lib.hid own3
            have HK := Lib.hid K3
            have hjc : (r.length : Int) ≤ cap := by omega
            clear own3 K3 own P P1 KW
            go_wp2_with (at_builtin; first | refine Lib.wpList_append_run _ rfl _ _ _ _ rfl _ _ rfl rfl _ _ h1 ?_ | refine Lib.wpList_append_run _ rfl _ _ _ _ rfl _ _ rfl rfl _ _ h2 ?_ | refine Lib.wpList_append_run _ rfl _ _ _ _ rfl _ _ rfl rfl _ _ h3 ?_)
            go_ret
            exact putOwn_of HS.out HR.out HPL.out HO.out HK.out

end Go.Proofs.Ytdobiapnkdgjoaa
