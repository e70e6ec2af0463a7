/-
  What impl.Query and spec.Query compute.
-/
import Derived.Test.YtagaildnfbegkabQueryM
import Derived.Deep.RegionHeld3
namespace Go.Proofs.Ytagaildnfbegkab
open Go.RowKit Go.Deep Go.Maps

theorem HiS.bel {W0 : World} {b : Nat} {u v : Value} {w : World} (h : HiS W0 b u v w) : Below W0.heap.size W0 w := h.2.2
theorem HiS.drew {W0 : World} {b : Nat} {u v : Value} {w : World} (h : HiS W0 b u v w) : HiS W0 b u v w.drew := ⟨h.1, h.2.1, h.2.2.drew⟩

set_option maxRecDepth 1000000 in
set_option maxHeartbeats 8000000 in
theorem implQuery_any (A B : Option Addr) (ca cb : Nat) (zs : List Int) (rs : List A4) (s t : Int) (w : World) (hn : zs.length ≤ 1048576) (hm : rs.length ≤ 1048576) (ha : IsInts w A zs) (hb : IsHs w B rs) :
    Calls Try.prog 11 #[.agg #[.slice A zs.length ca, .slice B rs.length cb], .int .i64 s, .int .i64 t] w fun e w' => e = .returned (.int .i64 (qryZ zs rs s t)) ∧ Below w.heap.size w w' := by
  have HUP : Hid (∀ w1, Below w.heap.size w w1 → Calls Try.prog 37 #[.agg #[.slice A zs.length ca, .slice B rs.length cb], .int .i64 s] w1 (NilMade w1 (clZ zs rs true s))) := Lib.hid (fun w1 k => implUpsZ A B ca cb zs rs s w1 hn hm (ha.below k) (hb.below k))
  have HDN : Hid (∀ w1, Below w.heap.size w w1 → Calls Try.prog 38 #[.agg #[.slice A zs.length ca, .slice B rs.length cb], .int .i64 t] w1 (NilMade w1 (clZ zs rs false t))) := Lib.hid (fun w1 k => implDownsZ A B ca cb zs rs t w1 hn hm (ha.below k) (hb.below k))
  have HT := Lib.hid (two_cl zs rs s t)
  have HQ : Hid (qryZ zs rs s t = if clZ zs rs true s = [] ∨ clZ zs rs false t = [] then -1 else qryL (clZ zs rs true s) (clZ zs rs false t) zs.length) := Lib.hid rfl
  have X := Pair.new w 30 (.slice A zs.length ca) (.slice B rs.length cb)
  have K := below1 w (.cells #[.slice A zs.length ca, .slice B rs.length cb] 30)
  obtain ⟨x0, x1, -, -⟩ := X.cells
  clear ha hb X
  generalize qryZ zs rs s t = q at HQ ⊢
  generalize clZ zs rs true s = U at HUP HT HQ
  generalize clZ zs rs false t = D at HDN HT HQ
  obtain ⟨W, hW⟩ : ∃ W, W = w.alloc (.cells #[.slice A zs.length ca, .slice B rs.length cb] 30) := ⟨_, rfl⟩
  rw [← hW] at x0 x1 K
  have HW := Lib.hid hW
  have T : HiS w w.heap.size (.slice A zs.length ca) (.slice B rs.length cb) W := ⟨x0, x1, K⟩
  clear hW x0 x1 K
  go_enter Try.func11, Try.ntmps11
  go_wp2_with fail
  rw [← HW.out]
  go_region_held3 (fun w' => HiS w w.heap.size (.slice A zs.length ca) (.slice B rs.length cb) w')
    (first | exact HiS.drew T | assumption | (refine HiS.under (by assumption) ?_; assumption))
    (first
      | (go_at_call 37; refine (HUP.out _ (HiS.bel (by assumption))).mono ?_; rintro e w3 ⟨n1, A1, c1, rfl, hc1, O1, b1⟩)
      | (go_at_call 38; refine (HDN.out _ (HiS.bel (by assumption))).mono ?_; rintro e w4 ⟨n2, A2, c2, rfl, hc2, O2, b2⟩))
  rename_i hU
  obtain ⟨-, -, K⟩ := hU
  replace O1 := O1.below b2
  clear b1 b2 T HW HUP HDN
  have q22 : ∀ (w : World) (a : Option Addr) (n c n' c' : Nat), (binOp .eql 22 (.slice a n c) (.slice none n' c')).run Try.prog w = .ok (.bool a.isNone) w := fun w a n c n' c' => Lib.run_eql_slice_nil w _ _ a n c n' c' Try.underlying22
  by_cases hUn : U = []
  · have hq := Lib.hid (HQ.out.trans (if_pos (.inl hUn)))
    have e1 := n1 hUn
    subst hUn
    injection e1 with e1
    injection e1 with e11 e12 e13
    subst e11
    subst e13
    clear HQ HT n1 n2 O1 O2 hc1
    go_wp2
    go_ret
    exact ⟨retI hq.out.symm, K⟩
  have hUp : 0 < U.length := by cases U with
    | nil => exact absurd rfl hUn
    | cons x y => simp
  obtain ⟨g1, o1, rfl, hg1, D1⟩ := O1 (by omega)
  clear n1
  by_cases hDn : D = []
  · have hq := Lib.hid (HQ.out.trans (if_pos (.inr hDn)))
    have e1 := n2 hDn
    subst hDn
    injection e1 with e1
    injection e1 with e11 e12 e13
    subst e11
    subst e13
    clear HQ HT n2 O2 hc2
    go_wp2
    go_ret
    exact ⟨retI hq.out.symm, K⟩
  have hq := Lib.hid (HQ.out.trans (if_neg (fun e => e.elim hUn hDn)))
  obtain ⟨hl1, hl2, hlp, hbd⟩ : U.length = zs.length ∧ D.length = zs.length ∧ 0 < zs.length ∧ ∀ v, v < zs.length → (-1 ≤ zg U v ∧ zg U v ≤ (zs.length : Int) * 1000000) ∧ -1 ≤ zg D v ∧ zg D v ≤ (zs.length : Int) * 1000000 := by
    rcases HT.out with h | h
    · exact (h.elim hUn hDn).elim
    · exact h
  obtain ⟨g2, o2, rfl, hg2, D2⟩ := O2 (by omega)
  have HBD := Lib.hid hbd
  rw [hl1] at hc1 D1 ⊢
  rw [hl2] at hc2 D2 ⊢
  clear HT HQ n2 O1 O2 hUn hDn hUp hl1 hl2 hbd hg1 hg2
  go_wp2
  go_loopw [9, 27] (fun li vi wr => ∃ k : Nat, k ≤ zs.length ∧ li = .int .i64 (qryL U D k) ∧ vi = .int .i64 k ∧ wr = w4) (fun _ i _ => zs.length - (intOf i).toNat)
  case atStart => exact ⟨0, by omega, rfl, rfl, rfl⟩
  case round =>
    obtain ⟨k, hk, rfl, rfl, rfl⟩ := hrel
    by_cases hlt : k < zs.length
    · have hki : (k : Int) < zs.length := by omega
      have c1 := D1.cell hlt
      have c2 := D2.cell hlt
      have hbk := HBD.out k hlt
      have HON := Lib.hid (fun h1 h2 h3 => qryL_on (u := U) (d := D) (v := k) h1 h2 h3)
      have HOFF := Lib.hid (fun h => qryL_off (u := U) (d := D) (v := k) h)
      generalize hL : qryL U D k = L0 at *
      generalize zg U k = x at c1 hbk HON HOFF
      generalize zg D k = y at c2 hbk HON HOFF
      by_cases hx : x = -1
      · have HN := Lib.hid (HOFF.out (.inl hx))
        have hx1 : (x != -1) = false := by simpa using hx
        clear hx HON HOFF
        go_wp2
        go_roundw
        case rel => exact ⟨k + 1, by omega, congrArg (Value.int .i64) HN.out.symm, by go_num, by first | rfl | trivial⟩
        case measure => simp [intOf]; omega
      · by_cases hy : y = -1
        · have HN := Lib.hid (HOFF.out (.inr (.inl hy)))
          have hx1 : (x != -1) = true := by simpa using hx
          have hy1 : (y != -1) = false := by simpa using hy
          clear hy HON HOFF
          go_wp2
          go_roundw
          case rel => exact ⟨k + 1, by omega, congrArg (Value.int .i64) HN.out.symm, by go_num, by first | rfl | trivial⟩
          case measure => simp [intOf]; omega
        · have hx1 : (x != -1) = true := by simpa using hx
          have hy1 : (y != -1) = true := by simpa using hy
          have hwr : IntKind.i64.wrap (x + y) = x + y := by rw [IntWalk.i64_left]; unfold wrap64; omega
          cases hnr : nrB (x + y) L0 with
          | false =>
            have HN := Lib.hid (HOFF.out (.inr (.inr hnr)))
            have HNS := Lib.hid (fun w => nearer_still (x + y) L0 w hnr)
            clear HON HOFF hnr
            go_wp2_with fail
            refine (HNS.out _).mono ?_; rintro e w' ⟨rfl, rfl⟩
            go_wp2
            go_roundw
            case rel => exact ⟨k + 1, by omega, congrArg (Value.int .i64) HN.out.symm, by go_num, by first | rfl | trivial⟩
            case measure => simp [intOf]; omega
          | true =>
            have HN := Lib.hid (HON.out hx hy hnr)
            have HNS := Lib.hid (fun w => nearer_still (x + y) L0 w hnr)
            clear HON HOFF hnr
            go_wp2_with fail
            refine (HNS.out _).mono ?_; rintro e w' ⟨rfl, rfl⟩
            go_wp2
            go_roundw
            case rel => exact ⟨k + 1, by omega, congrArg (Value.int .i64) HN.out.symm, by go_num, by first | rfl | trivial⟩
            case measure => simp [intOf]; omega
    · obtain rfl : k = zs.length := by omega
      go_wp2
      go_ret
      exact ⟨retI hq.out.symm, K⟩

set_option maxRecDepth 1000000 in
set_option maxHeartbeats 8000000 in
theorem specQuery_any (A B : Option Addr) (ca cb : Nat) (zs : List Int) (rs : List A4) (s t : Int) (w : World) (hn : zs.length ≤ 1048576) (hm : rs.length ≤ 1048576) (ha : IsInts w A zs) (hb : IsHs w B rs) :
    Calls Try.prog 9 #[.agg #[.slice A zs.length ca, .slice B rs.length cb], .int .i64 s, .int .i64 t] w fun e w' => e = .returned (.int .i64 (qryZ zs rs s t)) ∧ Below w.heap.size w w' := by
  have HUP : Hid (∀ w1, Below w.heap.size w w1 → Calls Try.prog 34 #[.agg #[.slice A zs.length ca, .slice B rs.length cb], .int .i64 s] w1 (IntsMade w1 (clZ zs rs true s))) := Lib.hid (fun w1 k => specUpsZ A B ca cb zs rs s w1 hn hm (ha.below k) (hb.below k))
  have HDN : Hid (∀ w1, Below w.heap.size w w1 → Calls Try.prog 35 #[.agg #[.slice A zs.length ca, .slice B rs.length cb], .int .i64 t] w1 (IntsMade w1 (clZ zs rs false t))) := Lib.hid (fun w1 k => specDownsZ A B ca cb zs rs t w1 hn hm (ha.below k) (hb.below k))
  have HT := Lib.hid (two_cl zs rs s t)
  have HQ : Hid (qryZ zs rs s t = if clZ zs rs true s = [] ∨ clZ zs rs false t = [] then -1 else qryL (clZ zs rs true s) (clZ zs rs false t) zs.length) := Lib.hid rfl
  have X := Pair.new w 30 (.slice A zs.length ca) (.slice B rs.length cb)
  have K := below1 w (.cells #[.slice A zs.length ca, .slice B rs.length cb] 30)
  obtain ⟨x0, x1, -, -⟩ := X.cells
  clear ha hb X
  generalize qryZ zs rs s t = q at HQ ⊢
  generalize clZ zs rs true s = U at HUP HT HQ
  generalize clZ zs rs false t = D at HDN HT HQ
  obtain ⟨W, hW⟩ : ∃ W, W = w.alloc (.cells #[.slice A zs.length ca, .slice B rs.length cb] 30) := ⟨_, rfl⟩
  rw [← hW] at x0 x1 K
  have HW := Lib.hid hW
  have T : HiS w w.heap.size (.slice A zs.length ca) (.slice B rs.length cb) W := ⟨x0, x1, K⟩
  clear hW x0 x1 K
  go_enter Try.func9, Try.ntmps9
  go_wp2_with fail
  rw [← HW.out]
  go_region_held3 (fun w' => HiS w w.heap.size (.slice A zs.length ca) (.slice B rs.length cb) w')
    (first | exact HiS.drew T | assumption | (refine HiS.under (by assumption) ?_; assumption))
    (first
      | (go_at_call 34; refine (HUP.out _ (HiS.bel (by assumption))).mono ?_; rintro e w3 ⟨A1, c1, rfl, hc1, O1, b1⟩)
      | (go_at_call 35; refine (HDN.out _ (HiS.bel (by assumption))).mono ?_; rintro e w4 ⟨A2, c2, rfl, hc2, O2, b2⟩))
  rename_i hU
  obtain ⟨-, -, K⟩ := hU
  replace O1 := O1.below b2
  clear b1 b2 T HW HUP HDN
  by_cases hUn : U = []
  · have hq := Lib.hid (HQ.out.trans (if_pos (.inl hUn)))
    subst hUn
    clear HQ HT
    go_wp2
    refine wp_loop_rounds 1 ?_; rw [rounds_succ]
    go_wp2
    go_ret
    exact ⟨retI hq.out.symm, K⟩
  have hUp : 0 < U.length := by cases U with
    | nil => exact absurd rfl hUn
    | cons x y => simp
  have hUi : (0 : Int) < U.length := by omega
  by_cases hDn : D = []
  · have hq := Lib.hid (HQ.out.trans (if_pos (.inr hDn)))
    have hne : ((U.length : Int) == 0) = false := by simpa using (by omega : ¬ (U.length : Int) = 0)
    subst hDn
    clear HQ HT hUn
    go_wp2
    refine wp_loop_rounds 1 ?_; rw [rounds_succ]
    go_wp2
    go_ret
    exact ⟨retI hq.out.symm, K⟩
  have hq := Lib.hid (HQ.out.trans (if_neg (fun e => e.elim hUn hDn)))
  obtain ⟨hl1, hl2, hlp, hbd⟩ : U.length = zs.length ∧ D.length = zs.length ∧ 0 < zs.length ∧ ∀ v, v < zs.length → (-1 ≤ zg U v ∧ zg U v ≤ (zs.length : Int) * 1000000) ∧ -1 ≤ zg D v ∧ zg D v ≤ (zs.length : Int) * 1000000 := by
    rcases HT.out with h | h
    · exact (h.elim hUn hDn).elim
    · exact h
  obtain ⟨g1, o1, rfl, hg1, D1⟩ := O1 (by omega)
  obtain ⟨g2, o2, rfl, hg2, D2⟩ := O2 (by omega)
  have HBD := Lib.hid hbd
  rw [hl1] at hc1 D1 ⊢
  rw [hl2] at hc2 D2 ⊢
  clear HT HQ O1 O2 hUn hDn hUp hUi hl1 hl2 hbd hg1 hg2
  go_wp2
  go_loopw [9, 10] (fun li vi wr => ∃ k m : Nat, k ≤ zs.length ∧ li = .int .i64 (qryL U D k) ∧ vi = .int .i64 k ∧ wr = w4.drewN m) (fun _ i _ => zs.length - (intOf i).toNat)
  case atStart => exact ⟨0, 0, by omega, rfl, rfl, rfl⟩
  case round =>
    obtain ⟨k, m, hk, rfl, rfl, rfl⟩ := hrel
    by_cases hlt : k < zs.length
    · have hki : (k : Int) < zs.length := by omega
      have c1 := D1.cell hlt
      have c2 := D2.cell hlt
      have hbk := HBD.out k hlt
      have HON := Lib.hid (fun h1 h2 h3 => qryL_on (u := U) (d := D) (v := k) h1 h2 h3)
      have HOFF := Lib.hid (fun h => qryL_off (u := U) (d := D) (v := k) h)
      generalize hL : qryL U D k = L0 at *
      generalize zg U k = x at c1 hbk HON HOFF
      generalize zg D k = y at c2 hbk HON HOFF
      by_cases hx : x = -1
      · have HN := Lib.hid (HOFF.out (.inl hx))
        have hx1 : (x != -1) = false := by simpa using hx
        clear hx HON HOFF
        go_wp2_with fail
        go_quiet (fail)
        go_wp2
        go_roundw
        case rel => exact ⟨k + 1, _, by omega, congrArg (Value.int .i64) HN.out.symm, by go_num, by first | rfl | exact World.drewN_add _ _ _ | simp⟩
        case measure => simp [intOf]; omega
      · by_cases hy : y = -1
        · have HN := Lib.hid (HOFF.out (.inr (.inl hy)))
          have hx1 : (x != -1) = true := by simpa using hx
          have hy1 : (y != -1) = false := by simpa using hy
          clear hy HON HOFF
          go_wp2_with fail
          go_quiet (fail)
          go_wp2
          go_roundw
          case rel => exact ⟨k + 1, _, by omega, congrArg (Value.int .i64) HN.out.symm, by go_num, by first | rfl | exact World.drewN_add _ _ _ | simp⟩
          case measure => simp [intOf]; omega
        · have hx1 : (x != -1) = true := by simpa using hx
          have hy1 : (y != -1) = true := by simpa using hy
          have hwr : IntKind.i64.wrap (x + y) = x + y := by rw [IntWalk.i64_left]; unfold wrap64; omega
          by_cases hl0 : L0 = -1
          · have HN := Lib.hid (HON.out hx hy ((nrB_iff _ _).2 (.inl hl0)))
            have hl1 : (L0 == -1) = true := by simpa using hl0
            clear HON HOFF
            go_wp2_with fail
            go_quiet (fail)
            go_wp2_with fail
            go_quiet (fail)
            go_wp2
            go_roundw
            case rel => exact ⟨k + 1, _, by omega, congrArg (Value.int .i64) HN.out.symm, by go_num, by first | rfl | exact World.drewN_add _ _ _ | simp⟩
            case measure => simp [intOf]; omega
          · have hl1 : (L0 == -1) = false := by simpa using hl0
            by_cases hle : x + y < L0
            · have HN := Lib.hid (HON.out hx hy ((nrB_iff _ _).2 (.inr hle)))
              have hled : decide (x + y < L0) = true := decide_eq_true hle
              clear HON HOFF hl0
              go_wp2_with fail
              go_quiet (fail)
              go_wp2_with fail
              go_quiet (fail)
              go_wp2
              go_roundw
              case rel => exact ⟨k + 1, _, by omega, congrArg (Value.int .i64) HN.out.symm, by go_num, by first | rfl | exact World.drewN_add _ _ _ | simp⟩
              case measure => simp [intOf]; omega
            · have HN := Lib.hid (HOFF.out (.inr (.inr (by cases h : nrB (x + y) L0 with
                | false => rfl
                | true => rcases (nrB_iff _ _).1 h with h | h
                          · exact absurd h hl0
                          · exact absurd h hle))))
              have hled : decide (x + y < L0) = false := decide_eq_false hle
              clear HON HOFF hl0
              go_wp2_with fail
              go_quiet (fail)
              go_wp2
              go_roundw
              case rel => exact ⟨k + 1, _, by omega, congrArg (Value.int .i64) HN.out.symm, by go_num, by first | rfl | exact World.drewN_add _ _ _ | simp⟩
              case measure => simp [intOf]; omega
    · obtain rfl : k = zs.length := by omega
      go_wp2
      go_ret
      exact ⟨retI hq.out.symm, below_drewN K _⟩

end Go.Proofs.Ytagaildnfbegkab
