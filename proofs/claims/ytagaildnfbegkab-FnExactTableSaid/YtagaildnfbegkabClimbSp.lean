/-
  What spec.l09Climb computes.
-/
import Derived.Test.YtagaildnfbegkabClimbM
import Derived.Test.YtagaildnfbegkabDistTop
namespace Go.Proofs.Ytagaildnfbegkab
open Go.RowKit Go.Deep Go.Maps

/-- The answer of a climb: where all is right, the smallest lengths; else nothing. -/
def ClR (zs : List Int) (rs : List A4) (up : Bool) (s : Int) (d : List Int) : Prop :=
  (∃ S : Nat, s = S ∧ S < zs.length ∧ hok zs.length rs ∧ Cl zs rs up S d) ∨ ((btB s 0 ((zs.length : Int) - 1) = false ∨ ¬ hok zs.length rs) ∧ d = [])
theorem ClR.one {zs : List Int} {rs : List A4} {up : Bool} {s : Int} {d e : List Int} (h : ClR zs rs up s d) (k : ClR zs rs up s e) : d = e := by
  rcases h with ⟨S, rfl, h1, h2, h3⟩ | ⟨h1, rfl⟩
  · rcases k with ⟨S', e', k1, k2, k3⟩ | ⟨k1, rfl⟩
    · obtain rfl : S = S' := by omega
      exact h3.one k3
    · rcases k1 with k1 | k1
      · rw [btB_true (by omega) (by omega)] at k1; cases k1
      · exact absurd h2 k1
  · rcases k with ⟨S', rfl, k1, k2, k3⟩ | ⟨k1, rfl⟩
    · rcases h1 with h1 | h1
      · rw [btB_true (by omega) (by omega)] at h1; cases h1
      · exact absurd k2 h1
    · rfl
theorem ClR.len {zs : List Int} {rs : List A4} {up : Bool} {s : Int} {d : List Int} (h : ClR zs rs up s d) : d.length ≤ zs.length := by
  rcases h with ⟨S, rfl, h1, h2, h3⟩ | ⟨h1, rfl⟩
  · rw [h3.len]; exact Nat.le_refl _
  · simp
/-- The four cells of a block. -/
def QuadH (w : World) (b : Nat) (t : TypeId) (x y z v : Value) : Prop := w.heap[b]? = some (.cells #[x, y, z, v] t (0, 0))
theorem QuadH.cells {w : World} {b : Nat} {t : TypeId} {x y z v : Value} (h : QuadH w b t x y z v) : w.cell? ⟨b, 0, none⟩ = some x ∧ w.cell? ⟨b, 1, none⟩ = some y ∧ w.cell? ⟨b, 2, none⟩ = some z ∧ w.cell? ⟨b, 3, none⟩ = some v :=
  ⟨by rw [cell_of_block h]; rfl, by rw [cell_of_block h]; rfl, by rw [cell_of_block h]; rfl, by rw [cell_of_block h]; rfl⟩
def okA (n : Nat) (a : A4) : Prop := (0 ≤ a.1 ∧ a.1 < (n : Int)) ∧ (0 ≤ a.2.1 ∧ a.2.1 < (n : Int)) ∧ 1 ≤ a.2.2.1 ∧ a.2.2.1 ≤ 1000000

set_option maxRecDepth 100000 in
set_option maxHeartbeats 8000000 in
theorem l09Climb_any (A B : Option Addr) (ca cb : Nat) (zs : List Int) (rs : List A4) (s : Int) (up : Bool) (w : World) (hn : zs.length ≤ 1048576) (hm : rs.length ≤ 1048576) (ha : IsInts w A zs) (hb : IsHs w B rs) :
    Calls Try.prog 58 #[.agg #[.slice A zs.length ca, .slice B rs.length cb], .int .i64 s, .bool up] w fun e w' => ∃ d, ClR zs rs up s d ∧ IntsMade w d e w' := by
  have X0 := Pair.new w 30 (.slice A zs.length ca) (.slice B rs.length cb)
  have K0 := below1 w (.cells #[.slice A zs.length ca, .slice B rs.length cb] 30)
  obtain ⟨W, hW⟩ : ∃ W, W = w.alloc (.cells #[.slice A zs.length ca, .slice B rs.length cb] 30) := ⟨_, rfl⟩
  rw [← hW] at X0 K0
  have hWs : W.heap.size = w.heap.size + 1 := by rw [hW]; simp
  have HW := Lib.hid hW
  clear hW
  obtain ⟨x0, x1, -, -⟩ := X0.cells
  cases hs : btB s 0 ((zs.length : Int) - 1) with
  | false =>
    have HR : Hid (ClR zs rs up s []) := Lib.hid (.inr ⟨.inl hs, rfl⟩)
    go_enter Try.func58, Try.ntmps58
    go_wp2_with fail
    rw [← HW.out]
    clear x0 x1
    refine (between_any _ _ _ _).mono ?_; rw [hs]; rintro e w5 ⟨rfl, rfl⟩
    go_wp2
    go_ret
    exact ⟨[], HR.out, intsMade_nil rfl _ _ (K0.trans ((below1 _ _).mono K0.size))⟩
  | true =>
    obtain ⟨S, rfl, hS⟩ := node_is hs
    have hSi : (S : Int) < zs.length := by omega
    have hmk := run_make_row' (P := Try.prog) 22 3 (.int .i64 0) 8 Try.underlying22 Try.infoInt rfl .i64 .i64 zs.length (by omega) (by omega)
    have I0 := IRow.made W zs.length
    have k1 := below1 W (.cells (madeCells #[.int .i64 0] zs.length) 3)
    have X := X0.below k1
    have K := K0.trans (k1.mono K0.size)
    rw [hWs] at I0
    obtain ⟨V, hV⟩ : ∃ V, V = W.alloc (.cells (madeCells #[.int .i64 0] zs.length) 3) := ⟨_, rfl⟩
    rw [← hV] at I0 X K
    have HV := Lib.hid hV
    have HWS := Lib.hid hWs
    clear hV hWs k1 K0
    go_enter Try.func58, Try.ntmps58
    go_wp2_with fail
    rw [← HW.out]
    clear x0 x1
    refine (between_any _ _ _ _).mono ?_; rw [hs]; rintro e w5 ⟨rfl, rfl⟩
    obtain ⟨x0, x1, -, -⟩ := X0.cells
    go_wp2
    rw [← HV.out]
    simp only [HWS.out]
    clear hmk x0 x1 X0 HV HW
    go_loopw [9] (fun vi wr => ∃ k : Nat, k ≤ zs.length ∧ vi = .int .i64 k ∧ IRow wr (w.heap.size + 1) zs.length (fun j => if j < k then -1 else 0) ∧ Pair wr w.heap.size 30 (.slice A zs.length ca) (.slice B rs.length cb) ∧ Below w.heap.size w wr) (fun i _ => zs.length - (intOf i).toNat)
    case atStart => exact ⟨0, by omega, rfl, I0.congr (fun j _ => by rw [if_neg (by omega)]), X, K⟩
    case round =>
      clear I0 K X
      obtain ⟨k, hk, rfl, I, X, K⟩ := hrel
      by_cases hlt : k < zs.length
      · have c0 := I.cell hlt
        have f0 := I.frozen k
        have hki : (k : Int) < zs.length := by omega
        go_wp2
        go_roundw
        case rel => exact ⟨k + 1, by omega, by go_num, I.fill, X.far (by omega) _ _, K.setCell (by simp) _⟩
        case measure => simp [intOf]; omega
      obtain rfl : k = zs.length := by omega
      replace I : IRow wr (w.heap.size + 1) zs.length (fun _ => -1) := I.congr (fun j hj => by rw [if_pos hj])
      have c0 := I.cell hS
      have f0 := I.frozen S
      have I1 : IRow (wr.setCell ⟨w.heap.size + 1, S, none⟩ (.int .i64 0)) (w.heap.size + 1) zs.length (zg (dC zs.length S)) := I.first hS
      have X1 := X.far (c := w.heap.size + 1) (by omega) S (.int .i64 0)
      have K1 : Below w.heap.size w (wr.setCell ⟨w.heap.size + 1, S, none⟩ (.int .i64 0)) := K.setCell (by simp) _
      clear I X K
      go_wp2
      clear c0 f0
      go_loopw [10] (fun vi wv => ∃ q : Nat, q ≤ rs.length ∧ vi = .int .i64 q ∧ Hid (∀ i, i < q → okA zs.length (hcg rs i)) ∧ IRow wv (w.heap.size + 1) zs.length (zg (dC zs.length S)) ∧ Pair wv w.heap.size 30 (.slice A zs.length ca) (.slice B rs.length cb) ∧ Below w.heap.size w wv) (fun i _ => rs.length - (intOf i).toNat)
      case atStart => exact ⟨0, by omega, rfl, Lib.hid (fun i hi => by omega), I1, X1, K1⟩
      case round =>
        clear I1 X1 K1
        obtain ⟨q, hq, rfl, HJ, I, X, K⟩ := hrel
        obtain ⟨x0, x1, -, -⟩ := X.cells
        by_cases hlt : q < rs.length
        · obtain ⟨b, off, rfl, -, c0, c1, c2, c3⟩ := (hb.below K).at_ hlt
          have hqi : (q : Int) < rs.length := by omega
          have HJ2 : Hid (okA zs.length (hcg rs q) → ∀ i, i < q + 1 → okA zs.length (hcg rs i)) := Lib.hid (fun h i hi => by
            rcases Nat.lt_or_ge i q with r | r
            · exact HJ.out i r
            · obtain rfl : i = q := by omega
              exact h)
          have HNO : Hid (¬ okA zs.length (hcg rs q) → ClR zs rs up (S : Int) []) := Lib.hid (fun h => .inr ⟨.inr (fun o => h (o q hlt)), rfl⟩)
          generalize hcg rs q = a at c0 c1 c2 c3 HJ2 HNO
          obtain ⟨f, t, l, v⟩ := a
          simp only at c0 c1 c2 c3
          have kv := below1 wr (.cells #[.int .i64 f, .int .i64 t, .int .i64 l, .int .i64 v] 57)
          have Y : QuadH (wr.alloc (.cells #[.int .i64 f, .int .i64 t, .int .i64 l, .int .i64 v] 57)) wr.heap.size 57 (.int .i64 f) (.int .i64 t) (.int .i64 l) (.int .i64 v) := heap_alloc_new _ _
          obtain ⟨V, hV⟩ : ∃ V, V = wr.alloc (.cells #[.int .i64 f, .int .i64 t, .int .i64 l, .int .i64 v] 57) := ⟨_, rfl⟩
          rw [← hV] at kv Y
          have HV := Lib.hid hV
          have I2 := I.below kv
          have X2 := X.below kv
          have K2 := K.trans (kv.mono K.size)
          obtain ⟨y0, y1, y2, -⟩ := Y.cells
          clear hV I X K kv HJ
          go_wp2_with fail
          rw [← HV.out]
          clear HV c0 c1 c2 c3 x0 x1
          refine (between_any f _ _ _).mono ?_; rintro e w6 ⟨rfl, rfl⟩
          cases hf : btB f 0 ((zs.length : Int) - 1) with
          | false =>
            have HB := Lib.hid (HNO.out (fun o => by have := o.1; rw [btB_true this.1 (by omega)] at hf; cases hf))
            go_wp2
            go_ret
            exact ⟨[], HB.out, intsMade_nil rfl _ _ (K2.trans ((below1 _ _).mono K2.size))⟩
          | true =>
            go_wp2_with fail
            refine (between_any t _ _ _).mono ?_; rintro e w7 ⟨rfl, rfl⟩
            cases ht : btB t 0 ((zs.length : Int) - 1) with
            | false =>
              have HB := Lib.hid (HNO.out (fun o => by have := o.2.1; rw [btB_true this.1 (by omega)] at ht; cases ht))
              go_wp2
              go_ret
              exact ⟨[], HB.out, intsMade_nil rfl _ _ (K2.trans ((below1 _ _).mono K2.size))⟩
            | true =>
              go_wp2_with fail
              refine (between_any l _ _ _).mono ?_; rintro e w8 ⟨rfl, rfl⟩
              cases hl : btB l 1 1000000 with
              | false =>
                have HB := Lib.hid (HNO.out (fun o => by have := o.2.2; rw [btB_true this.1 this.2] at hl; cases hl))
                go_wp2
                go_ret
                exact ⟨[], HB.out, intsMade_nil rfl _ _ (K2.trans ((below1 _ _).mono K2.size))⟩
              | true =>
                have HO : Hid (okA zs.length (f, t, l, v)) := Lib.hid (by have q1 := btB_iff.1 hf; have q2 := btB_iff.1 ht; have q3 := btB_iff.1 hl; exact ⟨⟨q1.1, by show f < _; omega⟩, ⟨q2.1, by show t < _; omega⟩, q3⟩)
                go_wp2
                go_roundw
                case rel => exact ⟨q + 1, by omega, by go_num, Lib.hid (HJ2.out HO.out), I2, X2, K2⟩
                case measure => simp [intOf]; omega
        obtain rfl : q = rs.length := by omega
        have hk : hok zs.length rs := HJ.out
        have HK := Lib.hid hk
        have HCI := Lib.hid (Ci.begin (zs := zs) (rs := rs) (up := up) hS)
        clear hk HJ hlt hq
        go_wp2
        clear x0 x1
        go_loopg [] (mesB (zs.length * 1000000 + 1) (dC zs.length S)) (fun g wx => ∃ d, mesB (zs.length * 1000000 + 1) d ≤ g ∧ Hid (Ci zs rs up S d) ∧ IRow wx (w.heap.size + 1) zs.length (zg d) ∧ Pair wx w.heap.size 30 (.slice A zs.length ca) (.slice B rs.length cb) ∧ Below w.heap.size w wx)
        case atStart => exact ⟨_, Nat.le_refl _, HCI, I, X, K⟩
        case round =>
          clear I X K HCI
          obtain ⟨d, hd, HD, I, X, K⟩ := hrel
          go_wp2
          go_loopw [12, 13] (fun vb vi wy => ∃ (q : Nat) (e : List Int) (bb : Bool), q ≤ rs.length ∧ vi = .int .i64 q ∧ vb = .bool bb ∧ Hid (Ci zs rs up S e) ∧ Hid ((bb = true ∧ e = d ∧ ∀ i, i < q → ¬ rlxA zs rs up d i) ∨ (bb = false ∧ mesB (zs.length * 1000000 + 1) e < mesB (zs.length * 1000000 + 1) d)) ∧ IRow wy (w.heap.size + 1) zs.length (zg e) ∧ Pair wy w.heap.size 30 (.slice A zs.length ca) (.slice B rs.length cb) ∧ Below w.heap.size w wy) (fun _ i _ => rs.length - (intOf i).toNat)
          case atStart => exact ⟨0, d, true, by omega, rfl, rfl, HD, Lib.hid (.inl ⟨rfl, rfl, fun i hi => by omega⟩), I, X, K⟩
          case round =>
            clear I X K
            obtain ⟨q, e, bb, hq, rfl, rfl, HE, HF, I, X, K⟩ := hrel
            obtain ⟨x0, x1, -, -⟩ := X.cells
            by_cases hlt : q < rs.length
            · obtain ⟨b, off, rfl, -, c0, c1, c2, c3⟩ := (hb.below K).at_ hlt
              have hqi : (q : Int) < rs.length := by omega
              obtain ⟨e1, hF, e2, hT, l0, l1⟩ := hok_at HK.out up hlt
              have HPUT := Lib.hid (fun r => HE.out.put HK.out hlt r)
              have hx := HE.out.room hn hF
              have hy := HE.out.room hn hT
              have HYES : Hid (rlxA zs rs up e q → mesB (zs.length * 1000000 + 1) (e.set (hg rs up q) (zg e (lw rs up q) + lnZ rs q)) < mesB (zs.length * 1000000 + 1) d) := Lib.hid (fun r => by
                have m := (HPUT.out r).2
                rcases HF.out with ⟨-, h2, -⟩ | ⟨-, h2⟩
                · rw [h2] at m ⊢; exact m
                · omega)
              have HNOT : Hid (¬ rlxA zs rs up e q → ((bb = true ∧ e = d ∧ ∀ i, i < q + 1 → ¬ rlxA zs rs up d i) ∨ (bb = false ∧ mesB (zs.length * 1000000 + 1) e < mesB (zs.length * 1000000 + 1) d))) := Lib.hid (fun r => by
                rcases HF.out with ⟨h1, h2, h3⟩ | h2
                · refine .inl ⟨h1, h2, fun i hi => ?_⟩
                  rcases Nat.lt_or_ge i q with u | u
                  · exact h3 i u
                  · obtain rfl : i = q := by omega
                    rw [← h2]; exact r
                · exact .inr h2)
              have HRL : Hid (rlxA zs rs up e q ↔ (zg zs (lw rs up q) < zg zs (hg rs up q) ∧ zg e (lw rs up q) ≠ -1 ∧ (zg e (hg rs up q) = -1 ∨ zg e (lw rs up q) + lnZ rs q < zg e (hg rs up q)))) := Lib.hid Iff.rfl
              obtain ⟨rb, ro, rfl, -, r0⟩ := (ha.below K).at_ hF
              obtain ⟨rb', ro', er, -, r1⟩ := (ha.below K).at_ hT
              cases er
              have hlen : e.length = zs.length := HE.out.len
              have HLEN := Lib.hid hlen
              have cl : (hcg rs q).2.2.1 = lnZ rs q := rfl
              rw [cl] at c2
              have cf : (up = true → (hcg rs q).1 = lwZ rs up q ∧ (hcg rs q).2.1 = hgZ rs up q) ∧ (up = false → (hcg rs q).2.1 = lwZ rs up q ∧ (hcg rs q).1 = hgZ rs up q) := ⟨fun h => by subst h; exact ⟨rfl, rfl⟩, fun h => by subst h; exact ⟨rfl, rfl⟩⟩
              rw [e1, e2] at cf
              generalize lw rs up q = F at *
              generalize hg rs up q = T at *
              generalize lnZ rs q = l at *
              generalize (hcg rs q).1 = f at *
              generalize (hcg rs q).2.1 = t at *
              have hFi : (F : Int) < zs.length := by omega
              have hTi : (T : Int) < zs.length := by omega
              have dF := I.cell hF
              have dT := I.cell hT
              have fT := I.frozen T
              have HE2 := HE
              clear cl e1 e2 HE HF hlen c3
              go_wp2_with fail
              go_quiet (fail)
              obtain ⟨wq, hwq⟩ : ∃ wq, wq = wr.drewN nq := ⟨_, rfl⟩
              have I' : IRow wq (w.heap.size + 1) zs.length (zg e) := by rw [hwq]; exact I.drewN nq
              have X' : Pair wq w.heap.size 30 (.slice (some ⟨rb, ro, none⟩) zs.length ca) (.slice (some ⟨b, off, none⟩) rs.length cb) := by rw [hwq]; exact X.drewM nq
              have K' : Below w.heap.size w wq := by rw [hwq]; exact below_drewN K nq
              have c2' : wq.cell? ⟨b, off + q * 4 + 2, none⟩ = some (.int .i64 l) := by rw [hwq]; exact c2
              have r0' : wq.cell? ⟨rb, ro + F, none⟩ = some (.int .i64 (zg zs F)) := by rw [hwq]; exact r0
              have r1' : wq.cell? ⟨rb, ro + T, none⟩ = some (.int .i64 (zg zs T)) := by rw [hwq]; exact r1
              rw [← hwq]
              clear hwq I X K c0 c1 c2 r0 r1 x0 x1 dF dT fT
              have dF := I'.cell hF
              have dT := I'.cell hT
              have fT := I'.frozen T
              obtain ⟨x0, x1, -, -⟩ := X'.cells
              cases up with
              | true =>
                obtain ⟨ef, et⟩ := cf.1 rfl
                clear cf
                subst ef
                subst et
                by_cases h0 : zg zs F < zg zs T
                rotate_left
                · have HN := Lib.hid (HNOT.out (fun r => h0 (HRL.out.1 r).1))
                  have h0' : ¬ zg zs T > zg zs F := by omega
                  have h0d : decide (zg zs F < zg zs T) = false := decide_eq_false h0
                  generalize zg zs F = x at r0' h0 h0' h0d
                  generalize zg zs T = y at r1' h0 h0' h0d
                  clear HRL h0
                  go_wp2_with fail
                  go_quiet (fail)
                  go_wp2
                  go_roundw
                  case rel => exact ⟨q + 1, e, bb, by omega, by go_num, rfl, HE2, Lib.hid HN.out, I'.drewN nq, X'.drewM nq, below_drewN K' nq⟩
                  case measure => simp [intOf]; omega
                have h0' : zg zs T > zg zs F := h0
                have h0d : decide (zg zs F < zg zs T) = true := decide_eq_true h0
                have HR0 := Lib.hid h0
                generalize zg zs F = x at r0' h0 h0' h0d HR0 HRL
                generalize zg zs T = y at r1' h0 h0' h0d HR0 HRL
                by_cases h1 : zg e F = -1
                · have HN := Lib.hid (HNOT.out (fun r => (HRL.out.1 r).2.1 h1))
                  rw [h1] at dF
                  clear HRL
                  go_wp2_with fail
                  go_quiet (fail)
                  go_wp2
                  go_roundw
                  case rel => exact ⟨q + 1, e, bb, by omega, by go_num, rfl, HE2, Lib.hid HN.out, I'.drewN nq, X'.drewM nq, below_drewN K' nq⟩
                  case measure => simp [intOf]; omega
                have h1b : (zg e F != -1) = true := by simpa using h1
                by_cases h2 : zg e T = -1
                · have HY := Lib.hid (HRL.out.2 ⟨HR0.out, h1, .inl h2⟩)
                  rw [h2] at dT
                  clear h2
                  have HP := Lib.hid (HPUT.out HY.out).1
                  have HM := Lib.hid (HYES.out HY.out)
                  clear HRL
                  go_wp2_with fail
                  go_quiet (fail)
                  go_wp2_with fail
                  refine wp_region_still_tail 14 (by kernel_rfl) (by kernel_rfl) ?_
                  simp only [List.take_succ_cons, List.take_zero, List.drop_succ_cons, List.drop_zero]
                  change wpStill _ _ (wq.drewN nq).drew (fun a' => wpList _ _ _ _ a' (wq.drewN nq).drew) _ _
                  have I5 : IRow (wq.drewN nq).drew (w.heap.size + 1) zs.length (zg e) := OwnAt.of_block I' rfl
                  have X5 : Pair (wq.drewN nq).drew w.heap.size 30 (.slice (some ⟨rb, ro, none⟩) zs.length ca) (.slice (some ⟨b, off, none⟩) rs.length cb) := X'
                  have K5 : Below w.heap.size w (wq.drewN nq).drew := (below_drewN K' nq).drew
                  have c5 : (wq.drewN nq).drew.cell? ⟨b, off + q * 4 + 2, none⟩ = some (.int .i64 l) := c2'
                  clear dF dT fT x0 x1 c2' r0' r1' I' X' K'
                  generalize (wq.drewN nq).drew = U at I5 X5 K5 c5 ⊢
                  have dF := I5.cell hF
                  have dT := I5.cell hT
                  have fT := I5.frozen T
                  obtain ⟨x0, x1, -, -⟩ := X5.cells
                  repeat still_step
                  refine wpStill_nil ?_
                  go_wp2
                  go_roundw
                  case rel => exact ⟨q + 1, _, false, by omega, by go_num, rfl, HP, Lib.hid (.inr ⟨rfl, HM.out⟩), I5.put HLEN.out T hT _, X5.far (by omega) _ _, K5.setCell (by simp) _⟩
                  case measure => simp [intOf]; omega
                have h2b : (zg e T == -1) = false := by rw [beq_eq_false_iff_ne]; exact h2
                by_cases h3 : zg e F + l < zg e T
                · have HY := Lib.hid (HRL.out.2 ⟨HR0.out, h1, .inr h3⟩)
                  have h3d : decide (zg e F + l < zg e T) = true := decide_eq_true h3
                  clear h2
                  have HP := Lib.hid (HPUT.out HY.out).1
                  have HM := Lib.hid (HYES.out HY.out)
                  clear HRL
                  go_wp2_with fail
                  go_quiet (fail)
                  go_wp2_with fail
                  refine wp_region_still_tail 14 (by kernel_rfl) (by kernel_rfl) ?_
                  simp only [List.take_succ_cons, List.take_zero, List.drop_succ_cons, List.drop_zero]
                  change wpStill _ _ (wq.drewN nq).drew (fun a' => wpList _ _ _ _ a' (wq.drewN nq).drew) _ _
                  have I5 : IRow (wq.drewN nq).drew (w.heap.size + 1) zs.length (zg e) := OwnAt.of_block I' rfl
                  have X5 : Pair (wq.drewN nq).drew w.heap.size 30 (.slice (some ⟨rb, ro, none⟩) zs.length ca) (.slice (some ⟨b, off, none⟩) rs.length cb) := X'
                  have K5 : Below w.heap.size w (wq.drewN nq).drew := (below_drewN K' nq).drew
                  have c5 : (wq.drewN nq).drew.cell? ⟨b, off + q * 4 + 2, none⟩ = some (.int .i64 l) := c2'
                  clear dF dT fT x0 x1 c2' r0' r1' I' X' K'
                  generalize (wq.drewN nq).drew = U at I5 X5 K5 c5 ⊢
                  have dF := I5.cell hF
                  have dT := I5.cell hT
                  have fT := I5.frozen T
                  obtain ⟨x0, x1, -, -⟩ := X5.cells
                  repeat still_step
                  refine wpStill_nil ?_
                  go_wp2
                  go_roundw
                  case rel => exact ⟨q + 1, _, false, by omega, by go_num, rfl, HP, Lib.hid (.inr ⟨rfl, HM.out⟩), I5.put HLEN.out T hT _, X5.far (by omega) _ _, K5.setCell (by simp) _⟩
                  case measure => simp [intOf]; omega
                · have HN := Lib.hid (HNOT.out (fun r => by rcases (HRL.out.1 r).2.2 with u | u; exact h2 u; exact h3 u))
                  have h3d : decide (zg e F + l < zg e T) = false := decide_eq_false h3
                  clear HRL h2
                  go_wp2_with fail
                  go_quiet (fail)
                  go_wp2
                  go_roundw
                  case rel => exact ⟨q + 1, e, bb, by omega, by go_num, rfl, HE2, Lib.hid HN.out, I'.drewN nq, X'.drewM nq, below_drewN K' nq⟩
                  case measure => simp [intOf]; omega
              | false =>
                obtain ⟨ef, et⟩ := cf.2 rfl
                clear cf
                subst ef
                subst et
                by_cases h0 : zg zs F < zg zs T
                rotate_left
                · have HN := Lib.hid (HNOT.out (fun r => h0 (HRL.out.1 r).1))
                  have h0' : ¬ zg zs T > zg zs F := by omega
                  have h0d : decide (zg zs F < zg zs T) = false := decide_eq_false h0
                  generalize zg zs F = x at r0' h0 h0' h0d
                  generalize zg zs T = y at r1' h0 h0' h0d
                  clear HRL h0
                  go_wp2_with fail
                  go_quiet (fail)
                  go_wp2
                  go_roundw
                  case rel => exact ⟨q + 1, e, bb, by omega, by go_num, rfl, HE2, Lib.hid HN.out, I'.drewN nq, X'.drewM nq, below_drewN K' nq⟩
                  case measure => simp [intOf]; omega
                have h0' : zg zs T > zg zs F := h0
                have h0d : decide (zg zs F < zg zs T) = true := decide_eq_true h0
                have HR0 := Lib.hid h0
                generalize zg zs F = x at r0' h0 h0' h0d HR0 HRL
                generalize zg zs T = y at r1' h0 h0' h0d HR0 HRL
                by_cases h1 : zg e F = -1
                · have HN := Lib.hid (HNOT.out (fun r => (HRL.out.1 r).2.1 h1))
                  rw [h1] at dF
                  clear HRL
                  go_wp2_with fail
                  go_quiet (fail)
                  go_wp2
                  go_roundw
                  case rel => exact ⟨q + 1, e, bb, by omega, by go_num, rfl, HE2, Lib.hid HN.out, I'.drewN nq, X'.drewM nq, below_drewN K' nq⟩
                  case measure => simp [intOf]; omega
                have h1b : (zg e F != -1) = true := by simpa using h1
                by_cases h2 : zg e T = -1
                · have HY := Lib.hid (HRL.out.2 ⟨HR0.out, h1, .inl h2⟩)
                  rw [h2] at dT
                  clear h2
                  have HP := Lib.hid (HPUT.out HY.out).1
                  have HM := Lib.hid (HYES.out HY.out)
                  clear HRL
                  go_wp2_with fail
                  go_quiet (fail)
                  go_wp2_with fail
                  refine wp_region_still_tail 14 (by kernel_rfl) (by kernel_rfl) ?_
                  simp only [List.take_succ_cons, List.take_zero, List.drop_succ_cons, List.drop_zero]
                  change wpStill _ _ (wq.drewN nq).drew (fun a' => wpList _ _ _ _ a' (wq.drewN nq).drew) _ _
                  have I5 : IRow (wq.drewN nq).drew (w.heap.size + 1) zs.length (zg e) := OwnAt.of_block I' rfl
                  have X5 : Pair (wq.drewN nq).drew w.heap.size 30 (.slice (some ⟨rb, ro, none⟩) zs.length ca) (.slice (some ⟨b, off, none⟩) rs.length cb) := X'
                  have K5 : Below w.heap.size w (wq.drewN nq).drew := (below_drewN K' nq).drew
                  have c5 : (wq.drewN nq).drew.cell? ⟨b, off + q * 4 + 2, none⟩ = some (.int .i64 l) := c2'
                  clear dF dT fT x0 x1 c2' r0' r1' I' X' K'
                  generalize (wq.drewN nq).drew = U at I5 X5 K5 c5 ⊢
                  have dF := I5.cell hF
                  have dT := I5.cell hT
                  have fT := I5.frozen T
                  obtain ⟨x0, x1, -, -⟩ := X5.cells
                  repeat still_step
                  refine wpStill_nil ?_
                  go_wp2
                  go_roundw
                  case rel => exact ⟨q + 1, _, false, by omega, by go_num, rfl, HP, Lib.hid (.inr ⟨rfl, HM.out⟩), I5.put HLEN.out T hT _, X5.far (by omega) _ _, K5.setCell (by simp) _⟩
                  case measure => simp [intOf]; omega
                have h2b : (zg e T == -1) = false := by rw [beq_eq_false_iff_ne]; exact h2
                by_cases h3 : zg e F + l < zg e T
                · have HY := Lib.hid (HRL.out.2 ⟨HR0.out, h1, .inr h3⟩)
                  have h3d : decide (zg e F + l < zg e T) = true := decide_eq_true h3
                  clear h2
                  have HP := Lib.hid (HPUT.out HY.out).1
                  have HM := Lib.hid (HYES.out HY.out)
                  clear HRL
                  go_wp2_with fail
                  go_quiet (fail)
                  go_wp2_with fail
                  refine wp_region_still_tail 14 (by kernel_rfl) (by kernel_rfl) ?_
                  simp only [List.take_succ_cons, List.take_zero, List.drop_succ_cons, List.drop_zero]
                  change wpStill _ _ (wq.drewN nq).drew (fun a' => wpList _ _ _ _ a' (wq.drewN nq).drew) _ _
                  have I5 : IRow (wq.drewN nq).drew (w.heap.size + 1) zs.length (zg e) := OwnAt.of_block I' rfl
                  have X5 : Pair (wq.drewN nq).drew w.heap.size 30 (.slice (some ⟨rb, ro, none⟩) zs.length ca) (.slice (some ⟨b, off, none⟩) rs.length cb) := X'
                  have K5 : Below w.heap.size w (wq.drewN nq).drew := (below_drewN K' nq).drew
                  have c5 : (wq.drewN nq).drew.cell? ⟨b, off + q * 4 + 2, none⟩ = some (.int .i64 l) := c2'
                  clear dF dT fT x0 x1 c2' r0' r1' I' X' K'
                  generalize (wq.drewN nq).drew = U at I5 X5 K5 c5 ⊢
                  have dF := I5.cell hF
                  have dT := I5.cell hT
                  have fT := I5.frozen T
                  obtain ⟨x0, x1, -, -⟩ := X5.cells
                  repeat still_step
                  refine wpStill_nil ?_
                  go_wp2
                  go_roundw
                  case rel => exact ⟨q + 1, _, false, by omega, by go_num, rfl, HP, Lib.hid (.inr ⟨rfl, HM.out⟩), I5.put HLEN.out T hT _, X5.far (by omega) _ _, K5.setCell (by simp) _⟩
                  case measure => simp [intOf]; omega
                · have HN := Lib.hid (HNOT.out (fun r => by rcases (HRL.out.1 r).2.2 with u | u; exact h2 u; exact h3 u))
                  have h3d : decide (zg e F + l < zg e T) = false := decide_eq_false h3
                  clear HRL h2
                  go_wp2_with fail
                  go_quiet (fail)
                  go_wp2
                  go_roundw
                  case rel => exact ⟨q + 1, e, bb, by omega, by go_num, rfl, HE2, Lib.hid HN.out, I'.drewN nq, X'.drewM nq, below_drewN K' nq⟩
                  case measure => simp [intOf]; omega
            · obtain rfl : q = rs.length := by omega
              clear hlt hq
              rcases HF.out with ⟨rfl, rfl, h3⟩ | ⟨rfl, h3⟩
              · have HC := Lib.hid (HE.out.done h3)
                have HL := Lib.hid (HE.out.len)
                clear h3
                go_wp2
                go_ret
                exact ⟨_, .inl ⟨S, rfl, hS, HK.out, HC.out⟩, irow_made HL.out I (by omega) K⟩
              · go_wp2
                go_roundg (mesB (zs.length * 1000000 + 1) e)
                case measure => omega
                case rel => exact ⟨e, Nat.le_refl _, HE, I, X, K⟩

end Go.Proofs.Ytagaildnfbegkab
