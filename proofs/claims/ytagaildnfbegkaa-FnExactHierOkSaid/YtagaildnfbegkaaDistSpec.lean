/-
  What spec.l04Node and spec.l04From compute: distances by rounds of shortening.
-/
import Derived.Test.YtagaildnfbegkaaDistMath
import Derived.Test.YtagaildnfbegkaaNetImpl
import Derived.Deep.LoopGhost
import Derived.StillTailTactics
namespace Go.Proofs.Ytagaildnfbegkaa
open Go.RowKit Go.Deep

theorem l04Node_any (A B : Option Addr) (n m ca cb : Nat) (u : Int) (w : World) (hn : n ≤ 1048576) :
    Calls Try.prog 43 #[.agg #[.slice A n ca, .slice B m cb], .int .i64 u] w fun e w' => e = .returned (.bool (btB u 0 ((n : Int) - 1))) ∧ Below w.heap.size w w' := by
  have K := below1 w (.cells #[.slice A n ca, .slice B m cb] 49)
  go_enter Try.func43, Try.ntmps43
  go_wp2_with fail
  refine (between_any u 0 ((n : Int) - 1) _).mono ?_; rintro e w' ⟨rfl, rfl⟩
  go_wp2
  go_ret
  exact ⟨rfl, K⟩

/-- The row while it is filled. -/
theorem IRow.fill {w : World} {b N k : Nat} (h : IRow w b N (fun j => if j < k then -1 else 0)) : IRow (w.setCell ⟨b, k, none⟩ (.int .i64 (-1))) b N (fun j => if j < k + 1 then -1 else 0) :=
  (h.set k (-1)).congr fun j _ => by
    by_cases e : j = k
    · subst e; rw [if_pos rfl, if_pos (by omega)]
    · rw [if_neg e]
      by_cases h' : j < k
      · rw [if_pos h', if_pos (by omega)]
      · rw [if_neg h', if_neg (by omega)]
theorem IRow.first {w : World} {b N s : Nat} (h : IRow w b N (fun _ => -1)) (hs : s < N) : IRow (w.setCell ⟨b, s, none⟩ (.int .i64 0)) b N (zg (dst0 N s)) :=
  (h.set s 0).congr fun j hj => by
    rw [zg_dst0 N s j hs hj]
    by_cases e : j = s
    · subst e; simp
    · rw [if_neg e, if_neg (fun h => e h.symm)]
theorem IRow.put {w : World} {b N : Nat} {d : List Int} (h : IRow w b N (zg d)) (hd : d.length = N) (i : Nat) (hi : i < N) (x : Int) : IRow (w.setCell ⟨b, i, none⟩ (.int .i64 x)) b N (zg (d.set i x)) :=
  (h.set i x).congr fun j _ => by
    rw [zg_set d i j x (by omega)]
    by_cases e : j = i
    · subst e; simp
    · rw [if_neg e, if_neg (fun h => e h.symm)]
theorem irow_made {w w' : World} {b : Nat} {zs : List Int} {n : Nat} (hn : zs.length = n) (h : IRow w' b n (zg zs)) (hb : w.heap.size ≤ b) (K : Below w.heap.size w w') : IntsMade w zs (.returned (.slice (some ⟨b, 0, none⟩) n n)) w' :=
  ⟨some ⟨b, 0, none⟩, n, by rw [hn], by omega, fun _ => ⟨b, 0, rfl, hb, by rw [hn]; exact h⟩, K⟩

theorem IRow.drewN {w : World} {b N : Nat} {f : Nat → Int} (h : IRow w b N f) (n : Nat) : IRow (w.drewN n) b N f := OwnAt.of_block h rfl
theorem Pair.drewM {w : World} {b : Nat} {t : TypeId} {u v : Value} (h : Pair w b t u v) (n : Nat) : Pair (w.drewN n) b t u v := h
theorem bool_same {x y z : Bool} (h : x = (y || z)) (hz : z = false) : Value.bool (!y) = Value.bool (!x) := by rw [h, hz, Bool.or_false]
theorem bool_false {x y z : Bool} (h : x = (y || z)) (hz : z = true) : Value.bool false = Value.bool (!x) := by rw [h, hz, Bool.or_true]; rfl

set_option maxRecDepth 100000 in
set_option maxHeartbeats 2000000 in
theorem l04From_any (A B : Option Addr) (ca cb n s : Nat) (rs : List A3) (w : World) (hn : n ≤ 20) (hm : rs.length ≤ 70) (hs : s < n) (hr : ArcsIn n rs) (hb : IsArcs w B rs) :
    Calls Try.prog 122 #[.agg #[.slice A n ca, .slice B rs.length cb], .int .i64 (s : Int)] w (IntsMade w (dst n rs s)) := by
  have X0 := Pair.new w 49 (.slice A n ca) (.slice B rs.length cb)
  have K0 := below1 w (.cells #[.slice A n ca, .slice B rs.length cb] 49)
  obtain ⟨W, hW⟩ : ∃ W, W = w.alloc (.cells #[.slice A n ca, .slice B rs.length cb] 49) := ⟨_, rfl⟩
  rw [← hW] at X0 K0
  have hWs : W.heap.size = w.heap.size + 1 := by rw [hW]; simp
  have HW := Lib.hid hW
  have HWS := Lib.hid hWs
  have hmk := run_make_row' (P := Try.prog) 24 3 (.int .i64 0) 8 Try.underlying24 Try.infoInt rfl .i64 .i64 n (by omega) (by omega)
  have I0 := IRow.made W n
  have k1 := below1 W (.cells (madeCells #[.int .i64 0] n) 3)
  have X := X0.below k1
  have K := K0.trans (k1.mono K0.size)
  rw [hWs] at I0
  clear hW hWs k1 X0 K0
  go_enter Try.func122, Try.ntmps122
  go_wp2
  rw [← HW.out]
  clear hmk
  go_loopw [6] (fun i wr => ∃ k : Nat, k ≤ n ∧ i = .int .i64 k ∧ IRow wr (w.heap.size + 1) n (fun j => if j < k then -1 else 0) ∧ Pair wr w.heap.size 49 (.slice A n ca) (.slice B rs.length cb) ∧ Below w.heap.size w wr) (fun i _ => n - (intOf i).toNat)
  case atStart => exact ⟨0, by omega, rfl, I0.congr (fun j _ => by rw [if_neg (by omega)]), X, K⟩
  case round =>
    clear X K I0
    obtain ⟨k, hk, rfl, I, X, K⟩ := hrel
    by_cases hlt : k < n
    · have c0 := I.cell hlt
      have f0 := I.frozen k
      go_wp2
      go_roundw
      case rel => exact ⟨k + 1, by omega, by go_num, I.fill, X.far (by omega) _ _, K.setCell (by simp) _⟩
      case measure => simp [intOf]; omega
    · obtain rfl : k = n := by omega
      replace I : IRow wr (w.heap.size + 1) k (fun _ => -1) := I.congr (fun j hj => by rw [if_pos hj])
      have c0 := I.cell hs
      have f0 := I.frozen s
      have HD := Lib.hid (fun j => DI.pw hn hs hr j)
      have HF := Lib.hid (fun j h => dst_of hn hs hr (k := j) h)
      have HM := Lib.hid (fun j h => pw_mes hn hs hr j h)
      have HL := Lib.hid (dst_len k rs s)
      have HA := Lib.hid hr
      have I1 := I.first hs
      have X1 := X.far (c := w.heap.size + 1) (by omega) s (.int .i64 0)
      have K1 : Below w.heap.size w (wr.setCell ⟨w.heap.size + 1, s, none⟩ (.int .i64 0)) := K.setCell (by simp) _
      clear hr I X K
      go_wp2
      clear c0 f0
      go_loopg [] (mes (dst0 k s) + 1) (fun g wr => ∃ j : Nat, mes (dst0 k s) + 1 - j ≤ g ∧ IRow wr (w.heap.size + 1) k (zg (pw rs (dst0 k s) j)) ∧ Pair wr w.heap.size 49 (.slice A k ca) (.slice B rs.length cb) ∧ Below w.heap.size w wr)
      case atStart => exact ⟨0, by omega, I1, X1, K1⟩
      case round =>
        clear I1 X1 K1
        obtain ⟨j, hj, I, X, K⟩ := hrel
        have HDj := Lib.hid (HD.out j)
        have HFj := Lib.hid (HF.out j)
        have HMj := Lib.hid (HM.out j)
        clear HD HF HM
        have HPW := Lib.hid (show rlxK rs (pw rs (dst0 k s) j) rs.length = pw rs (dst0 k s) (j + 1) from rfl)
        generalize pw rs (dst0 k s) j = d at I HDj HFj HMj HPW
        have HN := Lib.hid (fun i hi => (HDj.out.next hn hs HA.out i hi).1)
        have hd0 : Hid (d.length = k) := Lib.hid HDj.out.len
        go_wp2
        go_loopw [7, 8] (fun b i wr => ∃ q : Nat, q ≤ rs.length ∧ i = .int .i64 q ∧ b = .bool (!rlxC rs d q) ∧ IRow wr (w.heap.size + 1) k (zg (rlxK rs d q)) ∧ Pair wr w.heap.size 49 (.slice A k ca) (.slice B rs.length cb) ∧ Below w.heap.size w wr) (fun _ i _ => rs.length - (intOf i).toNat)
        case atStart => exact ⟨0, by omega, rfl, rfl, I, X, K⟩
        case round =>
          clear I X K
          obtain ⟨q, hq, rfl, rfl, I, X, K⟩ := hrel
          obtain ⟨x0, x1, -, -⟩ := X.cells
          by_cases hlt : q < rs.length
          · obtain ⟨b, off, rfl, -, c0, c1, c2⟩ := (hb.below K).at_ hlt
            obtain ⟨⟨f0, f1⟩, ⟨t0, t1⟩, hft, l0, l1⟩ := HA.out _ (arg_mem hlt)
            have HB := Lib.hid (HN.out q (by omega))
            have HK1 := Lib.hid (show rlxK rs d (q + 1) = rlx1 (rlxK rs d q) (arg rs q) from rfl)
            have HC1 := Lib.hid (show rlxC rs d (q + 1) = (rlxC rs d q || rlx (rlxK rs d q) (arg rs q)) from rfl)
            generalize arg rs q = a at c0 c1 c2 f0 f1 t0 t1 hft l0 l1 HK1 HC1
            obtain ⟨f, t, L⟩ := a
            obtain ⟨F, rfl⟩ : ∃ F : Nat, f = (F : Int) := ⟨f.toNat, by simp at f0; omega⟩
            obtain ⟨T, rfl⟩ : ∃ T : Nat, t = (T : Int) := ⟨t.toNat, by simp at t0; omega⟩
            simp only at c0 c1 c2 f0 f1 t0 t1 hft l0 l1
            have hF : F < k := by omega
            have hT : T < k := by omega
            generalize rlxK rs d q = e at I HB HK1 HC1
            have hx := HB.out.bound hn F hF
            have hy := HB.out.bound hn T hT
            obtain ⟨V, hV⟩ : ∃ V, V = wr.alloc (.cells #[.int .i64 (F : Int), .int .i64 (T : Int), .int .i64 L] 82) := ⟨_, rfl⟩
            have k1 := below1 wr (.cells #[.int .i64 (F : Int), .int .i64 (T : Int), .int .i64 L] 82)
            have Y : ArcBox (wr.alloc (.cells #[.int .i64 (F : Int), .int .i64 (T : Int), .int .i64 L] 82)) wr.heap.size F T L := arc_new wr F T L _
            rw [← hV] at k1 Y
            have HV := Lib.hid hV
            clear hV
            have I1 := I.below k1
            have X1 := X.below k1
            have K1 := K.trans (k1.mono K.size)
            have dF := I1.cell hF
            have dT := I1.cell hT
            have fT := I1.frozen T
            obtain ⟨y0, y1, y2⟩ := Y.cells
            clear I X K k1 f0 f1 t0 t1 hft
            go_wp2_with fail
            rw [← HV.out]
            clear HV c0 c1 c2 x0 x1
            by_cases h1 : zg e F = -1
            · have HR := Lib.hid (rlx_far (a := ((F : Int), (T : Int), L)) h1)
              rw [h1] at dF
              go_wp2_with fail
              go_quiet (fail)
              go_wp2
              go_roundw
              case rel => exact ⟨q + 1, by omega, by go_num, bool_same HC1.out HR.out, by rw [HK1.out, rlx1_no HR.out]; exact I1.drewN _, X1.drewM _, below_drewN K1 _⟩
              case measure => simp [intOf]; omega
            · have h1' : (zg e F != -1) = true := by simpa using h1
              generalize hxe : zg e F = x at h1 h1' dF hx
              have HXE := Lib.hid hxe
              have h1s := h1
              rw [← hxe] at h1s
              have H1 := Lib.hid h1s
              clear hxe h1s
              by_cases h2 : zg e T = -1
              · have HR := Lib.hid (rlx_new (a := ((F : Int), (T : Int), L)) H1.out h2)
                rw [h2] at dT
                go_wp2_with fail
                go_quiet (fail)
                go_wp2_with fail
                refine wp_region_still_tail 12 (by kernel_rfl) (by kernel_rfl) ?_
                simp only [List.take_succ_cons, List.take_zero, List.drop_succ_cons, List.drop_zero]
                change wpStill _ _ (V.drewN nq).drew (fun a' => wpList _ _ _ _ a' (V.drewN nq).drew) _ _
                replace I1 : IRow (V.drewN nq).drew (w.heap.size + 1) k (zg e) := OwnAt.of_block I1 rfl
                replace X1 : Pair (V.drewN nq).drew w.heap.size 49 (.slice A k ca) (.slice (some ⟨b, off, none⟩) rs.length cb) := X1
                replace Y : ArcBox (V.drewN nq).drew wr.heap.size F T L := Y
                replace K1 := (below_drewN K1 nq).drew
                clear dF dT fT y0 y1 y2
                generalize (V.drewN nq).drew = U at I1 X1 Y K1 ⊢
                have dF := I1.cell hF
                have dT := I1.cell hT
                have fT := I1.frozen T
                rw [HXE.out] at dF
                obtain ⟨y0, y1, y2⟩ := Y.cells
                repeat still_step
                refine wpStill_nil ?_
                go_wp2
                go_roundw
                case rel => exact ⟨q + 1, by omega, by go_num, bool_false HC1.out HR.out, by rw [HK1.out, rlx1_yes HR.out]; rw [← HXE.out]; exact I1.put HB.out.len T hT _, X1.far (by omega) _ _, K1.setCell (by simp) _⟩
                case measure => simp [intOf]; omega
              · generalize hye : zg e T = y at h2 dT hy
                have HYE := Lib.hid hye
                have h2s := h2
                rw [← hye] at h2s
                have H2 := Lib.hid h2s
                clear hye h2s
                have h2' : (y == -1) = false := by simpa using h2
                by_cases h3 : x + L < y
                · have HR := Lib.hid (rlx_less (d := e) (a := ((F : Int), (T : Int), L)) H1.out (by show zg e F + L < zg e T; rw [HXE.out, HYE.out]; exact h3))
                  go_wp2_with fail
                  go_quiet (fail)
                  go_wp2_with fail
                  refine wp_region_still_tail 12 (by kernel_rfl) (by kernel_rfl) ?_
                  simp only [List.take_succ_cons, List.take_zero, List.drop_succ_cons, List.drop_zero]
                  change wpStill _ _ (V.drewN nq).drew (fun a' => wpList _ _ _ _ a' (V.drewN nq).drew) _ _
                  replace I1 : IRow (V.drewN nq).drew (w.heap.size + 1) k (zg e) := OwnAt.of_block I1 rfl
                  replace X1 : Pair (V.drewN nq).drew w.heap.size 49 (.slice A k ca) (.slice (some ⟨b, off, none⟩) rs.length cb) := X1
                  replace Y : ArcBox (V.drewN nq).drew wr.heap.size F T L := Y
                  replace K1 := (below_drewN K1 nq).drew
                  clear dF dT fT y0 y1 y2
                  generalize (V.drewN nq).drew = U at I1 X1 Y K1 ⊢
                  have dF := I1.cell hF
                  have dT := I1.cell hT
                  have fT := I1.frozen T
                  rw [HXE.out] at dF
                  obtain ⟨y0, y1, y2⟩ := Y.cells
                  repeat still_step
                  refine wpStill_nil ?_
                  go_wp2
                  go_roundw
                  case rel => exact ⟨q + 1, by omega, by go_num, bool_false HC1.out HR.out, by rw [HK1.out, rlx1_yes HR.out]; rw [← HXE.out]; exact I1.put HB.out.len T hT _, X1.far (by omega) _ _, K1.setCell (by simp) _⟩
                  case measure => simp [intOf]; omega
                · have HR := Lib.hid (rlx_not (d := e) (a := ((F : Int), (T : Int), L)) H2.out (by show ¬ zg e F + L < zg e T; rw [HXE.out, HYE.out]; exact h3))
                  have h3' : decide (x + L < y) = false := decide_eq_false h3
                  go_wp2_with fail
                  go_quiet (fail)
                  go_wp2
                  go_roundw
                  case rel => exact ⟨q + 1, by omega, by go_num, bool_same HC1.out HR.out, by rw [HK1.out, rlx1_no HR.out]; exact I1.drewN _, X1.drewM _, below_drewN K1 _⟩
                  case measure => simp [intOf]; omega
          · obtain rfl : q = rs.length := by omega
            clear hlt hq
            cases hc : rlxC rs d rs.length with
            | false =>
              have HD := Lib.hid (HFj.out hc)
              have HS := Lib.hid (still hc).1
              go_wp2
              go_ret
              refine irow_made HL.out ?_ (by omega) K
              rw [← HD.out, ← HS.out]; exact I
            | true =>
              have hmm := HMj.out hc
              rw [HPW.out] at I
              go_wp2
              go_roundg (mes (dst0 k s) + 1 - (j + 1))
              case measure => omega
              case rel => exact ⟨j + 1, by omega, I, X, K⟩

end Go.Proofs.Ytagaildnfbegkaa
