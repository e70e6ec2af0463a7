/-
  heap.Fix (of a key that decreased) over the queue, and (*queue).put.
-/
import Derived.Test.YtdobiapnkdgjoaaHeapOps
namespace Go.Proofs.Ytdobiapnkdgjoaa
open Go.RowKit Go.Deep Go.Maps

theorem set_no {q : List (Int × Int)} {i : Nat} {x : Int × Int} (hi : i < q.length) (hh : HeapN q q.length) (hx : ltI x (ptg q i)) : ∀ c, 0 < c → c < (q.set i x).length → (c - 1) / 2 = i → ¬ ltI (ptg (q.set i x) c) (ptg (q.set i x) i) := fun c c0 cl ce => by
  rw [List.length_set] at cl
  rw [ptg_set _ _ _ _ hi, ptg_set _ _ _ _ hi, if_neg (by omega), if_pos rfl]
  have := hh c c0 cl
  rw [ce] at this
  exact fun g => this (ltI_trans g hx)
theorem set_up {q : List (Int × Int)} {i : Nat} {x : Int × Int} (hi : i < q.length) (hh : HeapN q q.length) (hx : ltI x (ptg q i)) : HeapUp (q.set i x) i := by
  refine ⟨fun c c0 cl ce => ?_, fun c c0 cl ce i0 => ?_⟩
  · by_cases e : (c - 1) / 2 = i
    · have := set_no hi hh hx c c0 cl e
      rw [e]; exact this
    · rw [List.length_set] at cl
      rw [ptg_set _ _ _ _ hi, ptg_set _ _ _ _ hi, if_neg (fun g => ce g.symm), if_neg (fun g => e g.symm)]
      exact hh c c0 cl
  · rw [List.length_set] at cl
    rw [ptg_set _ _ _ _ hi, ptg_set _ _ _ _ hi, if_neg (by omega), if_neg (by omega)]
    have h1 := hh c c0 cl
    rw [ce] at h1
    exact nlt_trans h1 (hh i i0 hi)

set_option maxRecDepth 1000000 in
set_option maxHeartbeats 4000000 in
theorem heapFix_any (w : World) (base qa : Nat) (q : List (Int × Int)) (i : Nat) (hi : i < q.length) (hn : q.length ≤ 2097152) (hno : ∀ c, 0 < c → c < q.length → (c - 1) / 2 = i → ¬ ltI (ptg q c) (ptg q i)) (hu : HeapUp q i) (h : QSt w base qa q) :
    Calls Try.prog 121 #[.iface 101 (.pointer (some ⟨qa, 0, none⟩)), .int .i64 (i : Int)] w (HeapMade w base qa q) := by
  have HN := Lib.hid (queueLen_any w base qa q h)
  have HD := Lib.hid (heapDown_none w base qa q i hi hn hno h)
  have hb := h.base_le
  have m1 := mLen
  have HU := Lib.hid hu
  clear hno hu
  go_enter Try.func121, Try.ntmps121
  go_wp2_with fail
  refine HN.out.mono ?_; rintro e w' ⟨rfl, rfl⟩
  go_wp2_with fail
  refine HD.out.mono ?_; rintro e w1 ⟨rfl, b1⟩
  have h1 := h.below b1
  have K1 : Below base w w1 := b1.mono hb
  clear HN HD h b1 m1
  go_wp2_with fail
  refine (heapUp_any w1 base qa q i hi hn HU.out h1).mono ?_; rintro e w2 ⟨rfl, q', p2, hh2, h2, b2⟩
  go_wp2
  go_end0
  exact ⟨rfl, q', p2, hh2, h2, K1.trans b2⟩

/-- The items of a queue behind a put, in some order. -/
def PutRel (q : List (Int × Int)) (x : Int × Int) (q' : List (Int × Int)) : Prop :=
  (∀ i, i < q.length → idg q i ≠ x.2) ∧ q'.Perm (q ++ [x]) ∨ ∃ i, i < q.length ∧ idg q i = x.2 ∧ (x.1 < (ptg q i).1 ∧ q'.Perm (q.set i x) ∨ ¬ x.1 < (ptg q i).1 ∧ q'.Perm q)
def PutMade (w : World) (base qa : Nat) (q : List (Int × Int)) (x : Int × Int) (e : Ending) (w' : World) : Prop := e = .returned (.tuple #[]) ∧ ∃ q', PutRel q x q' ∧ HeapN q' q'.length ∧ QSt w' base qa q' ∧ Below base w w'

theorem PlOf.setId {q : List (Int × Int)} {D : DataW Unit} (h : PlOf q D) {i : Nat} {x : Int × Int} (hi : i < q.length) (he : idg q i = x.2) : PlOf (q.set i x) D := by
  have hid : ∀ k, idg (q.set i x) k = idg q k := fun k => by
    unfold idg at *; rw [ptg_set _ _ _ _ hi]; split
    · rename_i e; rw [← e]; exact he.symm
    · rfl
  refine ⟨h.tidy, by rw [h.size, List.length_set], fun y => ?_, fun k hk z => ?_, fun a ha b hb => ?_⟩
  · rw [h.has, List.length_set]; simp only [hid]
  · rw [List.length_set] at hk; rw [hid]; exact h.at_ k hk z
  · rw [List.length_set] at ha; rw [hid, hid]; exact h.apart a ha b hb

set_option maxRecDepth 100000 in
theorem look_int {w : World} {B n : Nat} {D : DataW Unit} {d c : Int} (h : w.ownsMap Try.prog 3 (plainElem Try.prog 3) B n D) (hd : In64 d) (hc : D.atKey (kI d) (.lit (kI 0)) = .lit (kI c)) :
    (Instr.lookup 105 (.map (some B)) (.int .i64 d) true).run Try.prog w = .ok (.tuple #[.int .i64 c, .bool (Maps.has D (kI d))]) w := by
  obtain ⟨v, ps, hr, hv⟩ := h.look_ok Try.law Try.underlying105 (Try.zeroI w) (plainElem_int Try.underlying3 (a := 0) (by decide)) (keyOf_int_mk Try.underlying3 (WalkArith.wf_i64 hd))
  obtain ⟨a, rfl, e, -⟩ := plainElem_int_inv Try.underlying3 hv
  have e' := congrArg Prod.fst e
  simp only at e'
  rw [hc] at e'
  injection e' with e'
  injection e' with _ e'
  rw [e']; exact hr

theorem QSt.setItem {W : World} {base qa g cap : Nat} {q : List (Int × Int)} {i : Nat} {k d : Int} (hi : i < q.length) (he : idg q i = d) (hd : In64 d) (h : QSt W base qa q) (x0 : W.cell? ⟨qa, 0, none⟩ = some (.slice (some ⟨g, 0, none⟩) q.length cap)) :
    base ≤ g ∧ QSt ((W.setCell ⟨g, i * 2, none⟩ (.int .i64 k)).setCell ⟨g, i * 2 + 1, none⟩ (.int .i64 d)) base qa (q.set i (k, d)) := by
  obtain ⟨v, B, D, X, own, hmap, hpl, hqa, hB, h64⟩ := h
  obtain ⟨g', cap', cur, rfl, hcap, hg, hgb⟩ := QSt.cells_at own hi
  have e := X.cells.1.symm.trans x0
  simp at e
  obtain ⟨rfl, rfl⟩ := e
  have hgq : g' ≠ qa := fun e => by subst e; have := X.symm.trans hgb; simp at this
  have HM := hmap
  obtain ⟨es, ck, hmb, -⟩ := hmap
  have hBg : B ≠ g' := fun e => by subst e; have := hgb.symm.trans hmb; simp at this
  have hl : (q.set i (k, d)).length = q.length := List.length_set
  refine ⟨hg, _, B, D, ?_, by rw [hl]; exact row_set own i (k, d), by rw [hl]; exact (HM.setCell (a := ⟨g', i * 2, none⟩) hBg (.int .i64 k)).setCell (a := ⟨g', i * 2 + 1, none⟩) hBg (.int .i64 d), hpl.setId hi he, hqa, hB, fun j hj => ?_⟩
  · exact (Below.heap_setCell _ ⟨g', i * 2 + 1, none⟩ _ qa (Ne.symm hgq)).trans ((Below.heap_setCell _ ⟨g', i * 2, none⟩ _ qa (Ne.symm hgq)).trans X)
  · rw [hl] at hj
    unfold idg; rw [ptg_set _ _ _ _ hi]; split
    · exact hd
    · exact h64 j hj

set_option maxRecDepth 1000000 in
set_option maxHeartbeats 16000000 in
theorem queuePut_any (w : World) (base qa : Nat) (q : List (Int × Int)) (k d : Int) (hd : In64 d) (hn : q.length ≤ 1048576) (hh : HeapN q q.length) (h : QSt w base qa q) :
    Calls Try.prog 78 #[.pointer (some ⟨qa, 0, none⟩), .agg #[.int .i64 k, .int .i64 d]] w (PutMade w base qa q (k, d)) := by
  have kb0 := below1 w (.cells #[.int .i64 k, .int .i64 d] 45)
  have P := Pair.new w 45 (.int .i64 k) (.int .i64 d)
  have hb0 := h.base_le
  have K0 : Below base w (w.alloc (.cells #[.int .i64 k, .int .i64 d] 45)) := kb0.mono hb0
  obtain ⟨v, B, D, X0, own0, hmap0, hpl, hqa, hB, h64⟩ := h
  have hgl := World.ownsRow.lt own0
  have X := X0.below kb0
  have own := ownsRow_below own0 kb0
  have hmap := ownsMap_below hmap0 kb0
  obtain ⟨W, hW⟩ : ∃ W, W = w.alloc (.cells #[.int .i64 k, .int .i64 d] 45) := ⟨_, rfl⟩
  rw [← hW] at X own hmap P K0
  have HW := Lib.hid hW
  clear hW kb0 X0 own0 hmap0
  have HQ : Hid (QSt W base qa q) := Lib.hid ⟨v, B, D, X, own, hmap, hpl, hqa, hB, h64⟩
  have HB2 := Lib.hid (fun a b => HQ.out.below (below_drewN (below_drewN (Below.refl W.heap.size W) a) b))
  have HK2 := Lib.hid (fun a b => below_drewN (below_drewN K0 a) b)
  have HB1 := Lib.hid (fun m => HQ.out.below (below_drewN (Below.refl W.heap.size W) m))
  have HK1 := Lib.hid (fun m => below_drewN K0 m)
  obtain ⟨x0, x1, -, -⟩ := X.cells
  obtain ⟨p0, p1, -, -⟩ := P.cells
  cases hhas : Maps.has D (kI d) with
  | false =>
    have hfresh : ∀ i, i < q.length → idg q i ≠ d := fun i hi e => by rw [(hpl.has d).2 ⟨i, hi, e⟩] at hhas; cases hhas
    have hlk : ∀ m, (Instr.lookup 105 (.map (some B)) (.int .i64 d) true).run Try.prog (W.drewN m) = .ok (.tuple #[.int .i64 0, .bool false]) (W.drewN m) := fun m => by
      have := look_int (w := W.drewN m) hmap hd (c := 0) (atKey_of_not_has hhas _)
      rw [hhas] at this; exact this
    have HF := Lib.hid hfresh
    have HH := Lib.hid hh
    clear hmap hpl h64 own hhas X P hfresh hh K0
    go_enter Try.func78, Try.ntmps78
    go_wp2_with fail
    rw [← HW.out]
    go_quiet (fail)
    clear hlk x0 x1
    go_wp2_with fail
    refine (heapPush_any (W.drewN nq) base qa q k d hd hn HF.out HH.out (HB1.out nq)).mono ?_; rintro e w2 ⟨rfl, q', p2, hh2, h2, b2⟩
    go_wp2
    go_end0
    exact ⟨rfl, q', .inl ⟨HF.out, p2⟩, hh2, h2, (HK1.out nq).trans b2⟩
  | true =>
    obtain ⟨i, hi, he⟩ := (hpl.has d).1 hhas
    have hlk : ∀ m, (Instr.lookup 105 (.map (some B)) (.int .i64 d) true).run Try.prog (W.drewN m) = .ok (.tuple #[.int .i64 (i : Int), .bool true]) (W.drewN m) := fun m => by
      have := look_int (w := W.drewN m) hmap hd (c := (i : Int)) (by rw [← he]; exact hpl.at_ i hi _)
      rw [hhas] at this; exact this
    obtain ⟨g, cap, cur, rfl, hcap, hg, hgb⟩ := QSt.cells_at own hi
    obtain ⟨a0, a1, a2, a3⟩ := row_cell own hi
    have hii : (i : Int) < q.length := by omega
    have hgq : g ≠ qa := fun e => by subst e; have := X.symm.trans hgb; simp at this
    have hgw : g ≠ w.heap.size := by have := (hgl g rfl).2; omega
    by_cases hlt : k < (ptg q i).1
    · have hxl : ltI (k, d) (ptg q i) := .inl hlt
      have HNO := Lib.hid (set_no (x := (k, d)) hi hh hxl)
      have HUP := Lib.hid (set_up (x := (k, d)) hi hh hxl)
      have HREL : Hid (∀ q', q'.Perm (q.set i (k, d)) → PutRel q (k, d) q') := Lib.hid (fun q' p => .inr ⟨i, hi, he, .inl ⟨hlt, p⟩⟩)
      have HE := Lib.hid he
      have HLN : Hid ((q.set i (k, d)).length = q.length) := Lib.hid List.length_set
      generalize (ptg q i).1 = kk at a0 hlt
      generalize (ptg q i).2 = dd at a1
      clear hmap hpl h64 own X P hh hhas hgb he K0 hxl
      go_enter Try.func78, Try.ntmps78
      go_wp2_with fail
      rw [← HW.out]
      go_quiet (fail)
      generalize nq = nq1
      clear hlk
      go_wp2_with fail
      go_quiet (fail)
      go_wp2_with fail
      generalize nq = nq2
      have hq := HB2.out nq1 nq2
      have Kq := HK2.out nq1 nq2
      have y0 : ((W.drewN nq1).drewN nq2).cell? ⟨qa, 0, none⟩ = some (.slice (some ⟨g, 0, none⟩) q.length cap) := x0
      have y1 : ((W.drewN nq1).drewN nq2).cell? ⟨w.heap.size, 0, none⟩ = some (.int .i64 k) := p0
      have y2 : ((W.drewN nq1).drewN nq2).cell? ⟨w.heap.size, 1, none⟩ = some (.int .i64 d) := p1
      have y3 : ((W.drewN nq1).drewN nq2).cell? ⟨g, i * 2, none⟩ = some (.int .i64 kk) := a0
      have y4 : ((W.drewN nq1).drewN nq2).cell? ⟨g, i * 2 + 1, none⟩ = some (.int .i64 dd) := a1
      have y5 : ((W.drewN nq1).drewN nq2).frozen? ⟨g, i * 2, none⟩ = false := a2
      have y6 : ((W.drewN nq1).drewN nq2).frozen? ⟨g, i * 2 + 1, none⟩ = false := a3
      generalize (W.drewN nq1).drewN nq2 = wq at hq Kq y0 y1 y2 y3 y4 y5 y6 ⊢
      clear x0 x1 p0 p1 a0 a1 a2 a3 HW
      obtain ⟨hg', FIN⟩ := hq.setItem hi HE.out hd y0
      have KF := (Kq.setCell (p := ⟨g, i * 2, none⟩) hg' (.int .i64 k)).setCell (p := ⟨g, i * 2 + 1, none⟩) hg' (.int .i64 d)
      have HFIN : Hid (QSt ((wq.setCell ⟨g, i * 2, none⟩ (.int .i64 k)).setCell ⟨g, i * 2 + 1, none⟩ (.int .i64 d)).drew base qa (q.set i (k, d))) := Lib.hid (FIN.below (below_drewN (Below.refl _ ((wq.setCell ⟨g, i * 2, none⟩ (.int .i64 k)).setCell ⟨g, i * 2 + 1, none⟩ (.int .i64 d))) 1))
      have HKF := Lib.hid (below_drewN KF 1)
      clear FIN KF hq Kq
      go_region
      all_goals (
        go_wp2_with fail
        refine (heapFix_any _ base qa (q.set i (k, d)) i (by rw [HLN.out]; exact hi) (by rw [HLN.out]; omega) HNO.out HUP.out HFIN.out).mono ?_; rintro e w2 ⟨rfl, q', p2, hh2, h2, b2⟩
        go_wp2
        go_end0
        exact ⟨rfl, q', HREL.out q' p2, hh2, h2, HKF.out.trans b2⟩)
    · have HREL := Lib.hid (show PutRel q (k, d) q from .inr ⟨i, hi, he, .inr ⟨hlt, List.Perm.refl _⟩⟩)
      have HH := Lib.hid hh
      generalize (ptg q i).1 = kk at a0 hlt
      generalize (ptg q i).2 = dd at a1
      clear hmap hpl h64 own X P hh hhas hgb he K0
      go_enter Try.func78, Try.ntmps78
      go_wp2_with fail
      rw [← HW.out]
      go_quiet (fail)
      clear hlk
      go_wp2_with fail
      go_quiet (fail)
      go_wp2
      go_end0
      exact ⟨rfl, q, HREL.out, HH.out, HB2.out _ _, HK2.out _ _⟩

end Go.Proofs.Ytdobiapnkdgjoaa
