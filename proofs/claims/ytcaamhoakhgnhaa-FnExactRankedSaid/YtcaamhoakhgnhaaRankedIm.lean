/-
  What impl.Ranked and spec.Ranked compute.
-/
import Derived.Test.YtcaamhoakhgnhaaSortedInts
import Derived.Test.YtcaamhoakhgnhaaDistTop
namespace Go.Proofs.Ytcaamhoakhgnhaa
open Go.RowKit Go.Deep Go.Sort

theorem IRow.rank {w : World} {b n k U : Nat} {d : Int} {zs : List Int} (h : IRow w b n (rkF d zs k)) (hU : zg zs k = (U : Int)) : IRow (w.setCell ⟨b, U, none⟩ (.int .i64 (k : Int))) b n (rkF d zs (k + 1)) :=
  (h.set U (k : Int)).congr fun j _ => by
    show (if j = U then (k : Int) else rkF d zs k j) = if zg zs k = (j : Int) then (k : Int) else rkF d zs k j
    by_cases e : j = U
    · rw [if_pos e, if_pos (by rw [hU, e])]
    · rw [if_neg e, if_neg (by rw [hU]; omega)]

open Classical in
set_option maxRecDepth 100000 in
set_option maxHeartbeats 4000000 in
theorem implRanked_any (R : Option Addr) (cr : Nat) (zs : List Int) (many : Int) (w : World) (hz : zs.length ≤ 1048576) (hi : IsInts w R zs) :
    Calls Try.prog 25 #[.slice R zs.length cr, .int .i64 many] w (IntsMade w (rkd zs many)) := by
  by_cases h : many = (zs.length : Int) ∧ okZ zs
  · obtain ⟨rfl, hok⟩ := h
    have HIO := Lib.hid (isOrder_any R cr zs (zs.length : Int) w hz hi)
    have HB : Hid (decide ((zs.length : Int) = (zs.length : Int) ∧ okZ zs) = true) := Lib.hid (decide_eq_true ⟨rfl, hok⟩)
    rw [HB.out] at HIO
    have HQ := Lib.hid (rkd_yes hok)
    have HOK := Lib.hid hok
    clear hok HB
    go_enter Try.func25, Try.ntmps25
    go_wp2_with fail
    refine HIO.out.mono ?_; rintro e w1 ⟨rfl, b1⟩
    have I1 := hi.below b1
    have hmk := run_make_row' (P := Try.prog) 40 3 (.int .i64 0) 8 Try.underlying40 Try.infoInt rfl .i64 .i64 zs.length (by omega) (by omega)
    have I0 := IRow.made w1 zs.length
    have k1 := below1 w1 (.cells (madeCells #[.int .i64 0] zs.length) 3)
    have K := b1.trans (k1.mono b1.size)
    have hs1 := b1.size
    replace I1 := I1.below k1
    obtain ⟨W, hW⟩ : ∃ W, W = w1.alloc (.cells (madeCells #[.int .i64 0] zs.length) 3) := ⟨_, rfl⟩
    rw [← hW] at I0 K I1
    have HW := Lib.hid hW
    have HG := Lib.hid (fun V (h : Below w1.heap.size w1 V) => (hi.below b1).below h)
    have HK1 : Below w1.heap.size w1 W := by rw [hW]; exact k1
    clear hW k1 HIO
    go_wp2
    rw [← HW.out]
    clear hmk
    go_loopw [16] (fun vi wr => ∃ k : Nat, k ≤ zs.length ∧ vi = .int .i64 k ∧ IRow wr w1.heap.size zs.length (rkF 0 zs k) ∧ Below w1.heap.size w1 wr ∧ Below w.heap.size w wr) (fun i _ => zs.length - (intOf i).toNat)
    case atStart => exact ⟨0, by omega, rfl, I0, HK1, K⟩
    case round =>
      clear I0 K HK1 I1
      obtain ⟨k, hk, rfl, I, K1, K⟩ := hrel
      by_cases hlt : k < zs.length
      · have hki : (k : Int) < zs.length := by omega
        obtain ⟨⟨z0, z1⟩, -⟩ := HOK.out k hlt
        obtain ⟨U, hU⟩ : ∃ U : Nat, zg zs k = U := ⟨(zg zs k).toNat, by omega⟩
        have hUn : U < zs.length := by omega
        have hUi : (U : Int) < zs.length := by omega
        obtain ⟨b, off, rfl, hb, ci⟩ := (HG.out _ K1).at_ hlt
        rw [hU] at ci
        have I2 := I.rank hU
        have cu := I.cell hUn
        have fu := I.frozen U
        have K12 := K1.setCell (p := ⟨w1.heap.size, U, none⟩) (Nat.le_refl _) (.int .i64 (k : Int))
        have K2 := K.setCell (p := ⟨w1.heap.size, U, none⟩) (by simpa using hs1) (.int .i64 (k : Int))
        clear hU z0 z1 I K1 K
        go_wp2
        go_roundw
        case rel => exact ⟨k + 1, by omega, by go_num, I2, K12, K2⟩
        case measure => simp [intOf]; omega
      · obtain rfl : k = zs.length := by omega
        clear K1
        go_wp2
        go_ret
        rw [HQ.out]
        exact irow_intsMade hs1 I K
  · have HIO := Lib.hid (isOrder_any R cr zs many w hz hi)
    rw [decide_eq_false h] at HIO
    have HQ := Lib.hid (rkd_no (zs := zs) (n := many) (by by_cases e : many = (zs.length : Int); exact .inr (fun o => h ⟨e, o⟩); exact .inl e))
    clear h
    go_enter Try.func25, Try.ntmps25
    go_wp2_with fail
    refine HIO.out.mono ?_; rintro e w1 ⟨rfl, b1⟩
    go_wp2
    go_ret
    exact intsMade_nil HQ.out _ _ b1

set_option maxRecDepth 100000 in
set_option maxHeartbeats 4000000 in
theorem specRanked_any (R : Option Addr) (cr : Nat) (zs : List Int) (many : Int) (w : World) (hz : zs.length ≤ 1048576) (hi : IsInts w R zs) :
    Calls Try.prog 23 #[.slice R zs.length cr, .int .i64 many] w (IntsMade w (rkd zs many)) := by
  by_cases h : many = (zs.length : Int)
  · subst h
    have hne : ((zs.length : Int) != (zs.length : Int)) = false := by simp
    have hw1 : IntKind.i64.wrap ((zs.length : Int) - 1) = (zs.length : Int) - 1 := IntWalk.i64_in _ (by omega)
    have hmk := run_make_row' (P := Try.prog) 40 3 (.int .i64 0) 8 Try.underlying40 Try.infoInt rfl .i64 .i64 zs.length (by omega) (by omega)
    have I0 := IRow.made w zs.length
    have K := below1 w (.cells (madeCells #[.int .i64 0] zs.length) 3)
    obtain ⟨W, hW⟩ : ∃ W, W = w.alloc (.cells (madeCells #[.int .i64 0] zs.length) 3) := ⟨_, rfl⟩
    rw [← hW] at I0 K
    have HW := Lib.hid hW
    have HG := Lib.hid (fun V (h : Below w.heap.size w V) => hi.below h)
    clear hW hi
    go_enter Try.func23, Try.ntmps23
    go_wp2
    rw [← HW.out]
    clear hmk HW
    go_loopw [6] (fun vi wr => ∃ k : Nat, k ≤ zs.length ∧ vi = .int .i64 k ∧ IRow wr w.heap.size zs.length (fun j => if j < k then -1 else 0) ∧ Below w.heap.size w wr) (fun i _ => zs.length - (intOf i).toNat)
    case atStart => exact ⟨0, by omega, rfl, I0.congr (fun j _ => by rw [if_neg (by omega)]), K⟩
    case round =>
      clear I0 K
      obtain ⟨k, hk, rfl, I, K⟩ := hrel
      by_cases hlt : k < zs.length
      · have c0 := I.cell hlt
        have f0 := I.frozen k
        have hki : (k : Int) < zs.length := by omega
        go_wp2
        go_roundw
        case rel => exact ⟨k + 1, by omega, by go_num, I.fill, K.setCell (Nat.le_refl _) _⟩
        case measure => simp [intOf]; omega
      · obtain rfl : k = zs.length := by omega
        replace I : IRow wr w.heap.size zs.length (rkF (-1) zs 0) := I.congr (fun j hj => by rw [if_pos hj]; rfl)
        go_wp2
        go_loopw [7] (fun vi wv => ∃ k : Nat, k ≤ zs.length ∧ vi = .int .i64 k ∧ Hid (∀ i, i < k → (0 ≤ zg zs i ∧ zg zs i < (zs.length : Int)) ∧ ∀ j, j < i → zg zs j ≠ zg zs i) ∧ IRow wv w.heap.size zs.length (rkF (-1) zs k) ∧ Below w.heap.size w wv) (fun i _ => zs.length - (intOf i).toNat)
        case atStart => exact ⟨0, by omega, rfl, Lib.hid (fun i hi => by omega), I, K⟩
        case round =>
          clear I K
          obtain ⟨k, hk, rfl, HJ, I, K⟩ := hrel
          by_cases hlt : k < zs.length
          · have hki : (k : Int) < zs.length := by omega
            obtain ⟨b, off, rfl, hb, ci⟩ := (HG.out _ K).at_ hlt
            have HNO := Lib.hid (fun (o : okZ zs) => o k hlt)
            cases hbt : btB (zg zs k) 0 ((zs.length : Int) - 1) with
            | false =>
              have HQ := Lib.hid (rkd_no (zs := zs) (n := (zs.length : Int)) (.inr fun o => by have := (HNO.out o).1; rw [btB_true this.1 (by omega)] at hbt; cases hbt))
              generalize zg zs k = x at ci hbt
              clear I
              go_wp2_with fail
              refine (between_any _ _ _ _).mono ?_; rw [hbt]; rintro e w5 ⟨rfl, rfl⟩
              go_wp2
              go_ret
              exact intsMade_nil HQ.out _ _ (K.trans ((below1 _ _).mono K.size))
            | true =>
              obtain ⟨z0, z1⟩ := btB_iff.1 hbt
              obtain ⟨U, hU⟩ : ∃ U : Nat, zg zs k = U := ⟨(zg zs k).toNat, by omega⟩
              have hUn : U < zs.length := by omega
              have hUi : (U : Int) < zs.length := by omega
              rw [hU] at ci hbt
              have cu := I.cell hUn
              have fu := I.frozen U
              by_cases hu : rkF (-1) zs k U = -1
              · have HJ2 : Hid (∀ i, i < k + 1 → (0 ≤ zg zs i ∧ zg zs i < (zs.length : Int)) ∧ ∀ j, j < i → zg zs j ≠ zg zs i) := Lib.hid (fun i hi => by
                  rcases Nat.lt_or_ge i k with q | q
                  · exact HJ.out i q
                  · obtain rfl : i = k := by omega
                    refine ⟨by omega, fun j hj => ?_⟩
                    rw [hU]; exact rkF_neg.1 hu j hj)
                have I2 := I.rank hU
                have K2 := K.setCell (p := ⟨w.heap.size, U, none⟩) (Nat.le_refl _) (.int .i64 (k : Int))
                rw [hu] at cu
                have hn1 : ((-1 : Int) != -1) = false := by simp
                clear hU z0 z1 I hu HNO
                go_wp2_with fail
                refine (between_any _ _ _ _).mono ?_; rw [hbt]; rintro e w5 ⟨rfl, rfl⟩
                go_wp2
                go_roundw
                case rel => exact ⟨k + 1, by omega, by go_num, HJ2, I2, K2⟩
                case measure => simp [intOf]; omega
              · have HQ := Lib.hid (rkd_no (zs := zs) (n := (zs.length : Int)) (.inr fun o => hu (rkF_neg.2 fun j hj => by rw [← hU]; exact (HNO.out o).2 j hj)))
                have hn1 : (rkF (-1) zs k U != -1) = true := by simpa using hu
                generalize rkF (-1) zs k U = y at cu hn1
                clear hU z0 z1 I hu HNO
                go_wp2_with fail
                refine (between_any _ _ _ _).mono ?_; rw [hbt]; rintro e w5 ⟨rfl, rfl⟩
                go_wp2
                go_ret
                exact intsMade_nil HQ.out _ _ (K.trans ((below1 _ _).mono K.size))
          · obtain rfl : k = zs.length := by omega
            have hok : okZ zs := HJ.out
            have HQ := Lib.hid (rkd_yes hok)
            have I2 := I.congr (f' := rkF 0 zs zs.length) (fun u hu => (rkF_any (d := -1) (d' := 0) (okZ_all hok hu)))
            clear hok I
            go_wp2
            go_ret
            rw [HQ.out]
            exact irow_intsMade (Nat.le_refl _) I2 K
  · have hne : ((zs.length : Int) != many) = true := by simpa using fun e => h e.symm
    have HQ := Lib.hid (rkd_no (zs := zs) (n := many) (.inl h))
    clear h
    go_enter Try.func23, Try.ntmps23
    go_wp2
    go_ret
    exact intsMade_nil HQ.out _ _ (below1 _ _)

end Go.Proofs.Ytcaamhoakhgnhaa
