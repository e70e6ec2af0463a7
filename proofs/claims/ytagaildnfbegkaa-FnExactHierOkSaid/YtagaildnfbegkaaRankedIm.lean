/-
  What impl.Ranked and spec.Ranked compute.
-/
import Derived.Test.YtagaildnfbegkaaSortedInts
import Derived.Test.YtagaildnfbegkaaDistTop
namespace Go.Proofs.Ytagaildnfbegkaa
open Go.RowKit Go.Deep Go.Sort

theorem IRow.rank {w : World} {b n k U : Nat} {d : Int} {zs : List Int} (h : IRow w b n (rkF d zs k)) (hU : zg zs k = (U : Int)) : IRow (w.setCell ⟨b, U, none⟩ (.int .i64 (k : Int))) b n (rkF d zs (k + 1)) :=
  (h.set U (k : Int)).congr fun j _ => by
    show (if j = U then (k : Int) else rkF d zs k j) = if zg zs k = (j : Int) then (k : Int) else rkF d zs k j
    by_cases e : j = U
    · rw [if_pos e, if_pos (by rw [hU, e])]
    · rw [if_neg e, if_neg (by rw [hU]; omega)]

open Classical in
set_option maxRecDepth 100000 in
set_option maxHeartbeats 4000000 in
theorem specRanked_any (R : Option Addr) (cr : Nat) (zs : List Int) (many : Int) (w : World) (hz : zs.length ≤ 1048576) (hi : IsInts w R zs) :
    Calls Try.prog 42 #[.slice R zs.length cr, .int .i64 many] w (IntsMade w (rkd zs many)) := by
  by_cases h : many = (zs.length : Int)
  · subst h
    have hne : ((zs.length : Int) != (zs.length : Int)) = false := by simp
    have hw1 : IntKind.i64.wrap ((zs.length : Int) - 1) = (zs.length : Int) - 1 := IntWalk.i64_in _ (by omega)
    have hmk := run_make_row' (P := Try.prog) 24 3 (.int .i64 0) 8 Try.underlying24 Try.infoInt rfl .i64 .i64 zs.length (by omega) (by omega)
    have I0 := IRow.made w zs.length
    have K := below1 w (.cells (madeCells #[.int .i64 0] zs.length) 3)
    obtain ⟨W, hW⟩ : ∃ W, W = w.alloc (.cells (madeCells #[.int .i64 0] zs.length) 3) := ⟨_, rfl⟩
    rw [← hW] at I0 K
    have HW := Lib.hid hW
    have HG := Lib.hid (fun V (h : Below w.heap.size w V) => hi.below h)
    clear hW hi
    go_enter Try.func42, Try.ntmps42
    go_wp2
    rw [← HW.out]
    clear hmk HW
    go_loopw [6] (fun vi wr => ∃ k : Nat, k ≤ zs.length ∧ vi = .int .i64 k ∧ IRow wr w.heap.size zs.length (fun j => if j < k then -1 else 0) ∧ Below w.heap.size w wr) (fun i _ => zs.length - (intOf i).toNat)
    case atStart => exact ⟨0, by omega, rfl, I0.congr (fun j _ => by rw [if_neg (by omega)]), K⟩
    case round =>
      clear I0 K
      obtain ⟨k, hk, rfl, I, K⟩ := hrel
      by_cases hlt : k < zs.length
      · have c0 := I.cell hlt
        have f0 := I.frozen k
        have hki : (k : Int) < zs.length := by omega
        go_wp2
        go_roundw
        case rel => exact ⟨k + 1, by omega, by go_num, I.fill, K.setCell (Nat.le_refl _) _⟩
        case measure => simp [intOf]; omega
      · obtain rfl : k = zs.length := by omega
        replace I : IRow wr w.heap.size zs.length (rkF (-1) zs 0) := I.congr (fun j hj => by rw [if_pos hj]; rfl)
        go_wp2
        go_loopw [7] (fun vi wv => ∃ k : Nat, k ≤ zs.length ∧ vi = .int .i64 k ∧ Hid (∀ i, i < k → (0 ≤ zg zs i ∧ zg zs i < (zs.length : Int)) ∧ ∀ j, j < i → zg zs j ≠ zg zs i) ∧ IRow wv w.heap.size zs.length (rkF (-1) zs k) ∧ Below w.heap.size w wv) (fun i _ => zs.length - (intOf i).toNat)
        case atStart => exact ⟨0, by omega, rfl, Lib.hid (fun i hi => by omega), I, K⟩
        case round =>
          clear I K
          obtain ⟨k, hk, rfl, HJ, I, K⟩ := hrel
          by_cases hlt : k < zs.length
          · have hki : (k : Int) < zs.length := by omega
            obtain ⟨b, off, rfl, hb, ci⟩ := (HG.out _ K).at_ hlt
            have HNO := Lib.hid (fun (o : okZ zs) => o k hlt)
            cases hbt : btB (zg zs k) 0 ((zs.length : Int) - 1) with
            | false =>
              have HQ := Lib.hid (rkd_no (zs := zs) (n := (zs.length : Int)) (.inr fun o => by have := (HNO.out o).1; rw [btB_true this.1 (by omega)] at hbt; cases hbt))
              generalize zg zs k = x at ci hbt
              clear I
              go_wp2_with fail
              refine (between_any _ _ _ _).mono ?_; rw [hbt]; rintro e w5 ⟨rfl, rfl⟩
              go_wp2
              go_ret
              exact intsMade_nil HQ.out _ _ (K.trans ((below1 _ _).mono K.size))
            | true =>
              obtain ⟨z0, z1⟩ := btB_iff.1 hbt
              obtain ⟨U, hU⟩ : ∃ U : Nat, zg zs k = U := ⟨(zg zs k).toNat, by omega⟩
              have hUn : U < zs.length := by omega
              have hUi : (U : Int) < zs.length := by omega
              rw [hU] at ci hbt
              have cu := I.cell hUn
              have fu := I.frozen U
              by_cases hu : rkF (-1) zs k U = -1
              · have HJ2 : Hid (∀ i, i < k + 1 → (0 ≤ zg zs i ∧ zg zs i < (zs.length : Int)) ∧ ∀ j, j < i → zg zs j ≠ zg zs i) := Lib.hid (fun i hi => by
                  rcases Nat.lt_or_ge i k with q | q
                  · exact HJ.out i q
                  · obtain rfl : i = k := by omega
                    refine ⟨by omega, fun j hj => ?_⟩
                    rw [hU]; exact rkF_neg.1 hu j hj)
                have I2 := I.rank hU
                have K2 := K.setCell (p := ⟨w.heap.size, U, none⟩) (Nat.le_refl _) (.int .i64 (k : Int))
                rw [hu] at cu
                have hn1 : ((-1 : Int) != -1) = false := by simp
                clear hU z0 z1 I hu HNO
                go_wp2_with fail
                refine (between_any _ _ _ _).mono ?_; rw [hbt]; rintro e w5 ⟨rfl, rfl⟩
                go_wp2
                go_roundw
                case rel => exact ⟨k + 1, by omega, by go_num, HJ2, I2, K2⟩
                case measure => simp [intOf]; omega
              · have HQ := Lib.hid (rkd_no (zs := zs) (n := (zs.length : Int)) (.inr fun o => hu (rkF_neg.2 fun j hj => by rw [← hU]; exact (HNO.out o).2 j hj)))
                have hn1 : (rkF (-1) zs k U != -1) = true := by simpa using hu
                generalize rkF (-1) zs k U = y at cu hn1
                clear hU z0 z1 I hu HNO
                go_wp2_with fail
                refine (between_any _ _ _ _).mono ?_; rw [hbt]; rintro e w5 ⟨rfl, rfl⟩
                go_wp2
                go_ret
                exact intsMade_nil HQ.out _ _ (K.trans ((below1 _ _).mono K.size))
          · obtain rfl : k = zs.length := by omega
            have hok : okZ zs := HJ.out
            have HQ := Lib.hid (rkd_yes hok)
            have I2 := I.congr (f' := rkF 0 zs zs.length) (fun u hu => (rkF_any (d := -1) (d' := 0) (okZ_all hok hu)))
            clear hok I
            go_wp2
            go_ret
            rw [HQ.out]
            exact irow_intsMade (Nat.le_refl _) I2 K
  · have hne : ((zs.length : Int) != many) = true := by simpa using fun e => h e.symm
    have HQ := Lib.hid (rkd_no (zs := zs) (n := many) (.inl h))
    clear h
    go_enter Try.func42, Try.ntmps42
    go_wp2
    go_ret
    exact intsMade_nil HQ.out _ _ (below1 _ _)

end Go.Proofs.Ytagaildnfbegkaa
