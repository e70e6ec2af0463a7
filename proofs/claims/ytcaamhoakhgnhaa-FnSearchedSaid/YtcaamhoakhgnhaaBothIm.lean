/-
  What slices.Index of a number, impl.Seen.distOf compute.
-/
import Derived.Test.YtcaamhoakhgnhaaBothSp
import Derived.Test.YtcaamhoakhgnhaaFarIm
namespace Go.Proofs.Ytcaamhoakhgnhaa
open Go.RowKit Go.Deep Go.Maps

theorem keyOf_at : ∀ (R : List (Int × Int)) (u : Int) (K : Nat), K < R.length → zg (idsL R) K = u → (∀ j, j < K → zg (idsL R) j ≠ u) → keyOf R u = zg (keysL R) K
  | [], _, K, h, _, _ => by simp at h
  | q :: R, u, 0, _, h, _ => by
    have e : q.2 = u := h
    unfold keyOf; rw [List.find?_cons, show (q.2 == u) = true by simpa using e]; rfl
  | q :: R, u, K + 1, hK, h, hno => by
    have e : q.2 ≠ u := hno 0 (by omega)
    have ih := keyOf_at R u K (by simpa using hK) h (fun j hj => hno (j + 1) (by omega))
    unfold keyOf at ih ⊢
    rw [List.find?_cons, show (q.2 == u) = false by simpa using e]
    exact ih
theorem keyOf_none {R : List (Int × Int)} {u : Int} (h : ∀ j, j < R.length → zg (idsL R) j ≠ u) : keyOf R u = -1 := keyOf_no fun p hp => by
  obtain ⟨j, hj, rfl⟩ := List.getElem_of_mem hp
  have := h j hj
  unfold zg idsL at this
  rw [List.getD_eq_getElem?_getD, List.getElem?_map, List.getElem?_eq_getElem hj] at this
  exact this

set_option maxHeartbeats 1000000 in
theorem indexInts_no (A : Option Addr) (ca : Nat) (zs : List Int) (x : Int) (w : World) (hn : zs.length ≤ 1048576) (hno : ∀ j, j < zs.length → zg zs j ≠ x) (h : IsInts w A zs) :
    Calls Try.prog 67 #[.slice A zs.length ca, .int .i64 x] w fun e w' => e = .returned (.int .i64 (-1)) ∧ w = w' := by
  have HNO := Lib.hid hno
  clear hno
  go_enter Try.func67, Try.ntmps67
  go_wp2
  go_loopw [8] (fun i wr => ∃ k : Nat, k ≤ zs.length ∧ i = .int .i64 k ∧ wr = w) (fun i _ => zs.length - (intOf i).toNat)
  case atStart => exact ⟨0, by omega, rfl, rfl⟩
  case round =>
    obtain ⟨k, hk, rfl, rfl⟩ := hrel
    by_cases hlt : k < zs.length
    · obtain ⟨b, off, rfl, hb, ck⟩ := h.at_ (k := k) hlt
      have hkl2 : (k : Int) < zs.length := by omega
      have hne := HNO.out k hlt
      obtain ⟨z, hz⟩ : ∃ z, z = zg zs k := ⟨_, rfl⟩
      rw [← hz] at ck hne
      clear hz
      have hxx : (x == z) = false := by simp; exact fun h => hne h.symm
      go_wp2
      go_roundw
      case rel => exact ⟨k + 1, by omega, by go_num, by first | rfl | trivial⟩
      case measure => simp [intOf]; omega
    · obtain rfl : k = zs.length := by omega
      go_wp2
      go_ret
      exact ⟨rfl, rfl⟩

set_option maxHeartbeats 1000000 in
theorem distOf_any (A1 A2 : Option Addr) (c1 c2 : Nat) (R : List (Int × Int)) (u : Int) (w : World) (hn : R.length ≤ 1048576) (h1 : IsInts w A1 (idsL R)) (h2 : IsInts w A2 (keysL R)) :
    Calls Try.prog 37 #[.agg #[.slice A1 R.length c1, .slice A2 R.length c2], .int .i64 u] w fun e w' => e = .returned (.int .i64 (keyOf R u)) ∧ Below w.heap.size w w' := by
  have HI : Hid ((idsL R).length = R.length) := Lib.hid (by simp [idsL])
  have HK : Hid ((keysL R).length = R.length) := Lib.hid (by simp [keysL])
  have X := Pair.new w 42 (.slice A1 R.length c1) (.slice A2 R.length c2)
  have K := below1 w (.cells #[.slice A1 R.length c1, .slice A2 R.length c2] 42)
  have g1 := h1.below K
  have g2 := h2.below K
  by_cases g : ∃ j, j < R.length ∧ zg (idsL R) j = u
  · obtain ⟨j0, hj0, ej0⟩ := g
    obtain ⟨q, q1, q2, q3⟩ := least_of (fun j => decide (zg (idsL R) j = u)) j0 (decide_eq_true ej0)
    have hq : q < R.length := by omega
    have HQ := Lib.hid (keyOf_at R u q hq (of_decide_eq_true q2) (fun j hj => of_decide_eq_false (q3 j hj)))
    have HX := Lib.hid (fun (V : World) (hV : IsInts V A1 (idsL R)) => indexInts_at A1 c1 q (idsL R) u V (by rw [HI.out]; exact hn) (by rw [HI.out]; exact hq) (of_decide_eq_true q2) (fun j hj => of_decide_eq_false (q3 j hj)) hV)
    rw [HI.out] at HX
    obtain ⟨b, off, rfl, hb, cq⟩ := g2.at_ (k := q) (by rw [HK.out]; exact hq)
    rw [← HQ.out] at cq
    have hqi : (q : Int) < R.length := by omega
    have hq0 : ¬ ((q : Int) < 0) := by omega
    clear q2 q3 ej0 hj0 q1
    obtain ⟨x0, x1, -, -⟩ := X.cells
    go_enter Try.func37, Try.ntmps37
    go_wp2_with fail
    refine (HX.out _ g1).mono ?_; rintro e w1 ⟨rfl, rfl⟩
    go_wp2
    go_ret
    exact ⟨rfl, K⟩
  · have hno : ∀ j, j < R.length → zg (idsL R) j ≠ u := fun j hj e => g ⟨j, hj, e⟩
    have HQ := Lib.hid (keyOf_none hno)
    have HX := Lib.hid (fun (V : World) (hV : IsInts V A1 (idsL R)) => indexInts_no A1 c1 (idsL R) u V (by rw [HI.out]; exact hn) (by rw [HI.out]; exact hno) hV)
    rw [HI.out] at HX
    clear g hno
    obtain ⟨x0, x1, -, -⟩ := X.cells
    go_enter Try.func37, Try.ntmps37
    go_wp2_with fail
    refine (HX.out _ g1).mono ?_; rintro e w1 ⟨rfl, rfl⟩
    go_wp2
    go_ret
    rw [HQ.out]
    exact ⟨rfl, K⟩
end Go.Proofs.Ytcaamhoakhgnhaa
