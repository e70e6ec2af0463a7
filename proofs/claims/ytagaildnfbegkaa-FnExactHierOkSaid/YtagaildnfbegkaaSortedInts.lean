/-
  What slices.Sort and slices.Sorted over slices.Values do with integers, and what impl.isOrder answers.
-/
import Derived.Test.YtagaildnfbegkaaValuesInts
import Derived.Test.YtagaildnfbegkaaOrderM
import Derived.Test.YtagaildnfbegkaaShelf
namespace Go.Proofs.Ytagaildnfbegkaa
open Go.RowKit Go.Deep Go.Sort

theorem sort_holds {w : World} {g off : Nat} {zs : List Int} (h : OwnAt w g 3 off zs.length (zg zs)) : Holds (Value.int .i64) w g off zs.toArray := fun j hj => by
  have hj' : j < zs.length := by simpa using hj
  refine ⟨?_, OwnAt.frozen h _⟩
  rw [h.cell hj', zg_at hj']
  simp [hj']
theorem sort_own {w : World} {g off n : Nat} {zs : List Int} {os : Array Obj} (h : OwnAt w g 3 off zs.length (zg zs)) : OwnAt (grow (putRow (Value.int .i64) (Sort.ahead w n) g off (sortZ zs).toArray) os) g 3 off zs.length (zg (sortZ zs)) := by
  have hg := h.lt
  obtain ⟨cur, h1, h2, h3⟩ := h
  refine ⟨putCells (Value.int .i64) off (sortZ zs).toArray cur, ?_, by simp [putCells]; omega, fun j hj => ?_⟩
  · rw [heap_grow_old _ _ (by simpa using hg)]
    simp [putRow, mapBlock, Sort.ahead, Array.getElem?_modify, h1, onCells]
  · have hl : j < (sortZ zs).length := by rw [sortZ_len]; exact hj
    rw [zg_at hl]
    simp [putCells, hl, show off + j < cur.size by omega]
theorem sort_below {w : World} {g off n base : Nat} {d : Array Int} {os : Array Obj} (hb : base ≤ g) (hs : base ≤ w.heap.size) : Below base w (grow (putRow (Value.int .i64) (Sort.ahead w n) g off d) os) :=
  ⟨rfl, rfl, rfl, by simp, fun k hk => by
    rw [heap_grow_old _ _ (by simp; omega)]
    have : g ≠ k := by omega
    simp [putRow, mapBlock, Sort.ahead, Array.getElem?_modify, this]⟩

/-- slices.Sort over a list of the call's own. -/
theorem sort_any (A : Option Addr) (cap base : Nat) (zs : List Int) (w : World) (hz : zs.length ≤ 1048576) (hs : base ≤ w.heap.size) (h : OwnSl w base 3 A zs.length (zg zs)) :
    Calls Try.prog 102 #[.slice A zs.length cap] w fun e w' => e = .returned (.tuple #[]) ∧ OwnSl w' base 3 A zs.length (zg (sortZ zs)) ∧ Below base w w' := by
  rcases Nat.eq_zero_or_pos zs.length with h0 | h0
  · rw [h0]
    refine (Try.slices_Sort_int_none A cap w).mono ?_
    rintro e w' ⟨rfl, rfl⟩
    exact ⟨rfl, fun hp => by omega, Below.refl _ _⟩
  · obtain ⟨g, off, rfl, hg, hO⟩ := h h0
    refine (Try.slices_Sort_int g off cap zs w (sort_holds hO) hO.lt (by omega)).mono ?_
    rintro e w' ⟨rfl, n, os, rfl⟩
    exact ⟨rfl, fun _ => ⟨g, off, rfl, hg, sort_own hO⟩, sort_below hg hs⟩

set_option maxRecDepth 100000 in
set_option maxHeartbeats 4000000 in
/-- slices.Sorted(slices.Values(zs)): the list, sorted, in memory of the call's own. -/
theorem sorted_any (bs : Nat) (R : Option Addr) (cr : Nat) (zs : List Int) (w0 w : World) (hz : zs.length ≤ 1048576) (h0 : Below w0.heap.size w0 w) (hb : bs < w.heap.size) (c0 : w.cell? ⟨bs, 0, none⟩ = some (.slice R zs.length cr)) (hi : IsInts w0 R zs) :
    Calls Try.prog 82 #[.func (.func 103) #[] #[.pointer (some ⟨bs, 0, none⟩)]] w (IntsMade w (sortZ zs)) := by
  have b4 := below1 w (.cells #[.slice none 0 0] 24)
  have F := Boxed.new w 24 (.slice none 0 0)
  have HC := Lib.hid (collect_any (N := zs.length) 103 #[.pointer (some ⟨bs, 0, none⟩)] w (enters_of Try.func103 (by kernel_rfl) rfl) (by omega)
    (values_stops 8 bs R cr zs hz w.heap.size w0 _ (h0.trans (b4.mono h0.size)) h0.size F.lt (fun u v e => by have := F.symm.trans e; simp at this; rw [← this.1]; rfl) (by omega) (cell_under b4 c0) hi))
  clear b4 F c0 hi
  go_enter Try.func82, Try.ntmps82
  go_wp2_with fail
  refine HC.out.mono ?_; rintro e w1 ⟨xs, rfl, A1, c1, rfl, h1, h2, h3⟩
  go_wp2_with fail
  refine (sort_any A1 c1 w.heap.size xs w1 hz h3.size h2).mono ?_; rintro e w2 ⟨rfl, h4, h5⟩
  have K := h3.trans h5
  have HL := Lib.hid (sortZ_len xs)
  go_wp2
  go_ret
  exact ⟨A1, c1, by rw [HL.out]; rfl, by rw [HL.out]; exact h1, by rw [HL.out]; exact h4, K⟩

open Classical in
set_option maxRecDepth 100000 in
set_option maxHeartbeats 4000000 in
theorem isOrder_any (R : Option Addr) (cr : Nat) (zs : List Int) (many : Int) (w : World) (hz : zs.length ≤ 1048576) (hi : IsInts w R zs) :
    Calls Try.prog 52 #[.slice R zs.length cr, .int .i64 many] w fun e w' => e = .returned (.bool (decide (many = zs.length ∧ okZ zs))) ∧ Below w.heap.size w w' := by
  generalize hbo : decide (many = (zs.length : Int) ∧ okZ zs) = bo
  have HBO := Lib.hid hbo
  clear hbo
  have hb0 := below1 w (.cells #[.slice R zs.length cr] 24)
  have F := (Boxed.new w 24 (.slice R zs.length cr)).cell
  have hs0 : w.heap.size < (w.alloc (.cells #[.slice R zs.length cr] 24)).heap.size := by rw [World.size_alloc]; omega
  go_enter Try.func52, Try.ntmps52
  go_wp2_with fail
  refine (values_any R zs.length cr w).mono ?_; rintro e w1 ⟨rfl, hw1⟩
  rw [← hw1] at hb0 F hs0
  have HSO := Lib.hid (sorted_any w.heap.size R cr zs w w1 hz hb0 hs0 F hi)
  clear hw1 F hs0
  go_wp2_with fail
  refine HSO.out.mono ?_; rintro e w2 ⟨A2, c2, rfl, hc2, O2, b2⟩
  have I2 := OwnSl.ints O2
  have K := hb0.trans (b2.mono hb0.size)
  have HL := Lib.hid (sortZ_len zs)
  rw [HL.out]
  clear HSO O2 b2 hb0 hc2
  go_wp2
  go_loopw [11] (fun vi wr => ∃ i : Nat, i ≤ zs.length ∧ vi = .int .i64 i ∧ Hid (∀ j, j < i → zg (sortZ zs) j = j) ∧ wr = w2) (fun i _ => zs.length - (intOf i).toNat)
  case atStart => exact ⟨0, by omega, rfl, Lib.hid (fun j hj => by omega), rfl⟩
  case round =>
    obtain ⟨i, hi', rfl, HJ, rfl⟩ := hrel
    by_cases hlt : i < zs.length
    · have hili : (i : Int) < zs.length := by omega
      obtain ⟨b, off, rfl, hb, ci⟩ := I2.at_ (k := i) (by rw [HL.out]; exact hlt)
      by_cases he : zg (sortZ zs) i = i
      · have HJ2 : Hid (∀ j, j < i + 1 → zg (sortZ zs) j = j) := Lib.hid (fun j hj => by
          by_cases e : j = i
          · rw [e]; exact he
          · exact HJ.out j (by omega))
        rw [he] at ci
        have hne : ((i : Int) != (i : Int)) = false := by simp
        clear he
        go_wp2
        go_roundw
        case rel => exact ⟨i + 1, by omega, by go_num, HJ2, by first | rfl | trivial⟩
        case measure => simp [intOf]; omega
      · have hne : (zg (sortZ zs) i != (i : Int)) = true := by simpa using he
        have hdec : bo = false := by rw [← HBO.out]; exact decide_eq_false (fun h => he (okZ_sorted.1 h.2 i hlt))
        subst hdec
        generalize zg (sortZ zs) i = x at ci hne
        clear he
        go_wp2
        go_ret
        exact ⟨rfl, K⟩
    · obtain rfl : i = zs.length := by omega
      have hok : okZ zs := okZ_sorted.2 HJ.out
      have hdec : bo = ((zs.length : Int) == many) := by
        rw [← HBO.out]
        by_cases e : many = zs.length
        · rw [decide_eq_true (show many = (zs.length : Int) ∧ okZ zs from ⟨e, hok⟩), e]; simp
        · rw [decide_eq_false (fun h => e h.1)]; symm; rw [beq_eq_false_iff_ne]; exact fun h => e h.symm
      clear hok I2
      have HD := Lib.hid hdec
      clear hdec
      go_wp2
      go_ret
      exact ⟨by rw [HD.out]; first | rfl | simp, K⟩

end Go.Proofs.Ytagaildnfbegkaa
