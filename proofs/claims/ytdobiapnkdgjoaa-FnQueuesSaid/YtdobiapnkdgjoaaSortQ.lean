/-
  What slices.SortFunc does to a row of items.
-/
import Derived.Test.YtdobiapnkdgjoaaHeapPut
import Derived.Test.YtdobiapnkdgjoaaSortShelf
namespace Go.Proofs.Ytdobiapnkdgjoaa
open Go.RowKit Go.Deep Go.Maps
open Go.Sort (SWO PermIn SortedIn ahead grow putRow mapBlock onCells Holds)
open Go.Sort (flatK get_flatK HoldsK)

def encI (x : Int × Int) : List Value := [.int .i64 x.1, .int .i64 x.2]
theorem swoI : SWO (ltOf cmpI) where
  irrefl x := by unfold ltOf; rw [decide_eq_false_iff_not, cmpI_neg]; exact ltI_irr x
  trans x y z h1 h2 := by unfold ltOf at *; rw [decide_eq_true_eq, cmpI_neg] at *; exact ltI_trans h1 h2
  ntrans x y z h1 h2 := by unfold ltOf at *; rw [decide_eq_false_iff_not, cmpI_neg] at *; exact nlt_trans h1 h2

theorem Try.isAggItem (w : World) : (isAgg 45).run Try.prog w = .ok true w := by kernel_rfl
theorem Try.sizeItem (w : World) : (Go.sizeOf 45).run Try.prog w = .ok 2 w := by kernel_rfl

set_option maxRecDepth 100000 in
set_option maxHeartbeats 2000000 in
theorem itemCmp_grow (x y x' y' : Int) (w : World) : Calls Try.prog 80 #[.agg #[.int .i64 x, .int .i64 y], .agg #[.int .i64 x', .int .i64 y']] w fun e w' => e = .returned (.int .i64 (cmpI (x, y) (x', y'))) ∧ ∃ q os', w' = grow (w.drewN q) os' := by
  have T : TwoS w.heap.size (w.heap.size + 1) x y x' y' ((w.alloc (.cells #[.int .i64 x, .int .i64 y] 45)).alloc (.cells #[.int .i64 x', .int .i64 y'] 45)) := by
    obtain ⟨a0, a1, -, -⟩ := ((Pair.new w 45 (.int .i64 x) (.int .i64 y)).alloc (.cells #[.int .i64 x', .int .i64 y'] 45)).cells
    obtain ⟨b0, b1, -, -⟩ := (Pair.new (w.alloc (.cells #[.int .i64 x, .int .i64 y] 45)) 45 (.int .i64 x') (.int .i64 y')).cells
    rw [World.size_alloc] at b0 b1
    exact ⟨⟨a0, a1⟩, b0, b1⟩
  obtain ⟨W, hW⟩ : ∃ W, W = (w.alloc (.cells #[.int .i64 x, .int .i64 y] 45)).alloc (.cells #[.int .i64 x', .int .i64 y'] 45) := ⟨_, rfl⟩
  rw [← hW] at T
  have HW := Lib.hid hW
  clear hW
  have HG : Hid (∃ q os', (W.alloc (.cells #[.int .i64 (cp x x'), .int .i64 (cp y y')] 3)).drew = grow (w.drewN q) os') := Lib.hid ⟨1, _, by rw [HW.out, Go.Sort.alloc_eq_grow, Go.Sort.alloc_eq_grow, Go.Sort.alloc_eq_grow, Go.Sort.grow_grow, Go.Sort.grow_grow]; rfl⟩
  go_enter Try.func80, Try.ntmps80
  go_wp2_with fail
  rw [← HW.out]
  clear HW
  go_region_held3 (fun w' => TwoS w.heap.size (w.heap.size + 1) x y x' y' w')
    (first | exact T | exact TwoS.under (w := W) ((below1 W _).drew) T | assumption)
    (first
      | (go_at_call 125; refine (compare_int _ _ _).mono ?_; rintro e w1 ⟨rfl, rfl⟩)
      | (go_at_call 124; refine (or_two W.heap.size (cp x x') (cp y y') _ (two_new W _ _).1 (two_new W _ _).2).mono ?_; rintro e w2 ⟨rfl, rfl⟩))
  go_wp2
  go_ret
  exact ⟨rfl, HG.out⟩

theorem arr_ptg (l : List (Int × Int)) (i : Nat) : l.toArray[i]! = ptg l i := by
  unfold ptg
  rw [List.getD_eq_getElem?_getD]
  by_cases h : i < l.length
  · simp [h]
  · simp [h]; rfl
theorem flat_at (l : List (Int × Int)) (j : Nat) (hj : j < l.length * 2) : (flatK encI 2 l.toArray)[j]! = .int .i64 (flatP l j) := by
  rw [get_flatK _ _ _ _ (by simpa using hj), arr_ptg]
  unfold flatP encI
  by_cases h : j % 2 = 0
  · rw [if_pos h, h]; rfl
  · rw [if_neg h, show j % 2 = 1 by omega]; rfl

theorem holdsI {w : World} {base g cap : Nat} {q : List (Int × Int)} (own : w.ownsRow base 45 2 (.slice (some ⟨g, 0, none⟩) q.length cap) q.length (cellsP q)) : HoldsK encI 2 w g 0 q.toArray := fun j hj => by
  have hj' : j < q.length * 2 := by simpa using hj
  rcases own.2 with ⟨h1, -⟩ | ⟨g', cap', cur, h1, h2, h3, h4, h5, h6, h7⟩
  · cases h1
  · injection h1 with h1
    injection h1 with h1
    injection h1 with h1
    subst h1
    rw [flat_at q j hj', Nat.zero_add, cell_of_block h3]
    refine ⟨?_, frozen_of_block h3⟩
    have e : (cur.toList.take (q.length * 2))[j]? = (cellsP q)[j]? := by rw [h7]
    rw [List.getElem?_take, if_pos hj', Array.getElem?_toList] at e
    rw [e, cellsP_get q j hj']; rfl

set_option maxRecDepth 100000 in
theorem own_sorted {w : World} {base g cap m : Nat} {q : List (Int × Int)} {d' : Array (Int × Int)} {os : Array Obj} (own : w.ownsRow base 45 2 (.slice (some ⟨g, 0, none⟩) q.length cap) q.length (cellsP q)) (hs : d'.size = q.length) :
    (sortWorldK encI 2 w g 0 m d' os).ownsRow base 45 2 (.slice (some ⟨g, 0, none⟩) q.length cap) q.length (cellsP d'.toList) ∧ w.grownBy (sortWorldK encI 2 w g 0 m d' os) (some g) := by
  have hH := holdsI own
  rcases own.2 with ⟨h1, -⟩ | ⟨g', cap', cur, h1, h2, h3, h4, h5, h6, h7⟩
  · cases h1
  injection h1 with h1 _ h1c
  injection h1 with h1
  injection h1 with h1
  subst h1 h1c
  have hgl : g < w.heap.size := (Array.getElem?_eq_some_iff.1 h3).1
  have hH' := holdsK_sortWorldK_c encI 2 w g 0 q.toArray d' m os hH hgl (by simpa using hs)
  have hheap : (sortWorldK encI 2 w g 0 m d' os).heap = w.heap.modify g (onCells (Go.Sort.putCells id 0 (flatK encI 2 d'))) ++ os := rfl
  have hb : (sortWorldK encI 2 w g 0 m d' os).heap[g]? = some (.cells (Go.Sort.putCells id 0 (flatK encI 2 d') cur) 45 (0, 0)) := by
    rw [hheap, Array.getElem?_append_left (by simpa using hgl), Array.getElem?_modify, if_pos rfl, h3]; rfl
  have hsz : (Go.Sort.putCells id 0 (flatK encI 2 d') cur).size = cur.size := by simp [Go.Sort.putCells]
  refine ⟨⟨by rw [cellsP_len]; simp [hs], .inr ⟨g, cap, _, rfl, h2, hb, h4, h5, by rw [hsz]; exact h6, ?_⟩⟩, ⟨rfl, rfl, rfl, by rw [hheap]; simp, fun k hk hne => ?_⟩⟩
  · apply List.ext_getElem?
    intro j
    by_cases hj : j < q.length * 2
    · have := (hH' j (by simp [hs]; omega)).1
      rw [Nat.zero_add, cell_of_block hb] at this
      rw [List.getElem?_take, if_pos hj, Array.getElem?_toList, this, cellsP_get _ j (by simp [hs]; omega)]
      have e := flat_at d'.toList j (by simp [hs]; omega)
      rw [Array.toArray_toList] at e
      exact congrArg some e
    · rw [List.getElem?_take, if_neg hj, List.getElem?_eq_none (by rw [cellsP_len]; simp [hs]; omega)]
  · rw [hheap, Array.getElem?_append_left (by simpa using hk), Array.getElem?_modify, if_neg (fun e => hne (by rw [e]))]

/-- Items in ascending order. -/
def Asc (q : List (Int × Int)) : Prop := ∀ i j, i < j → j < q.length → ¬ ltI (ptg q j) (ptg q i)

theorem sortIts_any (w : World) (base g cap : Nat) (q : List (Int × Int)) (hn : q.length ≤ 4194304) (own : w.ownsRow base 45 2 (.slice (some ⟨g, 0, none⟩) q.length cap) q.length (cellsP q)) :
    Calls Try.prog 79 #[.slice (some ⟨g, 0, none⟩) q.length cap, .func (.func 80) #[] #[]] w fun e w' => e = .returned (.tuple #[]) ∧ ∃ q', q'.length = q.length ∧ q'.Perm q ∧ Asc q' ∧ w'.ownsRow base 45 2 (.slice (some ⟨g, 0, none⟩) q.length cap) q.length (cellsP q') ∧ w.grownBy w' (some g) := by
  have hgl : g < w.heap.size := by
    have := World.ownsRow.lt own g rfl; exact this.2
  have h := AnyQ.slices_SortFunc Try.laysSort 2 Try.isAggItem Try.sizeItem encI (fun _ => rfl) (fun x v hv => by simp [encI] at hv; rcases hv with rfl | rfl <;> rfl) cmpI swoI 80 #[] g 0 cap q.toArray w (enters_of Try.func80 (by kernel_rfl) rfl) (fun _ _ _ _ x y => itemCmp_grow x.1 x.2 y.1 y.2 _) (holdsI own) hgl (by simp; omega)
  have e : q.toArray.size = q.length := by simp
  rw [e] at h
  refine Calls.mono h fun e w' ⟨he, d', m, os, hp, hsd, hw⟩ => ?_
  have hs : d'.size = q.length := by have := hp.1; simpa using this
  obtain ⟨o1, o2⟩ := own_sorted (m := m) (os := os) own hs
  subst hw
  refine ⟨he, d'.toList, by simp [hs], ?_, fun i j hij hj => ?_, o1, o2⟩
  · have := hp.2.2
    rw [show d'.extract 0 q.length = d' by rw [← hs]; simp, show q.toArray.extract 0 q.length = q.toArray by simp] at this
    simpa using this
  · have hj' : j < q.length := by simpa [hs] using hj
    have := hsd i j (Nat.zero_le _) hij hj'
    unfold ltOf at this
    rw [decide_eq_false_iff_not, cmpI_neg] at this
    have e1 := arr_ptg d'.toList i
    have e2 := arr_ptg d'.toList j
    rw [Array.toArray_toList] at e1 e2
    rw [← e1, ← e2]; exact this

end Go.Proofs.Ytdobiapnkdgjoaa
