/-
  impl.shortestTo where there is no goal; slices.Repeat no times.
-/
import Derived.Test.YtagaildnfbegkabShortest
namespace Go.Proofs.Ytagaildnfbegkab
open Go.RowKit Go.Deep Go.Maps

theorem made_none (z : Value) : madeCells #[z] 0 = #[] := by
  apply Array.ext
  · simp [size_madeCells]
  · intro i h1 h2; simp at h2
set_option maxRecDepth 100000 in
set_option maxHeartbeats 2000000 in
theorem repeat_zero (b c : Nat) (w : World) :
    Calls Try.prog 69 #[.slice (some ⟨b, 0, none⟩) 1 c, .int .i64 0] w fun e w' => e = .returned (.slice (some ⟨w.heap.size, 0, none⟩) 0 0) ∧ Below w.heap.size w w' := by
  have hmk : ∀ w : World, (Instr.makeSlice 22 (.int .i64 0) (.int .i64 0)).run Try.prog w = .ok (.slice (some ⟨w.heap.size, 0, none⟩) 0 0) (w.alloc (.cells #[] 3)) := fun w => by
    have h := run_make_row' (P := Try.prog) 22 3 (.int .i64 0) 8 Try.underlying22 Try.infoInt rfl .i64 .i64 0 (by omega) (by omega) w
    rw [made_none] at h
    exact h
  have K := below1 w (.cells #[] 3)
  have HR0 : Hid ((w.alloc (.cells #[] 3)).heap[w.heap.size]? = some (.cells #[] 3)) := Lib.hid (heap_alloc_new w _)
  have h4 : IntKind.u64.wrap (0 : Int) = 0 := wrap_low 0 (by omega)
  go_enter Try.func69, Try.ntmps69
  go_wp2_with fail
  refine (mul_any 0 _ (by omega)).mono ?_; rintro e w' ⟨rfl, rfl⟩
  have HO1 : Hid (∀ v ∈ ([] : List Value), v.oneCell' = true) := Lib.hid (fun v hv => by cases hv)
  have HS1 : Hid (∀ j v, ([] : List Value)[j]? = some v → (w.alloc (.cells #[] 3)).cell? ((⟨b, 0, none⟩ : Addr).add j) = some v) := Lib.hid (fun j v hj => by simp at hj)
  have HN1 : Hid (([] : List Value).length = Nat.min 1 0) := Lib.hid rfl
  have HF1 : Hid (0 + ([] : List Value).length ≤ ([] : List Value).length) := Lib.hid (by simp)
  go_wp2_with (refine wpList_copy_splice (o := ⟨some 33, _, _, _, _, _⟩) rfl (.tmp 31) (.tmp 32) 22 22 rfl 3 Try.underlying22 sizeInt _ _ _ _ _ _ rfl rfl w.heap.size 0 [] 3 HR0.out [] HN1.out (fun _ => ⟨rfl, _, rfl, HS1.out⟩) HF1.out HO1.out w.heap.size w K (Nat.le_refl _) ?_; intro w2 HG2 K2)
  clear HG2 HR0 hmk HO1 HS1 HN1 HF1 K
  go_wp2
  refine wp_loop_rounds 1 ?_; rw [rounds_succ]
  go_wp2
  go_ret
  exact ⟨rfl, K2⟩

set_option maxRecDepth 1000000 in
set_option maxHeartbeats 4000000 in
theorem shortestTo_zero (Q : Option Addr) (cq : Nat) (w : World) :
    Calls Try.prog 56 #[.int .i64 0, .slice Q 0 cq] w (IntsMade w []) := by
  have hmk : ∀ w : World, (Instr.makeSlice 106 (.int .i64 0) (.int .i64 0)).run Try.prog w = .ok (.slice (some ⟨w.heap.size, 0, none⟩) 0 0) (w.alloc (.cells #[] 39)) := fun w => by
    have h := run_make_row' (P := Try.prog) 106 39 (.slice none 0 0) 24 Try.underlying106 Try.infoBkRow rfl .i64 .i64 0 (by omega) (by omega) w
    rw [made_none] at h
    exact h
  have K := below2 w (.cells #[] 39) (.cells #[.int .i64 (-1)] 3)
  go_enter Try.func56, Try.ntmps56
  go_wp2
  refine wp_loop_rounds 1 ?_; rw [rounds_succ]
  go_wp2_with fail
  refine (repeat_zero _ 1 _).mono ?_; rintro e w2 ⟨rfl, b2⟩
  have K2 := K.trans (b2.mono K.size)
  clear K b2 hmk
  go_wp2
  refine wp_loop_rounds 1 ?_; rw [rounds_succ]
  go_wp2
  go_ret
  exact ⟨_, _, rfl, Nat.zero_le _, fun h => by simp at h, K2⟩

end Go.Proofs.Ytagaildnfbegkab
