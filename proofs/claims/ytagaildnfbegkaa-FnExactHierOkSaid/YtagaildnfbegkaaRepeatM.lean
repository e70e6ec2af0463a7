/-
  What slices.Repeat computes: a row of one great number.
-/
import Derived.Test.YtagaildnfbegkaaRepeat
namespace Go.Proofs.Ytagaildnfbegkaa
open Go.RowKit Go.Deep

/-- A row of n numbers of which the first k are 2000000 and the others 0. -/
def repM (n k : Nat) : List Value := (List.range n).map fun j => Value.int .i64 (if j < k then 2000000 else 0)
theorem repM_len (n k : Nat) : (repM n k).length = n := by unfold repM; simp
theorem repM_get {n k j : Nat} (hj : j < n) : (repM n k)[j]? = some (.int .i64 (if j < k then 2000000 else 0)) := by unfold repM; simp [hj]
theorem repM_made (n : Nat) : madeCells #[Value.int .i64 0] n = (repM n 0).toArray := by
  apply Array.ext
  · simp [size_madeCells, repM]
  · intro i h1 h2
    have hi : i < n := by simpa [size_madeCells] using h1
    simp [madeCells, repM, Nat.mod_one]
theorem repM_splice {n k m : Nat} (h : k + m ≤ n) : splice (repM n k) k (List.replicate m (Value.int .i64 2000000)) = repM n (k + m) := by
  apply List.ext_getElem?
  intro j
  unfold splice
  rcases Nat.lt_or_ge j k with h1 | h1
  · rw [List.getElem?_append_left (by simp [repM_len]; omega), List.getElem?_take, if_pos h1, repM_get (by omega), repM_get (by omega), if_pos h1, if_pos (by omega)]
  · rw [List.getElem?_append_right (by simp [repM_len]; omega)]
    have e : (List.take k (repM n k)).length = k := by simp [repM_len]; omega
    rw [e]
    rcases Nat.lt_or_ge j (k + m) with h2 | h2
    · rw [List.getElem?_append_left (by simp; omega), List.getElem?_replicate, if_pos (by omega), repM_get (by omega), if_pos h2]
    · rw [List.getElem?_append_right (by simp; omega), List.length_replicate, List.getElem?_drop]
      rw [show k + m + (j - k - m) = j by omega]
      rcases Nat.lt_or_ge j n with h3 | h3
      · rw [repM_get h3, repM_get h3, if_neg (by omega), if_neg (by omega)]
      · rw [List.getElem?_eq_none (by rw [repM_len]; exact h3), List.getElem?_eq_none (by rw [repM_len]; exact h3)]
/-- Block g holds them. -/
def RepMRow (w : World) (g n k : Nat) : Prop := w.heap[g]? = some (.cells (repM n k).toArray 3 (0, 0))
theorem RepMRow.lt {w : World} {g n k : Nat} (h : RepMRow w g n k) : g < w.heap.size := (Array.getElem?_eq_some_iff.1 h).1
theorem RepMRow.cell {w : World} {g n k j : Nat} (h : RepMRow w g n k) (hj : j < k) (hn : j < n) : w.cell? ⟨g, j, none⟩ = some (.int .i64 2000000) := by
  rw [cell_of_block h]; simp [repM, hn, hj]
theorem RepMRow.irow {w : World} {g n : Nat} (h : RepMRow w g n n) : IRow w g n (fun _ => 2000000) := ⟨_, h, by simp [repM_len], fun i hi => by simp [repM, hi]⟩
set_option maxRecDepth 100000 in
set_option maxHeartbeats 2000000 in
theorem repeatM_any (b c n : Nat) (w : World) (hn : n ≤ 20) (h0 : 0 < n) (hc : w.cell? ⟨b, 0, none⟩ = some (.int .i64 2000000)) :
    Calls Try.prog 72 #[.slice (some ⟨b, 0, none⟩) 1 c, .int .i64 (n : Int)] w fun e w' => e = .returned (.slice (some ⟨w.heap.size, 0, none⟩) n n) ∧ IRow w' w.heap.size n (fun _ => 2000000) ∧ Below w.heap.size w w' := by
  have hmk := run_make_row' (P := Try.prog) 24 3 (.int .i64 0) 8 Try.underlying24 Try.infoInt rfl .i64 .i64 n (by omega) (by omega)
  have K := below1 w (.cells (madeCells #[.int .i64 0] n) 3)
  have R0 : RepMRow (w.alloc (.cells (madeCells #[.int .i64 0] n) 3)) w.heap.size n 0 := by unfold RepMRow; rw [← repM_made]; exact heap_alloc_new w _
  have hc1 : (w.alloc (.cells (madeCells #[.int .i64 0] n) 3)).cell? ⟨b, 0, none⟩ = some (.int .i64 2000000) := cell_under K hc
  have h4 : IntKind.u64.wrap (n : Int) = n := wrap_low n (by omega)
  have HR0 := Lib.hid R0
  clear R0
  go_enter Try.func72, Try.ntmps72
  go_wp2_with fail
  refine (mul_any n _ (by omega)).mono ?_; rintro e w' ⟨rfl, rfl⟩
  obtain ⟨CS, hCS⟩ : ∃ CS, CS = List.replicate 1 (Value.int .i64 2000000) := ⟨_, rfl⟩
  have hl1 : CS.length = 1 := by rw [hCS]; rfl
  have hn1 : CS.length = Nat.min 1 n := by rw [hl1]; exact (Nat.min_eq_left h0).symm
  have ho1 : ∀ v ∈ CS, v.oneCell' = true := by rw [hCS]; intro v hv; rw [List.eq_of_mem_replicate hv]; rfl
  have hs1 : ∀ j v, CS[j]? = some v → (w.alloc (.cells (madeCells #[.int .i64 0] n) 3)).cell? ((⟨b, 0, none⟩ : Addr).add j) = some v := by
    intro j v hj
    rw [hCS] at hj
    have hj0 : j = 0 := by have := (List.getElem?_eq_some_iff.1 hj).1; simpa using this
    subst hj0
    have hv : Value.int .i64 2000000 = v := by simpa using hj
    rw [Addr.add_lit, ← hv]; exact hc1
  have hf1 : 0 + CS.length ≤ (repM n 0).length := by rw [hl1, repM_len]; omega
  have HS1 := Lib.hid hs1
  have HCS := Lib.hid hCS
  have HN1 := Lib.hid hn1
  have HL1 := Lib.hid hl1
  have HF1 := Lib.hid hf1
  have HO1 := Lib.hid ho1
  clear hs1 hCS hn1 hl1 hf1 ho1 hc1
  go_wp2_with (refine wpList_copy_splice (o := ⟨some 33, _, _, _, _, _⟩) rfl (.tmp 31) (.tmp 32) 24 24 rfl 3 Try.underlying24 sizeInt _ _ _ _ _ _ rfl rfl w.heap.size 0 (repM n 0) 3 HR0.out CS HN1.out (fun _ => ⟨rfl, _, rfl, HS1.out⟩) HF1.out HO1.out w.heap.size w K (Nat.le_refl _) ?_; rw [HL1.out]; intro w2 HG2 K2)
  have R : RepMRow w2 w.heap.size n 1 := by have := HG2.out; rw [HCS.out, repM_splice (by omega)] at this; exact this
  clear HG2 HR0 K hmk HS1 HCS HN1 HL1 HF1 HO1
  go_loopw [8] (fun i wr => ∃ k : Nat, 1 ≤ k ∧ k ≤ n ∧ i = .int .i64 k ∧ RepMRow wr w.heap.size n k ∧ Below w.heap.size w wr) (fun i _ => n - (intOf i).toNat)
  case atStart => exact ⟨1, by omega, h0, rfl, R, K2⟩
  case round =>
    clear R K2
    obtain ⟨k, hk1, hkn, rfl, R, K⟩ := hrel
    by_cases hlt : k < n
    · obtain ⟨m, hm⟩ : ∃ m, m = Nat.min k (n - k) := ⟨_, rfl⟩
      have hm1 : m ≤ k := by rw [hm]; exact Nat.min_le_left _ _
      have hm2 : m ≤ n - k := by rw [hm]; exact Nat.min_le_right _ _
      have hm3 : 1 ≤ m := by rw [hm]; exact Nat.le_min.2 ⟨by omega, by omega⟩
      obtain ⟨CS, hCS⟩ : ∃ CS, CS = List.replicate m (Value.int .i64 2000000) := ⟨_, rfl⟩
      have hl1 : CS.length = m := by rw [hCS]; simp
      have HN1 : Hid (CS.length = Nat.min k (n - k)) := Lib.hid (by rw [hl1]; exact hm)
      have HO1 : Hid (∀ v ∈ CS, v.oneCell' = true) := Lib.hid (by rw [hCS]; intro v hv; rw [List.eq_of_mem_replicate hv]; rfl)
      replace R : RepMRow wr.drew w.heap.size n k := R
      replace K := K.drew
      have HS1 : Hid (∀ j v, CS[j]? = some v → wr.drew.cell? ((⟨w.heap.size, 0, none⟩ : Addr).add j) = some v) := Lib.hid (by
        intro j v hj
        rw [hCS, List.getElem?_replicate] at hj
        split at hj
        · rename_i hjm
          have hv : Value.int .i64 2000000 = v := by simpa using hj
          rw [Addr.add_lit, ← hv, Nat.zero_add]; exact R.cell (by omega) (by omega)
        · cases hj)
      have HF1 : Hid (k + CS.length ≤ (repM n k).length) := Lib.hid (by rw [hl1, repM_len]; omega)
      have HCS := Lib.hid hCS
      have HL1 := Lib.hid hl1
      have HR := Lib.hid R
      clear hCS hl1 hm R
      obtain ⟨w3, hcp, R3, K3⟩ : ∃ w3, Sem.run Try.prog (Builtin.copy_ #[24, 24] 3 #[.slice (some ⟨w.heap.size, k, none⟩) (n - k) (n - k), .slice (some ⟨w.heap.size, 0, none⟩) k n]) wr.drew = Result.ok (.int .i64 (m : Int)) w3 ∧ RepMRow w3 w.heap.size n (k + m) ∧ Below w.heap.size w w3 := by
        have hr := run_copy_row (P := Try.prog) wr.drew 24 24 3 3 w.heap.size k (n - k) (n - k) ⟨w.heap.size, 0, none⟩ k n (repM n k).toArray 3 CS Try.underlying24 sizeInt HR.out HN1.out HS1.out (by simpa using HF1.out) HO1.out
        rw [HL1.out] at hr
        refine ⟨_, hr, ?_, below_setRow K (Nat.le_refl _) _⟩
        have h := setRow_heap wr.drew w.heap.size (repM n k).toArray (repM n (k + m)).toArray 3 _ HR.out
        rw [← repM_splice (show k + m ≤ n by omega), ← HCS.out] at h
        have e : (splice (repM n k) k CS).toArray = (List.take k (repM n k).toArray.toList ++ CS ++ List.drop (k + m) (repM n k).toArray.toList).toArray := by
          unfold splice; rw [HL1.out, List.append_assoc]
        unfold RepMRow
        rw [← repM_splice (show k + m ≤ n by omega), ← HCS.out]
        rw [e] at h ⊢
        exact h
      clear HS1 HCS HN1 HL1 HF1 HO1 HR
      have hwr : IntKind.i64.wrap ((k : Int) + (m : Int)) = (k : Int) + (m : Int) := by rw [IntWalk.i64_left]; unfold wrap64; omega
      go_wp2_with fail
      go_region_held3 (fun w' => Below w.heap.size w w') (first | exact K | exact K3 | assumption) (fail)
      all_goals (
        clear hcp K
        go_wp2
        go_roundw
        case rel => exact ⟨k + m, by omega, by omega, by go_num, R3, K3⟩
        case measure => simp [intOf]; omega)
    · obtain rfl : k = n := by omega
      go_wp2
      go_ret
      exact ⟨rfl, R.irow, K⟩

theorem mul_zero_any (w : World) :
    Calls Try.prog 99 #[.int .u64 1, .int .u64 0] w fun e w' => e = .returned (.tuple #[.int .u64 0, .int .u64 0]) ∧ w = w' := by
  have h := mul_any 0 w (by omega)
  simpa using h
set_option maxRecDepth 100000 in
/-- No times. -/
theorem repeatM_none (b c : Nat) (w : World) :
    Calls Try.prog 72 #[.slice (some ⟨b, 0, none⟩) 1 c, .int .i64 0] w fun e w' => (∃ A, e = .returned (.slice A 0 0)) ∧ Below w.heap.size w w' := by
  have hmk : ∀ V : World, (Instr.makeSlice 24 (.int .i64 0) (.int .i64 0)).run Try.prog V = .ok (.slice (some ⟨V.heap.size, 0, none⟩) 0 0) (V.alloc (.cells (repM 0 0).toArray 3)) := fun V => by
    have h := run_make_row' (P := Try.prog) (w := V) 24 3 (.int .i64 0) 8 Try.underlying24 Try.infoInt rfl .i64 .i64 0 (by omega) (by omega)
    rw [repM_made] at h; simpa using h
  have K := below1 w (.cells (repM 0 0).toArray 3)
  have HR0 : Hid (RepMRow (w.alloc (.cells (repM 0 0).toArray 3)) w.heap.size 0 0) := Lib.hid (heap_alloc_new w _)
  go_enter Try.func72, Try.ntmps72
  go_wp2_with fail
  refine (mul_zero_any _).mono ?_; rintro e w' ⟨rfl, rfl⟩
  obtain ⟨CS, hCS⟩ : ∃ CS : List Value, CS = [] := ⟨_, rfl⟩
  have HCS := Lib.hid hCS
  have HL1 : Hid (CS.length = 0) := Lib.hid (by rw [hCS]; rfl)
  have HN1 : Hid (CS.length = Nat.min 1 0) := Lib.hid (by rw [hCS]; rfl)
  have HS1 : Hid (∀ j v, CS[j]? = some v → (w.alloc (.cells (repM 0 0).toArray 3)).cell? ((⟨b, 0, none⟩ : Addr).add j) = some v) := Lib.hid (by rw [hCS]; intro j v h; simp at h)
  have HF1 : Hid (0 + CS.length ≤ (repM 0 0).length) := Lib.hid (by rw [hCS]; simp)
  have HO1 : Hid (∀ v ∈ CS, v.oneCell' = true) := Lib.hid (by rw [hCS]; intro v h; simp at h)
  clear hCS
  go_wp2_with (refine wpList_copy_splice (o := ⟨some 33, _, _, _, _, _⟩) rfl (.tmp 31) (.tmp 32) 24 24 rfl 3 Try.underlying24 sizeInt _ _ _ _ _ _ rfl rfl w.heap.size 0 (repM 0 0) 3 HR0.out CS HN1.out (fun _ => ⟨rfl, _, rfl, HS1.out⟩) HF1.out HO1.out w.heap.size w K (Nat.le_refl _) ?_; rw [HL1.out]; intro w2 HG2 K2)
  clear HG2 HR0 K hmk HS1 HCS HN1 HL1 HF1 HO1
  refine wp_loop_rounds 1 ?_; rw [rounds_succ]
  go_wp2
  go_ret
  exact ⟨⟨_, rfl⟩, K2⟩

end Go.Proofs.Ytagaildnfbegkaa
