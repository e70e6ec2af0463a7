/-
  What math/bits.Mul64, math/bits.Mul and slices.Repeat compute, at small numbers.
-/
import Derived.Test.YtagaildnfbegkabDistSpec
import Derived.Laws.BitsLemmas
import Derived.Laws.CopyOwn
import Derived.Deep.RegionHeld3
namespace Go.Proofs.Ytagaildnfbegkab
open Go.RowKit Go.Deep

theorem and_low (y : Nat) (h : y ≤ 1048576) : bits .and .u64 (y : Int) 4294967295 = (y : Int) := by
  have h' := bits_mask .u64 63 (by decide) (fun n h0 h1 => IntWalk.u64_in n (by omega)) 32 (by decide) (y : Int) (by omega) (by omega)
  have e : ((2 : Int) ^ 32 - 1) = 4294967295 := by decide
  have e2 : ((2 : Int) ^ 32) = 4294967296 := by decide
  rw [e, e2] at h'
  rw [h']
  omega
theorem wrap_low (y : Nat) (h : y ≤ 1048576) : IntKind.u64.wrap (y : Int) = (y : Int) := IntWalk.u64_in _ (by omega)

theorem mul64_any (y : Nat) (w : World) (hy : y ≤ 1048576) :
    Calls Try.prog 82 #[.int .u64 1, .int .u64 (y : Int)] w fun e w' => e = .returned (.tuple #[.int .u64 0, .int .u64 (y : Int)]) ∧ w = w' := by
  have h1 : bits .and .u64 1 4294967295 = 1 := by decide
  have h2 : bits .and .u64 (y : Int) 4294967295 = y := and_low y hy
  have h0 : bits .and .u64 0 4294967295 = 0 := by decide
  have h3 : (y : Int) / 4294967296 = 0 := by omega
  have h4 : IntKind.u64.wrap (y : Int) = y := wrap_low y hy
  have h5 : IntKind.u64.wrap 0 = 0 := by decide
  go_enter Try.func82, Try.ntmps82
  go_wp2
  exact bodyPost_ret (v := .tuple #[.int .u64 0, .int .u64 (y : Int)]) (by simp [results, Try.results82, go_sem]) rfl ⟨rfl, rfl⟩

theorem mul_any (y : Nat) (w : World) (hy : y ≤ 1048576) :
    Calls Try.prog 77 #[.int .u64 1, .int .u64 (y : Int)] w fun e w' => e = .returned (.tuple #[.int .u64 0, .int .u64 (y : Int)]) ∧ w = w' := by
  have h4 : IntKind.u64.wrap (y : Int) = y := wrap_low y hy
  go_enter Try.func77, Try.ntmps77
  go_wp2_with fail
  refine (mul64_any y _ hy).mono ?_; rintro e w' ⟨rfl, rfl⟩
  go_wp2
  exact bodyPost_ret (v := .tuple #[.int .u64 0, .int .u64 (y : Int)]) (by simp [results, Try.results77, go_sem]) rfl ⟨rfl, rfl⟩

/-- A row of n numbers of which the first k are -1 and the others 0. -/
def rep (n k : Nat) : List Value := (List.range n).map fun j => Value.int .i64 (if j < k then -1 else 0)
theorem rep_len (n k : Nat) : (rep n k).length = n := by unfold rep; simp
theorem rep_get {n k j : Nat} (hj : j < n) : (rep n k)[j]? = some (.int .i64 (if j < k then -1 else 0)) := by unfold rep; simp [hj]
theorem rep_made (n : Nat) : madeCells #[Value.int .i64 0] n = (rep n 0).toArray := by
  apply Array.ext
  · simp [size_madeCells, rep]
  · intro i h1 h2
    have hi : i < n := by simpa [size_madeCells] using h1
    simp [madeCells, rep, Nat.mod_one]
theorem rep_splice {n k m : Nat} (h : k + m ≤ n) : splice (rep n k) k (List.replicate m (Value.int .i64 (-1))) = rep n (k + m) := by
  apply List.ext_getElem?
  intro j
  unfold splice
  rcases Nat.lt_or_ge j k with h1 | h1
  · rw [List.getElem?_append_left (by simp [rep_len]; omega), List.getElem?_take, if_pos h1, rep_get (by omega), rep_get (by omega), if_pos h1, if_pos (by omega)]
  · rw [List.getElem?_append_right (by simp [rep_len]; omega)]
    have e : (List.take k (rep n k)).length = k := by simp [rep_len]; omega
    rw [e]
    rcases Nat.lt_or_ge j (k + m) with h2 | h2
    · rw [List.getElem?_append_left (by simp; omega), List.getElem?_replicate, if_pos (by omega), rep_get (by omega), if_pos h2]
    · rw [List.getElem?_append_right (by simp; omega), List.length_replicate, List.getElem?_drop]
      rw [show k + m + (j - k - m) = j by omega]
      rcases Nat.lt_or_ge j n with h3 | h3
      · rw [rep_get h3, rep_get h3, if_neg (by omega), if_neg (by omega)]
      · rw [List.getElem?_eq_none (by rw [rep_len]; exact h3), List.getElem?_eq_none (by rw [rep_len]; exact h3)]
/-- Block g holds them. -/
def RepRow (w : World) (g n k : Nat) : Prop := w.heap[g]? = some (.cells (rep n k).toArray 3 (0, 0))
theorem RepRow.lt {w : World} {g n k : Nat} (h : RepRow w g n k) : g < w.heap.size := (Array.getElem?_eq_some_iff.1 h).1
theorem RepRow.cell {w : World} {g n k j : Nat} (h : RepRow w g n k) (hj : j < k) (hn : j < n) : w.cell? ⟨g, j, none⟩ = some (.int .i64 (-1)) := by
  rw [cell_of_block h]; simp [rep, hn, hj]
theorem RepRow.irow {w : World} {g n : Nat} (h : RepRow w g n n) : IRow w g n (fun _ => -1) := ⟨_, h, by simp [rep_len], fun i hi => by simp [rep, hi]⟩
theorem sizeInt : (Try.prog.info? 3).map (·.size) = some 1 := by
  have h := Try.infoInt
  obtain ⟨i, hi, e⟩ := Option.map_eq_some_iff.1 h
  simp only [Prod.mk.injEq] at e
  rw [hi]; simp [e.2.1]

set_option maxRecDepth 100000 in
set_option maxHeartbeats 2000000 in
theorem repeat_big (b c n : Nat) (w : World) (hn : n ≤ 1048576) (h0 : 0 < n) (hc : w.cell? ⟨b, 0, none⟩ = some (.int .i64 (-1))) :
    Calls Try.prog 69 #[.slice (some ⟨b, 0, none⟩) 1 c, .int .i64 (n : Int)] w fun e w' => e = .returned (.slice (some ⟨w.heap.size, 0, none⟩) n n) ∧ IRow w' w.heap.size n (fun _ => -1) ∧ Below w.heap.size w w' := by
  have hmk := run_make_row' (P := Try.prog) 22 3 (.int .i64 0) 8 Try.underlying22 Try.infoInt rfl .i64 .i64 n (by omega) (by omega)
  have K := below1 w (.cells (madeCells #[.int .i64 0] n) 3)
  have R0 : RepRow (w.alloc (.cells (madeCells #[.int .i64 0] n) 3)) w.heap.size n 0 := by unfold RepRow; rw [← rep_made]; exact heap_alloc_new w _
  have hc1 : (w.alloc (.cells (madeCells #[.int .i64 0] n) 3)).cell? ⟨b, 0, none⟩ = some (.int .i64 (-1)) := cell_under K hc
  have h4 : IntKind.u64.wrap (n : Int) = n := wrap_low n hn
  have HR0 := Lib.hid R0
  clear R0
  go_enter Try.func69, Try.ntmps69
  go_wp2_with fail
  refine (mul_any n _ hn).mono ?_; rintro e w' ⟨rfl, rfl⟩
  obtain ⟨CS, hCS⟩ : ∃ CS, CS = List.replicate 1 (Value.int .i64 (-1)) := ⟨_, rfl⟩
  have hl1 : CS.length = 1 := by rw [hCS]; rfl
  have hn1 : CS.length = Nat.min 1 n := by rw [hl1]; exact (Nat.min_eq_left h0).symm
  have ho1 : ∀ v ∈ CS, v.oneCell' = true := by rw [hCS]; intro v hv; rw [List.eq_of_mem_replicate hv]; rfl
  have hs1 : ∀ j v, CS[j]? = some v → (w.alloc (.cells (madeCells #[.int .i64 0] n) 3)).cell? ((⟨b, 0, none⟩ : Addr).add j) = some v := by
    intro j v hj
    rw [hCS] at hj
    have hj0 : j = 0 := by have := (List.getElem?_eq_some_iff.1 hj).1; simpa using this
    subst hj0
    have hv : Value.int .i64 (-1) = v := by simpa using hj
    rw [Addr.add_lit, ← hv]; exact hc1
  have hf1 : 0 + CS.length ≤ (rep n 0).length := by rw [hl1, rep_len]; omega
  have HS1 := Lib.hid hs1
  have HCS := Lib.hid hCS
  have HN1 := Lib.hid hn1
  have HL1 := Lib.hid hl1
  have HF1 := Lib.hid hf1
  have HO1 := Lib.hid ho1
  clear hs1 hCS hn1 hl1 hf1 ho1 hc1
  go_wp2_with (refine wpList_copy_splice (o := ⟨some 33, _, _, _, _, _⟩) rfl (.tmp 31) (.tmp 32) 22 22 rfl 3 Try.underlying22 sizeInt _ _ _ _ _ _ rfl rfl w.heap.size 0 (rep n 0) 3 HR0.out CS HN1.out (fun _ => ⟨rfl, _, rfl, HS1.out⟩) HF1.out HO1.out w.heap.size w K (Nat.le_refl _) ?_; rw [HL1.out]; intro w2 HG2 K2)
  have R : RepRow w2 w.heap.size n 1 := by have := HG2.out; rw [HCS.out, rep_splice (by omega)] at this; exact this
  clear HG2 HR0 K hmk HS1 HCS HN1 HL1 HF1 HO1
  go_loopw [8] (fun i wr => ∃ k : Nat, 1 ≤ k ∧ k ≤ n ∧ i = .int .i64 k ∧ RepRow wr w.heap.size n k ∧ Below w.heap.size w wr) (fun i _ => n - (intOf i).toNat)
  case atStart => exact ⟨1, by omega, h0, rfl, R, K2⟩
  case round =>
    clear R K2
    obtain ⟨k, hk1, hkn, rfl, R, K⟩ := hrel
    by_cases hlt : k < n
    · obtain ⟨m, hm⟩ : ∃ m, m = Nat.min k (n - k) := ⟨_, rfl⟩
      have hm1 : m ≤ k := by rw [hm]; exact Nat.min_le_left _ _
      have hm2 : m ≤ n - k := by rw [hm]; exact Nat.min_le_right _ _
      have hm3 : 1 ≤ m := by rw [hm]; exact Nat.le_min.2 ⟨by omega, by omega⟩
      obtain ⟨CS, hCS⟩ : ∃ CS, CS = List.replicate m (Value.int .i64 (-1)) := ⟨_, rfl⟩
      have hl1 : CS.length = m := by rw [hCS]; simp
      have HN1 : Hid (CS.length = Nat.min k (n - k)) := Lib.hid (by rw [hl1]; exact hm)
      have HO1 : Hid (∀ v ∈ CS, v.oneCell' = true) := Lib.hid (by rw [hCS]; intro v hv; rw [List.eq_of_mem_replicate hv]; rfl)
      replace R : RepRow wr.drew w.heap.size n k := R
      replace K := K.drew
      have HS1 : Hid (∀ j v, CS[j]? = some v → wr.drew.cell? ((⟨w.heap.size, 0, none⟩ : Addr).add j) = some v) := Lib.hid (by
        intro j v hj
        rw [hCS, List.getElem?_replicate] at hj
        split at hj
        · rename_i hjm
          have hv : Value.int .i64 (-1) = v := by simpa using hj
          rw [Addr.add_lit, ← hv, Nat.zero_add]; exact R.cell (by omega) (by omega)
        · cases hj)
      have HF1 : Hid (k + CS.length ≤ (rep n k).length) := Lib.hid (by rw [hl1, rep_len]; omega)
      have HCS := Lib.hid hCS
      have HL1 := Lib.hid hl1
      have HR := Lib.hid R
      clear hCS hl1 hm R
      obtain ⟨w3, hcp, R3, K3⟩ : ∃ w3, Sem.run Try.prog (Builtin.copy_ #[22, 22] 3 #[.slice (some ⟨w.heap.size, k, none⟩) (n - k) (n - k), .slice (some ⟨w.heap.size, 0, none⟩) k n]) wr.drew = Result.ok (.int .i64 (m : Int)) w3 ∧ RepRow w3 w.heap.size n (k + m) ∧ Below w.heap.size w w3 := by
        have hr := run_copy_row (P := Try.prog) wr.drew 22 22 3 3 w.heap.size k (n - k) (n - k) ⟨w.heap.size, 0, none⟩ k n (rep n k).toArray 3 CS Try.underlying22 sizeInt HR.out HN1.out HS1.out (by simpa using HF1.out) HO1.out
        rw [HL1.out] at hr
        refine ⟨_, hr, ?_, below_setRow K (Nat.le_refl _) _⟩
        have h := setRow_heap wr.drew w.heap.size (rep n k).toArray (rep n (k + m)).toArray 3 _ HR.out
        rw [← rep_splice (show k + m ≤ n by omega), ← HCS.out] at h
        have e : (splice (rep n k) k CS).toArray = (List.take k (rep n k).toArray.toList ++ CS ++ List.drop (k + m) (rep n k).toArray.toList).toArray := by
          unfold splice; rw [HL1.out, List.append_assoc]
        unfold RepRow
        rw [← rep_splice (show k + m ≤ n by omega), ← HCS.out]
        rw [e] at h ⊢
        exact h
      clear HS1 HCS HN1 HL1 HF1 HO1 HR
      have hwr : IntKind.i64.wrap ((k : Int) + (m : Int)) = (k : Int) + (m : Int) := by rw [IntWalk.i64_left]; unfold wrap64; omega
      go_wp2_with fail
      go_region_held3 (fun w' => Below w.heap.size w w') (first | exact K | exact K3 | assumption) (fail)
      all_goals (
        clear hcp K
        go_wp2
        go_roundw
        case rel => exact ⟨k + m, by omega, by omega, by go_num, R3, K3⟩
        case measure => simp [intOf]; omega)
    · obtain rfl : k = n := by omega
      go_wp2
      go_ret
      exact ⟨rfl, R.irow, K⟩

theorem repeat_any (b c n : Nat) (w : World) (hn : n ≤ 20) (h0 : 0 < n) (hc : w.cell? ⟨b, 0, none⟩ = some (.int .i64 (-1))) :
    Calls Try.prog 69 #[.slice (some ⟨b, 0, none⟩) 1 c, .int .i64 (n : Int)] w fun e w' => e = .returned (.slice (some ⟨w.heap.size, 0, none⟩) n n) ∧ IRow w' w.heap.size n (fun _ => -1) ∧ Below w.heap.size w w' :=
  repeat_big b c n w (by omega) h0 hc

end Go.Proofs.Ytagaildnfbegkab
