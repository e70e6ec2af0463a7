/-
  What spec.l03Nums and impl.lineText compute: numbers as words of a line.
-/
import Derived.Test.YtjaifbbkfgfdeaaDoorConv
import Derived.Test.YtjaifbbkfgfdeaaDoorNetSpec
import Derived.Lib.AppendStr
namespace Go.Proofs.YtjaifbbkfgfdeaaDoor
open Go.RowKit Go.Deep

/-- A text of these bytes. -/
def tx (l : List UInt8) : ByteArray := ⟨l.toArray⟩
theorem tx_append (a b : List UInt8) : tx a ++ tx b = tx (a ++ b) := by
  unfold tx
  apply ByteArray.ext
  rw [ByteArray.data_append]
  simp
theorem tx_data (l : List UInt8) : (tx l).data.toList = l := by simp [tx]
theorem tx_size (l : List UInt8) : (tx l).size = l.length := by simp [tx, ByteArray.size]
/-- Numbers, each behind a blank; a line. -/
def numsB (zs : List Int) : List UInt8 := zs.flatMap fun z => 32 :: Lib.itoa z
def lineB (word : List UInt8) (zs : List Int) : List UInt8 := word ++ numsB zs ++ [10]
theorem numsB_snoc (zs : List Int) (k : Nat) (h : k < zs.length) : numsB (zs.take (k + 1)) = numsB (zs.take k) ++ [32] ++ Lib.itoa (zg zs k) := by
  unfold numsB
  rw [List.take_succ_eq_append_getElem h, List.flatMap_append]
  simp [zg, h]
theorem itoa20 {z : Int} (hz : In64 z) : (Lib.itoa z).length ≤ 20 := by
  have hl := decDigits_len 18 z.natAbs (by have := hz.1; have := hz.2; omega)
  by_cases hneg : z < 0
  · rw [itoa_neg hneg, List.length_cons]; omega
  · rw [itoa_pos hneg]; omega
theorem numsB_len (zs : List Int) (h : ∀ z ∈ zs, In64 z) : (numsB zs).length ≤ zs.length * 21 := by
  induction zs with
  | nil => simp [numsB]
  | cons z r ih =>
    have h1 := ih fun x hx => h x (List.mem_cons_of_mem _ hx)
    have h2 := itoa20 (h z (by simp))
    unfold numsB at *
    simp only [List.flatMap_cons, List.length_append, List.length_cons]
    omega

set_option maxHeartbeats 1000000 in
theorem l03Nums_any (b off cap : Nat) (zs : List Int) (w : World) (hn : zs.length ≤ 3) (h : IntsAt w b off zs) (h64 : ∀ z ∈ zs, In64 z) :
    Calls Tryd.prog 23 #[.slice (some ⟨b, off, none⟩) zs.length cap] w fun e w' => e = .returned (.string (tx (numsB zs))) ∧ Below w.heap.size w w' := by
  have HI : Hid (∀ wr, Below w.heap.size w wr → ∀ k, k < zs.length → wr.cell? ⟨b, off + k, none⟩ = some (.int .i64 (zg zs k))) := fun wr hb k hk => cell_under hb (h k hk)
  have H64 := Lib.hid h64
  clear h h64
  go_enter Tryd.func23, Tryd.ntmps23
  go_wp2
  go_loopw [3, 4] (fun s i wr => ∃ k : Nat, k ≤ zs.length ∧ i = .int .i64 k ∧ s = .string (tx (numsB (zs.take k))) ∧ Below w.heap.size w wr) (fun _ i _ => zs.length - (intOf i).toNat)
  case atStart => exact ⟨0, by omega, rfl, by simp [numsB, tx], Below.refl _ _⟩
  case round =>
    obtain ⟨k, hk, rfl, rfl, K⟩ := hrel
    by_cases hlt : k < zs.length
    · have c0 := HI.out _ K k hlt
      have hz := zg_in H64.out k
      have hz1 := hz.1
      have hz2 := hz.2
      have HS := Lib.hid (numsB_snoc zs k hlt)
      have hl1 : (tx (numsB (zs.take k))).size ≤ 100 := by
        rw [tx_size]
        have := numsB_len (zs.take k) (fun z hz => H64.out z (List.mem_of_mem_take hz))
        have h2 : (zs.take k).length ≤ 3 := by rw [List.length_take]; omega
        omega
      have hi20 := itoa20 hz
      generalize zg zs k = z at c0 hz1 hz2 HS hi20
      have hsz : ¬ 9223372036854775807 < (tx (numsB (zs.take k))).size + 1 + (Lib.itoa z).length := by omega
      clear hz hi20
      go_wp2_with fail
      refine (specNumText_any z _ hz1 hz2).mono ?_; rintro e w1 ⟨rfl, b1⟩
      replace K := K.trans (b1.mono K.size)
      clear b1 c0
      go_wp2
      go_roundw
      case rel => exact ⟨k + 1, by omega, by go_num, by
        rw [HS.out, ← tx_append, ← tx_append]; rfl, K⟩
      case measure => simp [intOf]; omega
    · have HE := Lib.hid (show zs.take k = zs from List.take_of_length_le (by omega))
      go_wp2
      go_ret
      exact ⟨by rw [HE.out]; rfl, K⟩

set_option maxHeartbeats 1000000 in
theorem lineText_any (word : List UInt8) (b off cap : Nat) (zs : List Int) (w : World) (hw : word.length ≤ 10) (hn : zs.length ≤ 3) (h : IntsAt w b off zs) (h64 : ∀ z ∈ zs, In64 z) (ht : Lib.TabIs Tryd.prog w "internal/strconv.uint64pow10" .u64 Lib.pow10Tab) :
    Calls Tryd.prog 21 #[.string (tx word), .slice (some ⟨b, off, none⟩) zs.length cap] w fun e w' => e = .returned (.string (tx (lineB word zs))) ∧ Below w.heap.size w w' := by
  have HI : Hid (∀ wr, Below w.heap.size w wr → ∀ k, k < zs.length → wr.cell? ⟨b, off + k, none⟩ = some (.int .i64 (zg zs k))) := fun wr hb k hk => cell_under hb (h k hk)
  have H64 := Lib.hid h64
  have HT := Lib.hid ht
  clear h h64 ht
  go_enter Tryd.func21, Tryd.ntmps21
  go_wp2
  go_loopw [5, 11] (fun s i wr => ∃ k : Nat, k ≤ zs.length ∧ i = .int .i64 k ∧ s = .string (tx (word ++ numsB (zs.take k))) ∧ Below w.heap.size w wr) (fun _ i _ => zs.length - (intOf i).toNat)
  case atStart => exact ⟨0, by omega, rfl, by simp [numsB], Below.refl _ _⟩
  case round =>
    obtain ⟨k, hk, rfl, rfl, K⟩ := hrel
    by_cases hlt : k < zs.length
    · have c0 := HI.out _ K k hlt
      have hz := zg_in H64.out k
      have hz1 := hz.1
      have hz2 := hz.2
      have HS := Lib.hid (numsB_snoc zs k hlt)
      have hl1 : (tx (word ++ numsB (zs.take k))).size ≤ 100 := by
        rw [tx_size, List.length_append]
        have := numsB_len (zs.take k) (fun z hz => H64.out z (List.mem_of_mem_take hz))
        have h2 : (zs.take k).length ≤ 3 := by rw [List.length_take]; omega
        omega
      have hi20 := itoa20 hz
      generalize zg zs k = z at c0 hz1 hz2 HS hi20
      have hsz : ¬ 9223372036854775807 < 1 + (Lib.itoa z).length := by omega
      have hsz2 : ¬ 9223372036854775807 < (tx (word ++ numsB (zs.take k))).size + (1 + (Lib.itoa z).length) := by omega
      clear hz hi20
      go_wp2_with fail
      refine (implNumText_any z _ hz1 hz2 (tab_below HT.out K)).mono ?_; rintro e w1 ⟨rfl, b1⟩
      replace K := K.trans (b1.mono K.size)
      clear b1 c0
      go_wp2
      go_roundw
      case rel => exact ⟨k + 1, by omega, by go_num, by
        rw [HS.out, List.append_assoc (numsB _), ← List.append_assoc word, ← tx_append (word ++ numsB (zs.take k)) ([32] ++ Lib.itoa z), ← tx_append [32]]; rfl, K⟩
      case measure => simp [intOf]; omega
    · have HE := Lib.hid (show zs.take k = zs from List.take_of_length_le (by omega))
      have hl1 : (tx (word ++ numsB zs)).size ≤ 100 := by
        rw [tx_size, List.length_append]
        have := numsB_len zs H64.out
        omega
      rw [HE.out]
      have hsz : ¬ 9223372036854775807 < (tx (word ++ numsB zs)).size + 1 := by omega
      go_wp2
      go_ret
      exact ⟨by unfold lineB; rw [← tx_append (word ++ numsB zs)]; rfl, K⟩

end Go.Proofs.YtjaifbbkfgfdeaaDoor
