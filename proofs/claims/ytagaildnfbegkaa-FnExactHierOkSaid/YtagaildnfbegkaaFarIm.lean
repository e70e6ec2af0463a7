/-
  What slices.Max, slices.Index and impl.FarMarks compute.
-/
import Derived.Test.YtagaildnfbegkaaFarM
import Derived.Test.YtagaildnfbegkaaRepeatM
import Derived.Lib.AppendZeros
namespace Go.Proofs.Ytagaildnfbegkaa
open Go.RowKit Go.Deep Go.Maps

/-- The list that a row holds. -/
def rowZ (n : Nat) (f : Nat → Int) : List Int := (List.range n).map f
theorem rowZ_len (n : Nat) (f : Nat → Int) : (rowZ n f).length = n := by unfold rowZ; simp
theorem rowZ_get {n : Nat} {f : Nat → Int} {i : Nat} (hi : i < n) : zg (rowZ n f) i = f i := by unfold zg rowZ; simp [List.getD_eq_getElem?_getD, hi]
theorem IRow.isInts {w : World} {b n : Nat} {f : Nat → Int} (h : IRow w b n f) : IsInts w (some ⟨b, 0, none⟩) (rowZ n f) := fun hp => ⟨b, 0, rfl, h.lt, fun i hi => by
  rw [rowZ_len] at hi
  rw [rowZ_get hi, Nat.zero_add]; exact h.cell hi⟩
set_option maxRecDepth 100000 in
theorem run_append_intF {w : World} (ty : TypeId) (base : Nat) (v : Value) (n : Nat) (xs : List Value) (hown : w.ownsRow base 3 1 v n xs) (x : Int) (hn : n ≤ 1048576) (hbase : base ≤ w.heap.size) :
    ∃ v' w', (Builtin.append_ #[24, 24] ty #[v, .slice (some ⟨w.heap.size, 0, none⟩) 1 1]).run Try.prog (w.alloc (.cells #[.int .i64 x] 3)) = .ok v' w' ∧ w'.ownsRow base 3 1 v' (n + 1) (xs ++ [.int .i64 x]) ∧ (w.alloc (.cells #[.int .i64 x] 3)).grownBy w' v.ownBlock := by
  obtain ⟨i0, hi, hz0, hz1, hz2⟩ := info_parts Try.infoInt
  have hb : (w.alloc (.cells #[.int .i64 x] 3)).heap[w.heap.size]? = some (.cells #[.int .i64 x] 3 (0, 0)) := heap_alloc_new w _
  obtain ⟨v', w', h1, h2, h3, -, -⟩ := run_append_own_at (P := Try.prog) (w.alloc (.cells #[.int .i64 x] 3)) base 24 ty 3 i0 (.int .i64 0) 1 8 Try.underlying24 hi hz0 hz1 hz2 rfl (by decide) v n xs (hown.alloc _) ⟨w.heap.size, 0, none⟩ 1 1 [.int .i64 x] rfl
    (fun j u h => by
      have hj : j < 1 := by have := (List.getElem?_eq_some_iff.1 h).1; simpa using this
      obtain rfl : j = 0 := by omega
      rw [Addr.add_lit, cell_of_block hb]
      simpa using h)
    (fun u h => by obtain rfl := List.mem_singleton.1 h; rfl) (by unfold maxLen; omega) (by omega) (by rw [World.size_alloc]; omega)
  exact ⟨v', w', h1, h2, h3⟩
theorem own_formF {w : World} {base : Nat} {e : TypeId} {size n : Nat} {v : Value} {xs : List Value} (h : w.ownsRow base e size v n xs) : ∃ A c, v = .slice A n c := by
  rcases h.2 with ⟨h1, h2⟩ | ⟨g, cap, cur, h1, -⟩
  · subst h2; exact ⟨none, 0, h1⟩
  · exact ⟨_, cap, h1⟩
/-- The landmarks as numbers. -/
def natZ (L : List Nat) : List Int := L.map (fun (m : Nat) => (m : Int))
theorem natZ_snoc (L : List Nat) (m : Nat) : (natZ (L ++ [m])).map (Value.int .i64) = (natZ L).map (Value.int .i64) ++ [.int .i64 (m : Int)] := by simp [natZ]
theorem farM_yes {ps : List (Int × Int)} {rs : List A3} {many : Nat} (h : netB ps rs = true) (h1 : 1 ≤ many) (h2 : many ≤ 8) : farM ps rs many = natZ (farL ps.length rs (min many ps.length)) := by
  unfold farM; rw [if_pos ⟨h, by omega, by omega⟩, Int.toNat_natCast]; rfl

end Go.Proofs.Ytagaildnfbegkaa
