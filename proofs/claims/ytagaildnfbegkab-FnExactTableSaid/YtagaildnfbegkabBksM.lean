/-
  The buckets of a hierarchy's nodes (mathematics).
-/
import Derived.Test.YtagaildnfbegkabClimbZ
import Derived.Test.YtagaildnfbegkabBks
namespace Go.Proofs.Ytagaildnfbegkab
open Go.RowKit Go.Deep

/-- The buckets of one goal at the first v nodes. -/
def bkRow (d : List Int) (k : Nat) : Nat → List A3
  | 0 => []
  | v + 1 => if zg d v = -1 then bkRow d k v else bkRow d k v ++ [((v : Int), (k : Int), zg d v)]
/-- The buckets of the first k goals. -/
noncomputable def bkL (zs : List Int) (rs : List A4) (ts : List Int) : Nat → List A3
  | 0 => []
  | k + 1 => bkL zs rs ts k ++ bkRow (clZ zs rs false (zg ts k)) k zs.length
theorem bkRow_off {d : List Int} {k v : Nat} (h : zg d v = -1) : bkRow d k (v + 1) = bkRow d k v := if_pos h
theorem bkRow_on {d : List Int} {k v : Nat} (h : zg d v ≠ -1) : bkRow d k (v + 1) = bkRow d k v ++ [((v : Int), (k : Int), zg d v)] := if_neg h
theorem bkRow_len (d : List Int) (k : Nat) : ∀ v, (bkRow d k v).length ≤ v
  | 0 => by simp [bkRow]
  | v + 1 => by
    have := bkRow_len d k v
    by_cases h : zg d v = -1
    · rw [bkRow_off h]; omega
    · rw [bkRow_on h, List.length_append]; simp; omega
theorem bkL_len (zs : List Int) (rs : List A4) (ts : List Int) : ∀ k, (bkL zs rs ts k).length ≤ k * zs.length
  | 0 => by simp [bkL]
  | k + 1 => by
    have := bkL_len zs rs ts k
    have h2 := bkRow_len (clZ zs rs false (zg ts k)) k zs.length
    show (bkL zs rs ts k ++ _).length ≤ _
    rw [List.length_append, Nat.succ_mul]; omega
theorem bkL_room {zs : List Int} {rs : List A4} {ts : List Int} {k : Nat} (hn : zs.length ≤ 1048576) (hk : k ≤ 20) : (bkL zs rs ts k).length ≤ 20971520 := by
  have h := bkL_len zs rs ts k
  have h2 : k * zs.length ≤ 20 * 1048576 := Nat.mul_le_mul hk hn
  omega
/-- The first k goals are all served. -/
def bkAll (zs : List Int) (rs : List A4) (ts : List Int) (k : Nat) : Prop := ∀ j, j < k → clZ zs rs false (zg ts j) ≠ []
open Classical in
noncomputable def bksZ (zs : List Int) (rs : List A4) (ts : List Int) : List A3 := if ts.length ≤ 20 ∧ bkAll zs rs ts ts.length then bkL zs rs ts ts.length else []
theorem bksZ_all {zs : List Int} {rs : List A4} {ts : List Int} (h : ts.length ≤ 20) (k : bkAll zs rs ts ts.length) : bksZ zs rs ts = bkL zs rs ts ts.length := if_pos ⟨h, k⟩
theorem bksZ_long {zs : List Int} {rs : List A4} {ts : List Int} (h : ¬ ts.length ≤ 20) : bksZ zs rs ts = [] := if_neg fun e => h e.1
theorem bksZ_nil {zs : List Int} {rs : List A4} {ts : List Int} {j : Nat} (hj : j < ts.length) (h : clZ zs rs false (zg ts j) = []) : bksZ zs rs ts = [] := if_neg fun e => e.2 j hj h
theorem bksZ_len {zs : List Int} (rs : List A4) (ts : List Int) (hn : zs.length ≤ 1048576) : (bksZ zs rs ts).length ≤ 20971520 := by
  unfold bksZ; split
  · rename_i h; exact bkL_room hn h.1
  · simp
theorem bkAll.next {zs : List Int} {rs : List A4} {ts : List Int} {k : Nat} (h : bkAll zs rs ts k) (e : clZ zs rs false (zg ts k) ≠ []) : bkAll zs rs ts (k + 1) := fun j hj => by
  by_cases hx : j = k
  · subst hx; exact e
  · exact h j (by omega)

end Go.Proofs.Ytagaildnfbegkab
