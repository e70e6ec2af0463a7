/-
  What spec.ArcAt, spec.Outs and spec.Ins compute.
-/
import Derived.Test.YtagaildnfbegkabNetSpec
import Derived.Test.YtagaildnfbegkabMarks
import Derived.Test.YtagaildnfbegkabSlices
import Derived.Maps.AppendAt
namespace Go.Proofs.Ytagaildnfbegkab
open Go.RowKit Go.Deep

/-- The index of the first arc from u to v, -1 where there is none (in a valid network). -/
def hit (rs : List (Int × Int × Int)) (u v : Int) (i : Nat) : Bool := (arg rs i).1 == u && (arg rs i).2.1 == v
def findA (rs : List (Int × Int × Int)) (u v : Int) : Int := match (List.range rs.length).find? (hit rs u v) with
  | some i => i
  | none => -1
def arcAt (ps : List (Int × Int)) (rs : List (Int × Int × Int)) (u v : Int) : Int := if netB ps rs = true then findA rs u v else -1

theorem findA_hit {rs : List (Int × Int × Int)} {u v : Int} {k : Nat} (hk : k < rs.length) (h : hit rs u v k = true) (hno : ∀ i, i < k → hit rs u v i = false) : findA rs u v = k := by
  have e : (List.range rs.length).find? (hit rs u v) = some k := by
    rw [List.find?_range_eq_some]
    exact ⟨h, List.mem_range.2 hk, fun i hi => by rw [hno i hi]; rfl⟩
  unfold findA; rw [e]
theorem findA_none {rs : List (Int × Int × Int)} {u v : Int} (hno : ∀ i, i < rs.length → hit rs u v i = false) : findA rs u v = -1 := by
  have e : (List.range rs.length).find? (hit rs u v) = none := by
    rw [List.find?_range_eq_none]
    exact fun i hi => by rw [hno i hi]; rfl
  unfold findA; rw [e]

/-- The indices of the arcs from u (to u), ascending. -/
def outL (rs : List (Int × Int × Int)) (u : Int) (k : Nat) : List Int := ((List.range k).filter (fun i => (arg rs i).1 == u)).map Int.ofNat
def inL (rs : List (Int × Int × Int)) (u : Int) (k : Nat) : List Int := ((List.range k).filter (fun i => (arg rs i).2.1 == u)).map Int.ofNat
theorem outL_succ (rs : List (Int × Int × Int)) (u : Int) (k : Nat) : outL rs u (k + 1) = if ((arg rs k).1 == u) = true then outL rs u k ++ [(k : Int)] else outL rs u k := by
  unfold outL; rw [List.range_succ, List.filter_append]
  cases h : (arg rs k).1 == u <;> simp [h]
theorem inL_succ (rs : List (Int × Int × Int)) (u : Int) (k : Nat) : inL rs u (k + 1) = if ((arg rs k).2.1 == u) = true then inL rs u k ++ [(k : Int)] else inL rs u k := by
  unfold inL; rw [List.range_succ, List.filter_append]
  cases h : (arg rs k).2.1 == u <;> simp [h]
theorem outL_len (rs : List (Int × Int × Int)) (u : Int) (k : Nat) : (outL rs u k).length ≤ k := by
  unfold outL; rw [List.length_map]; have := List.length_filter_le (fun i => (arg rs i).1 == u) (List.range k); simpa using this
theorem inL_len (rs : List (Int × Int × Int)) (u : Int) (k : Nat) : (inL rs u k).length ≤ k := by
  unfold inL; rw [List.length_map]; have := List.length_filter_le (fun i => (arg rs i).2.1 == u) (List.range k); simpa using this

theorem ownsRow_below {w w' : World} {base : Nat} {e : TypeId} {size : Nat} {v : Value} {n : Nat} {xs : List Value} (h : w.ownsRow base e size v n xs) (hb : Below w.heap.size w w') : w'.ownsRow base e size v n xs := by
  refine ⟨h.1, ?_⟩
  rcases h.2 with h | ⟨g, cap, cur, h1, h2, h3, h4⟩
  · exact .inl h
  · exact .inr ⟨g, cap, cur, h1, h2, (hb.block g (Array.getElem?_eq_some_iff.1 h3).1).trans h3, h4⟩
theorem ownsRow_base {w : World} {base base' : Nat} {e : TypeId} {size : Nat} {v : Value} {n : Nat} {xs : List Value} (h : w.ownsRow base e size v n xs) (hb : base' ≤ base) : w.ownsRow base' e size v n xs := by
  refine ⟨h.1, ?_⟩
  rcases h.2 with h | ⟨g, cap, cur, h1, h2, h3⟩
  · exact .inl h
  · exact .inr ⟨g, cap, cur, h1, Nat.le_trans hb h2, h3⟩
theorem ownsRow_block {w : World} {base : Nat} {e : TypeId} {size : Nat} {v : Value} {n : Nat} {xs : List Value} (h : w.ownsRow base e size v n xs) : ∀ g, v.ownBlock = some g → base ≤ g := by
  intro g hg
  rcases h.2 with ⟨rfl, _⟩ | ⟨g', cap', cur, rfl, h2, _⟩
  · simp [Value.ownBlock] at hg
  · simp [Value.ownBlock] at hg; omega
theorem Pair.grownUp {w w' : World} {b : Nat} {t : TypeId} {u v : Value} {r : Option Nat} (h : Pair w b t u v) (hg : w.grownBy w' r) (hr : ∀ g, r = some g → b < g) : Pair w' b t u v := (hg.block b h.lt (fun e => by have := hr b e.symm; omega)).trans h

/-- A slice of numbers of the call's own. -/
def IntsMade (w : World) (zs : List Int) (e : Ending) (w' : World) : Prop :=
  ∃ A cap, e = .returned (.slice A zs.length cap) ∧ zs.length ≤ cap ∧ OwnSl w' w.heap.size 3 A zs.length (zg zs) ∧ Below w.heap.size w w'
theorem ownSl_of_own {w : World} {base : Nat} {v : Value} {zs : List Int} (h : w.ownsRow base 3 1 v zs.length (zs.map (Value.int .i64))) : ∃ A cap, v = .slice A zs.length cap ∧ zs.length ≤ cap ∧ OwnSl w base 3 A zs.length (zg zs) := by
  rcases h.2 with ⟨h1, h2⟩ | ⟨g, cap, cur, h1, h2, h3, h4, h5, h6, h7⟩
  · exact ⟨none, 0, by rw [h1, h2], by omega, fun hp => by omega⟩
  · refine ⟨_, cap, h1, h4, fun _ => ⟨g, 0, rfl, h2, cur, h3, by omega, fun i hi => ?_⟩⟩
    have e : (cur.toList.take (zs.length * 1))[i]? = (zs.map (Value.int .i64))[i]? := by rw [h7]
    rw [List.getElem?_take, if_pos (by omega), Array.getElem?_toList] at e
    rw [Nat.zero_add, e]
    simp [hi, zg]
theorem intsMade_of {w w' : World} {zs : List Int} {v : Value} (h : w'.ownsRow w.heap.size 3 1 v zs.length (zs.map (Value.int .i64))) (hb : Below w.heap.size w w') : IntsMade w zs (.returned v) w' := by
  obtain ⟨A, cap, rfl, h1, h2⟩ := ownSl_of_own h
  exact ⟨A, cap, rfl, h1, h2, hb⟩
theorem OwnSl.ints {w : World} {base : Nat} {A : Option Addr} {zs : List Int} (h : OwnSl w base 3 A zs.length (zg zs)) : IsInts w A zs := fun hp => by
  obtain ⟨g, off, rfl, -, ho⟩ := h hp
  exact ⟨g, off, rfl, ho.lt, fun i hi => ho.cell hi⟩

/-- What Outs answers: nothing in a network that is not valid. -/
def outs (ps : List (Int × Int)) (rs : List (Int × Int × Int)) (u : Int) : List Int := if netB ps rs = true then outL rs u rs.length else []
/-- What Ins answers: nothing in a network that is not valid. -/
def ins (ps : List (Int × Int)) (rs : List (Int × Int × Int)) (u : Int) : List Int := if netB ps rs = true then inL rs u rs.length else []
end Go.Proofs.Ytagaildnfbegkab
