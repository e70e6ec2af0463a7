/-
  Words for memory: slices that read as lists of numbers, blocks that are known whole, what stays as it was.
-/
import Derived.Test.YtagaildnfbegkabProg
import Derived.WalkKit
import Derived.ProofKit
import Derived.Lib.Hide
import Derived.OpenShut
import Derived.Deep.OwnRows
import Derived.Deep.RegionHeld
import Derived.Deep.QuietTactic
import Derived.BigQuiet
import Derived.Maps.AppendAt
namespace Go.Proofs.Ytagaildnfbegkab
open Go.RowKit Go.Deep

/-- The i-th number of a list (0 behind its end). -/
def zg (zs : List Int) (i : Nat) : Int := zs.getD i 0

/-- The row of cells from ⟨b, off⟩ on holds the numbers zs. -/
def IntsAt (w : World) (b off : Nat) (zs : List Int) : Prop := ∀ i, i < zs.length → w.cell? ⟨b, off + i, none⟩ = some (.int .i64 (zg zs i))

theorem retI {a b : Int} (h : a = b) : Ending.returned (.int .i64 a) = .returned (.int .i64 b) := by rw [h]

theorem below_drewN {B : Nat} {a w : World} (h : Below B a w) (n : Nat) : Below B a (w.drewN n) := ⟨h.os, h.tape, h.output, h.size, h.block⟩

/-- A slice value at A reads as the numbers zs, in memory that was there. -/
def IsInts (w : World) (A : Option Addr) (zs : List Int) : Prop := 0 < zs.length → ∃ b off, A = some ⟨b, off, none⟩ ∧ b < w.heap.size ∧ IntsAt w b off zs

theorem IsInts.at_ {w : World} {A : Option Addr} {zs : List Int} (h : IsInts w A zs) {k : Nat} (hk : k < zs.length) :
    ∃ b off, A = some ⟨b, off, none⟩ ∧ b < w.heap.size ∧ w.cell? ⟨b, off + k, none⟩ = some (.int .i64 (zg zs k)) := by
  obtain ⟨b, off, h1, h2, h3⟩ := h (by omega)
  exact ⟨b, off, h1, h2, h3 k hk⟩

theorem IsInts.below {w w' : World} {A : Option Addr} {zs : List Int} (h : IsInts w A zs) (hb : Below w.heap.size w w') : IsInts w' A zs := by
  intro hp
  obtain ⟨b, off, h1, h2, h3⟩ := h hp
  exact ⟨b, off, h1, Nat.lt_of_lt_of_le h2 hb.size, fun i hi => (hb.cell (p := ⟨b, off + i, none⟩) h2).trans (h3 i hi)⟩

theorem IsInts.row {w : World} {b : Nat} {t : TypeId} {zs : List Int} (h : w.rowIs b t zs.length (fun j => .int .i64 (zg zs j))) : IsInts w (some ⟨b, 0, none⟩) zs :=
  fun _ => ⟨b, 0, rfl, h.lt, fun i hi => by rw [Nat.zero_add]; exact h.cell hi⟩

/-- A slice of integers that came in, as a law's frame tells of it. -/
theorem isInts_of {w : World} {a : Option Addr} {len cap : Nat} {zs : List Int}
    (h : (a = none ∧ len = 0 ∧ cap = 0 ∧ zs = []) ∨ ∃ x, a = some x ∧ len ≤ cap ∧ cap ≤ maxLen ∧ zs.length = cap ∧ (∀ i, i < zs.length → w.cell? (x.add i) = some (.int .i64 (zs.getD i 0))) ∧ ∀ n ∈ zs, (Lit.int .i64 n).wf = true) :
    ∃ ys : List Int, len = ys.length ∧ ys.length ≤ cap ∧ IsInts w a ys ∧ ∀ n ∈ ys, (Lit.int .i64 n).wf = true := by
  rcases h with ⟨rfl, rfl, rfl, rfl⟩ | ⟨x, rfl, hl, hm, hz, hc, hw⟩
  · exact ⟨[], rfl, by simp, fun h => by simp at h, by simp⟩
  · have e : (zs.take len).length = len := by rw [List.length_take]; omega
    refine ⟨zs.take len, e.symm, by omega, fun hp => ?_, fun n hn => hw n (List.mem_of_mem_take hn)⟩
    rw [e] at hp
    obtain ⟨b, off, spot⟩ := x
    have h0 := hc 0 (by omega)
    have hspot : spot = none := by simpa [Addr.add] using World.cell?_spot h0
    subst hspot
    refine ⟨b, off, rfl, ?_, fun i hi => ?_⟩
    · have := World.block_lt_of_cell? w _ h0
      simpa [Addr.add] using this
    · rw [e] at hi
      have := hc i (by omega)
      have g : zg (zs.take len) i = zs.getD i 0 := by simp [zg, hi]
      rw [g, ← this]
      unfold Addr.add
      by_cases h : i = 0
      · subst h; simp
      · simp [h]

theorem cell_of_block {w : World} {c i : Nat} {cs : Array Value} {t : TypeId} (h : w.heap[c]? = some (.cells cs t (0, 0))) : w.cell? ⟨c, i, none⟩ = cs[i]? := by simp [World.cell?, h]

theorem frozen_of_block {w : World} {c i : Nat} {cs : Array Value} {t : TypeId} (h : w.heap[c]? = some (.cells cs t (0, 0))) : w.frozen? ⟨c, i, none⟩ = false := by simp [World.frozen?, h]

theorem block_set {w : World} {c i : Nat} {cs : Array Value} {t : TypeId} (v : Value) (h : w.heap[c]? = some (.cells cs t (0, 0))) :
    (w.setCell ⟨c, i, none⟩ v).heap[c]? = some (.cells (cs.setIfInBounds i v) t (0, 0)) := by simp [World.setCell, Array.getElem?_modify, h]

theorem grown_set {w w' : World} {c : Nat} (h : w.grownBy w' (some c)) (i : Nat) (v : Value) : w.grownBy (w'.setCell ⟨c, i, none⟩ v) (some c) :=
  ⟨h.os, h.tape, h.output, by simpa [World.setCell] using h.size, fun k hk hne => (Below.heap_setCell w' ⟨c, i, none⟩ v k (fun e => hne (by rw [e]))).trans (h.block k hk hne)⟩

theorem grown_drewN {w w' : World} {r : Option Nat} (h : w.grownBy w' r) (n : Nat) : w.grownBy (w'.drewN n) r := ⟨h.os, h.tape, h.output, h.size, h.block⟩

theorem only_trans {a b c : World} {r : Option Nat} (h : a.grownBy b r) (k : b.grownBy c r) : a.grownBy c r :=
  ⟨k.os.trans h.os, k.tape.trans h.tape, k.output.trans h.output, Nat.le_trans h.size k.size, fun i hi hne => (k.block i (Nat.lt_of_lt_of_le hi h.size) hne).trans (h.block i hi hne)⟩

theorem only_alloc {a w : World} {row : Option Nat} (h : a.grownBy w row) (o : Obj) : a.grownBy (w.alloc o) row :=
  ⟨h.os, h.tape, h.output, Nat.le_trans h.size (by simp), fun i hi hne => (Below.heap_alloc w o i (Nat.lt_of_lt_of_le hi h.size)).trans (h.block i hi hne)⟩

/-- A cell of a row of numbers that was laid just now, behind a later pick. -/
theorem made_cell {w w' : World} {c : Nat} {zs : List Int} {t : TypeId} (hc : c < w.heap.size) (hg : (w.alloc (.cells (zs.map (Value.int .i64)).toArray t)).grownBy w' (some c)) {i : Nat} (hi : i < zs.length) :
    w'.cell? ⟨w.heap.size, i, none⟩ = some (.int .i64 (zs.getD i 0)) := by
  refine hg.cell (a := ⟨w.heap.size, i, none⟩) ?_ (by simp; omega)
  rw [cell_of_block (heap_alloc_new w _)]; simp [hi]

theorem getD_mem {zs : List Int} (i : Nat) (h : i < zs.length) : zs.getD i 0 ∈ zs := by
  have e : zs.getD i 0 = zs[i] := by simp [h]
  rw [e]; exact List.getElem_mem _

theorem below_only {w w1 w2 : World} {c : Nat} (h : Below w.heap.size w w1) (hg : w1.grownBy w2 (some c)) (hc : w.heap.size ≤ c) : Below w.heap.size w w2 :=
  h.grown hg h.size (fun k e => by injection e with e; omega)

theorem wrap_bd (x : Int) : -9223372036854775808 ≤ wrap64 x ∧ wrap64 x ≤ 9223372036854775807 := by unfold wrap64; omega

def In64 (v : Int) : Prop := -9223372036854775808 ≤ v ∧ v ≤ 9223372036854775807

theorem wrapK_bd (x : Int) : In64 (IntKind.i64.wrap x) := by
  have : IntKind.i64.wrap x = wrap64 x := IntWalk.i64_left x
  rw [this]; exact wrap_bd x

theorem zg_in {zs : List Int} (h : ∀ z ∈ zs, In64 z) (i : Nat) : In64 (zg zs i) := by
  unfold zg
  by_cases hi : i < zs.length
  · exact h _ (getD_mem i hi)
  · have : zs.getD i 0 = 0 := by rw [List.getD_eq_getElem?_getD, List.getElem?_eq_none (by omega)]; rfl
    rw [this]; exact ⟨by omega, by omega⟩

/-- A cell of a row of numbers that was laid just now; and behind a later pick. -/
theorem laid_cell (w : World) (zs : List Int) (t : TypeId) {i : Nat} (hi : i < zs.length) : (w.alloc (.cells (zs.map (Value.int .i64)).toArray t)).cell? ⟨w.heap.size, i, none⟩ = some (.int .i64 (zg zs i)) := by
  rw [cell_of_block (heap_alloc_new w _)]; simp [hi, zg]

theorem laid_cell_later {w w' : World} {c : Nat} {zs : List Int} {t : TypeId} (hc : c < w.heap.size) (hg : (w.alloc (.cells (zs.map (Value.int .i64)).toArray t)).grownBy w' (some c)) {i : Nat} (hi : i < zs.length) :
    w'.cell? ⟨w.heap.size, i, none⟩ = some (.int .i64 (zg zs i)) := made_cell hc hg hi

theorem idx4 (x y z t : Int) (k : Nat) (h : k < 4) : ([Value.int .i64 x, .int .i64 y, .int .i64 z, .int .i64 t] : List Value)[k]'h = .int .i64 (zg [x, y, z, t] k) := by
  match k, h with
  | 0, _ | 1, _ | 2, _ | 3, _ => rfl

theorem idx3 (x y z : Int) (k : Nat) (h : k < 3) : ([Value.int .i64 x, .int .i64 y, .int .i64 z] : List Value)[k]'h = .int .i64 (zg [x, y, z] k) := by
  match k, h with
  | 0, _ | 1, _ | 2, _ => rfl

theorem in64_lit {n : Int} (h0 : -9223372036854775808 ≤ n) (h1 : n ≤ 9223372036854775807) : In64 n := ⟨h0, h1⟩

theorem ownsRow_only {w w' : World} {base : Nat} {e : TypeId} {size : Nat} {v : Value} {n : Nat} {xs : List Value} {c : Nat} (h : w.ownsRow base e size v n xs) (hg : w.grownBy w' (some c)) (hc : c < base) : w'.ownsRow base e size v n xs := by
  refine ⟨h.1, ?_⟩
  rcases h.2 with h | ⟨g, cap, cur, h1, h2, h3, h4⟩
  · exact .inl h
  · exact .inr ⟨g, cap, cur, h1, h2, (hg.block g (Array.getElem?_eq_some_iff.1 h3).1 (fun e => by injection e with e; omega)).trans h3, h4⟩

theorem isInts_own {w : World} {base : Nat} {t : TypeId} {A : Option Addr} {n cap : Nat} {zs : List Int} (h : w.ownsRow base t 1 (.slice A n cap) zs.length (zs.map (Value.int .i64))) : n = zs.length ∧ zs.length ≤ cap ∧ IsInts w A zs := by
  rcases h.2 with ⟨h1, h2⟩ | ⟨g, cap', cur, h1, h2, h3, h4, h5, h6, h7⟩
  · injection h1 with h1 h3 h4
    exact ⟨by omega, by omega, fun hp => by omega⟩
  · injection h1 with h1 h8 h9
    subst h1 h8 h9
    refine ⟨rfl, h4, fun hp => ⟨g, 0, rfl, (Array.getElem?_eq_some_iff.1 h3).1, fun i hi => ?_⟩⟩
    rw [cell_of_block h3, Nat.zero_add]
    have e : (cur.toList.take (zs.length * 1))[i]? = (zs.map (Value.int .i64))[i]? := by rw [h7]
    rw [List.getElem?_take, if_pos (by omega)] at e
    rw [Array.getElem?_toList] at e
    rw [e]
    simp [hi, zg]

/-- One of a row of numbers that was laid just now, chosen by a pick. -/
theorem chosen {w w' : World} {c : Nat} {t : TypeId} (zs : List Int) (P : Int → Prop) (hP : ∀ z ∈ zs, P z) (hc : c < w.heap.size) (hg : (w.alloc (.cells (zs.map (Value.int .i64)).toArray t)).grownBy w' (some c))
    {v : Int} (h0 : 0 ≤ v) (h1 : v < zs.length) : ∃ u : Int, w'.cell? ⟨w.heap.size, v.toNat, none⟩ = some (.int .i64 u) ∧ P u :=
  ⟨_, made_cell hc hg (by omega), hP _ (getD_mem _ (by omega))⟩

end Go.Proofs.Ytagaildnfbegkab
