/-
  Words for memory: slices that read as lists of numbers, blocks that are known whole, what stays as it was. What the two FloorDiv functions of the program and of its specification compute: the quotient rounded down (0 for the divisor 0), wrapped to 64 bits. What the two Root functions of the program and of its specification compute: the greatest number whose square is at most n, 0 for negative n. What PtOk, Dist2, DistOf, minus and times compute: whether a point is valid; squared distances and distances; vectors.
-/
import Derived.Test.YtcaamhoakhgnhaaProg
import Derived.WalkKit
import Derived.ProofKit
import Derived.Lib.Hide
import Derived.OpenShut
import Derived.Deep.OwnRows
import Derived.Deep.RegionHeld
import Derived.Deep.QuietTactic
import Derived.BigQuiet
import Derived.Maps.AppendAt
import Derived.Deep.RegionHeld3
namespace Go.Proofs.Ytcaamhoakhgnhaa
open Go.RowKit Go.Deep

/-- The i-th number of a list (0 behind its end). -/
def zg (zs : List Int) (i : Nat) : Int := zs.getD i 0

/-- The row of cells from ⟨b, off⟩ on holds the numbers zs. -/
def IntsAt (w : World) (b off : Nat) (zs : List Int) : Prop := ∀ i, i < zs.length → w.cell? ⟨b, off + i, none⟩ = some (.int .i64 (zg zs i))

theorem retI {a b : Int} (h : a = b) : Ending.returned (.int .i64 a) = .returned (.int .i64 b) := by rw [h]

theorem below_drewN {B : Nat} {a w : World} (h : Below B a w) (n : Nat) : Below B a (w.drewN n) := ⟨h.os, h.tape, h.output, h.size, h.block⟩

/-- A slice value at A reads as the numbers zs, in memory that was there. -/
def IsInts (w : World) (A : Option Addr) (zs : List Int) : Prop := 0 < zs.length → ∃ b off, A = some ⟨b, off, none⟩ ∧ b < w.heap.size ∧ IntsAt w b off zs

theorem IsInts.at_ {w : World} {A : Option Addr} {zs : List Int} (h : IsInts w A zs) {k : Nat} (hk : k < zs.length) :
    ∃ b off, A = some ⟨b, off, none⟩ ∧ b < w.heap.size ∧ w.cell? ⟨b, off + k, none⟩ = some (.int .i64 (zg zs k)) := by
  obtain ⟨b, off, h1, h2, h3⟩ := h (by omega)
  exact ⟨b, off, h1, h2, h3 k hk⟩

theorem IsInts.below {w w' : World} {A : Option Addr} {zs : List Int} (h : IsInts w A zs) (hb : Below w.heap.size w w') : IsInts w' A zs := by
  intro hp
  obtain ⟨b, off, h1, h2, h3⟩ := h hp
  exact ⟨b, off, h1, Nat.lt_of_lt_of_le h2 hb.size, fun i hi => (hb.cell (p := ⟨b, off + i, none⟩) h2).trans (h3 i hi)⟩

theorem IsInts.row {w : World} {b : Nat} {t : TypeId} {zs : List Int} (h : w.rowIs b t zs.length (fun j => .int .i64 (zg zs j))) : IsInts w (some ⟨b, 0, none⟩) zs :=
  fun _ => ⟨b, 0, rfl, h.lt, fun i hi => by rw [Nat.zero_add]; exact h.cell hi⟩

/-- A slice of integers that came in, as a law's frame tells of it. -/
theorem isInts_of {w : World} {a : Option Addr} {len cap : Nat} {zs : List Int}
    (h : (a = none ∧ len = 0 ∧ cap = 0 ∧ zs = []) ∨ ∃ x, a = some x ∧ len ≤ cap ∧ cap ≤ maxLen ∧ zs.length = cap ∧ (∀ i, i < zs.length → w.cell? (x.add i) = some (.int .i64 (zs.getD i 0))) ∧ ∀ n ∈ zs, (Lit.int .i64 n).wf = true) :
    ∃ ys : List Int, len = ys.length ∧ ys.length ≤ cap ∧ IsInts w a ys ∧ ∀ n ∈ ys, (Lit.int .i64 n).wf = true := by
  rcases h with ⟨rfl, rfl, rfl, rfl⟩ | ⟨x, rfl, hl, hm, hz, hc, hw⟩
  · exact ⟨[], rfl, by simp, fun h => by simp at h, by simp⟩
  · have e : (zs.take len).length = len := by rw [List.length_take]; omega
    refine ⟨zs.take len, e.symm, by omega, fun hp => ?_, fun n hn => hw n (List.mem_of_mem_take hn)⟩
    rw [e] at hp
    obtain ⟨b, off, spot⟩ := x
    have h0 := hc 0 (by omega)
    have hspot : spot = none := by simpa [Addr.add] using World.cell?_spot h0
    subst hspot
    refine ⟨b, off, rfl, ?_, fun i hi => ?_⟩
    · have := World.block_lt_of_cell? w _ h0
      simpa [Addr.add] using this
    · rw [e] at hi
      have := hc i (by omega)
      have g : zg (zs.take len) i = zs.getD i 0 := by simp [zg, hi]
      rw [g, ← this]
      unfold Addr.add
      by_cases h : i = 0
      · subst h; simp
      · simp [h]

theorem cell_of_block {w : World} {c i : Nat} {cs : Array Value} {t : TypeId} (h : w.heap[c]? = some (.cells cs t (0, 0))) : w.cell? ⟨c, i, none⟩ = cs[i]? := by simp [World.cell?, h]

theorem frozen_of_block {w : World} {c i : Nat} {cs : Array Value} {t : TypeId} (h : w.heap[c]? = some (.cells cs t (0, 0))) : w.frozen? ⟨c, i, none⟩ = false := by simp [World.frozen?, h]

theorem block_set {w : World} {c i : Nat} {cs : Array Value} {t : TypeId} (v : Value) (h : w.heap[c]? = some (.cells cs t (0, 0))) :
    (w.setCell ⟨c, i, none⟩ v).heap[c]? = some (.cells (cs.setIfInBounds i v) t (0, 0)) := by simp [World.setCell, Array.getElem?_modify, h]

theorem grown_set {w w' : World} {c : Nat} (h : w.grownBy w' (some c)) (i : Nat) (v : Value) : w.grownBy (w'.setCell ⟨c, i, none⟩ v) (some c) :=
  ⟨h.os, h.tape, h.output, by simpa [World.setCell] using h.size, fun k hk hne => (Below.heap_setCell w' ⟨c, i, none⟩ v k (fun e => hne (by rw [e]))).trans (h.block k hk hne)⟩

theorem grown_drewN {w w' : World} {r : Option Nat} (h : w.grownBy w' r) (n : Nat) : w.grownBy (w'.drewN n) r := ⟨h.os, h.tape, h.output, h.size, h.block⟩

theorem only_trans {a b c : World} {r : Option Nat} (h : a.grownBy b r) (k : b.grownBy c r) : a.grownBy c r :=
  ⟨k.os.trans h.os, k.tape.trans h.tape, k.output.trans h.output, Nat.le_trans h.size k.size, fun i hi hne => (k.block i (Nat.lt_of_lt_of_le hi h.size) hne).trans (h.block i hi hne)⟩

theorem only_alloc {a w : World} {row : Option Nat} (h : a.grownBy w row) (o : Obj) : a.grownBy (w.alloc o) row :=
  ⟨h.os, h.tape, h.output, Nat.le_trans h.size (by simp), fun i hi hne => (Below.heap_alloc w o i (Nat.lt_of_lt_of_le hi h.size)).trans (h.block i hi hne)⟩

/-- A cell of a row of numbers that was laid just now, behind a later pick. -/
theorem made_cell {w w' : World} {c : Nat} {zs : List Int} {t : TypeId} (hc : c < w.heap.size) (hg : (w.alloc (.cells (zs.map (Value.int .i64)).toArray t)).grownBy w' (some c)) {i : Nat} (hi : i < zs.length) :
    w'.cell? ⟨w.heap.size, i, none⟩ = some (.int .i64 (zs.getD i 0)) := by
  refine hg.cell (a := ⟨w.heap.size, i, none⟩) ?_ (by simp; omega)
  rw [cell_of_block (heap_alloc_new w _)]; simp [hi]

theorem getD_mem {zs : List Int} (i : Nat) (h : i < zs.length) : zs.getD i 0 ∈ zs := by
  have e : zs.getD i 0 = zs[i] := by simp [h]
  rw [e]; exact List.getElem_mem _

theorem below_only {w w1 w2 : World} {c : Nat} (h : Below w.heap.size w w1) (hg : w1.grownBy w2 (some c)) (hc : w.heap.size ≤ c) : Below w.heap.size w w2 :=
  h.grown hg h.size (fun k e => by injection e with e; omega)

theorem wrap_bd (x : Int) : -9223372036854775808 ≤ wrap64 x ∧ wrap64 x ≤ 9223372036854775807 := by unfold wrap64; omega

def In64 (v : Int) : Prop := -9223372036854775808 ≤ v ∧ v ≤ 9223372036854775807

theorem wrapK_bd (x : Int) : In64 (IntKind.i64.wrap x) := by
  have : IntKind.i64.wrap x = wrap64 x := IntWalk.i64_left x
  rw [this]; exact wrap_bd x

theorem zg_in {zs : List Int} (h : ∀ z ∈ zs, In64 z) (i : Nat) : In64 (zg zs i) := by
  unfold zg
  by_cases hi : i < zs.length
  · exact h _ (getD_mem i hi)
  · have : zs.getD i 0 = 0 := by rw [List.getD_eq_getElem?_getD, List.getElem?_eq_none (by omega)]; rfl
    rw [this]; exact ⟨by omega, by omega⟩

/-- A cell of a row of numbers that was laid just now; and behind a later pick. -/
theorem laid_cell (w : World) (zs : List Int) (t : TypeId) {i : Nat} (hi : i < zs.length) : (w.alloc (.cells (zs.map (Value.int .i64)).toArray t)).cell? ⟨w.heap.size, i, none⟩ = some (.int .i64 (zg zs i)) := by
  rw [cell_of_block (heap_alloc_new w _)]; simp [hi, zg]

theorem laid_cell_later {w w' : World} {c : Nat} {zs : List Int} {t : TypeId} (hc : c < w.heap.size) (hg : (w.alloc (.cells (zs.map (Value.int .i64)).toArray t)).grownBy w' (some c)) {i : Nat} (hi : i < zs.length) :
    w'.cell? ⟨w.heap.size, i, none⟩ = some (.int .i64 (zg zs i)) := made_cell hc hg hi

theorem idx4 (x y z t : Int) (k : Nat) (h : k < 4) : ([Value.int .i64 x, .int .i64 y, .int .i64 z, .int .i64 t] : List Value)[k]'h = .int .i64 (zg [x, y, z, t] k) := by
  match k, h with
  | 0, _ | 1, _ | 2, _ | 3, _ => rfl

theorem idx3 (x y z : Int) (k : Nat) (h : k < 3) : ([Value.int .i64 x, .int .i64 y, .int .i64 z] : List Value)[k]'h = .int .i64 (zg [x, y, z] k) := by
  match k, h with
  | 0, _ | 1, _ | 2, _ => rfl

theorem in64_lit {n : Int} (h0 : -9223372036854775808 ≤ n) (h1 : n ≤ 9223372036854775807) : In64 n := ⟨h0, h1⟩

theorem ownsRow_only {w w' : World} {base : Nat} {e : TypeId} {size : Nat} {v : Value} {n : Nat} {xs : List Value} {c : Nat} (h : w.ownsRow base e size v n xs) (hg : w.grownBy w' (some c)) (hc : c < base) : w'.ownsRow base e size v n xs := by
  refine ⟨h.1, ?_⟩
  rcases h.2 with h | ⟨g, cap, cur, h1, h2, h3, h4⟩
  · exact .inl h
  · exact .inr ⟨g, cap, cur, h1, h2, (hg.block g (Array.getElem?_eq_some_iff.1 h3).1 (fun e => by injection e with e; omega)).trans h3, h4⟩

theorem isInts_own {w : World} {base : Nat} {t : TypeId} {A : Option Addr} {n cap : Nat} {zs : List Int} (h : w.ownsRow base t 1 (.slice A n cap) zs.length (zs.map (Value.int .i64))) : n = zs.length ∧ zs.length ≤ cap ∧ IsInts w A zs := by
  rcases h.2 with ⟨h1, h2⟩ | ⟨g, cap', cur, h1, h2, h3, h4, h5, h6, h7⟩
  · injection h1 with h1 h3 h4
    exact ⟨by omega, by omega, fun hp => by omega⟩
  · injection h1 with h1 h8 h9
    subst h1 h8 h9
    refine ⟨rfl, h4, fun hp => ⟨g, 0, rfl, (Array.getElem?_eq_some_iff.1 h3).1, fun i hi => ?_⟩⟩
    rw [cell_of_block h3, Nat.zero_add]
    have e : (cur.toList.take (zs.length * 1))[i]? = (zs.map (Value.int .i64))[i]? := by rw [h7]
    rw [List.getElem?_take, if_pos (by omega)] at e
    rw [Array.getElem?_toList] at e
    rw [e]
    simp [hi, zg]

/-- One of a row of numbers that was laid just now, chosen by a pick. -/
theorem chosen {w w' : World} {c : Nat} {t : TypeId} (zs : List Int) (P : Int → Prop) (hP : ∀ z ∈ zs, P z) (hc : c < w.heap.size) (hg : (w.alloc (.cells (zs.map (Value.int .i64)).toArray t)).grownBy w' (some c))
    {v : Int} (h0 : 0 ≤ v) (h1 : v < zs.length) : ∃ u : Int, w'.cell? ⟨w.heap.size, v.toNat, none⟩ = some (.int .i64 u) ∧ P u :=
  ⟨_, made_cell hc hg (by omega), hP _ (getD_mem _ (by omega))⟩

end Go.Proofs.Ytcaamhoakhgnhaa

namespace Go.Proofs.Ytcaamhoakhgnhaa
open Go.RowKit

/-- The quotient rounded down, as a number of 64 bits. -/
def fd (a b : Int) : Int := wrap64 (a.fdiv b)

theorem fd_zero (a : Int) : fd a 0 = 0 := by simp [fd, wrap64]

theorem fd_same (a b : Int) (h : a.tmod b = 0 ∨ (a < 0 ↔ b < 0)) : wrap64 (a.tdiv b) = fd a b := by
  unfold fd
  rw [Int.fdiv_eq_tdiv]
  by_cases hd : b ∣ a
  · rw [if_pos hd]; simp
  · have hm : a.tmod b ≠ 0 := fun e => hd (Int.dvd_of_tmod_eq_zero e)
    rcases h with h | h
    · exact absurd h hm
    · rw [if_neg hd]
      by_cases ha : 0 ≤ a
      · have : 0 ≤ b := by omega
        rw [if_pos ha, if_pos this]; simp
      · have : ¬ 0 ≤ b := by omega
        rw [if_neg ha, if_neg this]
        have : b.sign = -1 := Int.sign_eq_neg_one_of_neg (by omega)
        rw [this]; simp

theorem fd_less (a b : Int) (h : a.tmod b ≠ 0) (h' : ¬ (a < 0 ↔ b < 0)) (hb : b ≠ 0) : wrap64 (wrap64 (a.tdiv b) - 1) = fd a b := by
  have e : wrap64 (wrap64 (a.tdiv b) - 1) = wrap64 (a.tdiv b - 1) := by unfold wrap64; omega
  rw [e]; unfold fd
  rw [Int.fdiv_eq_tdiv]
  have hd : ¬ b ∣ a := fun hd => h (Int.tmod_eq_zero_of_dvd hd)
  rw [if_neg hd]
  by_cases ha : 0 ≤ a
  · have : ¬ 0 ≤ b := by omega
    rw [if_pos ha, if_neg this]
  · have : 0 ≤ b := by omega
    rw [if_neg ha, if_pos this]
    have : b.sign = 1 := Int.sign_eq_one_of_pos (by omega)
    rw [this]

theorem sign_prod (x y : Int) : wrap64 (x.sign * y.sign) = x.sign * y.sign := by
  have := Int.sign_trichotomy x
  have := Int.sign_trichotomy y
  unfold wrap64
  rcases Int.sign_trichotomy x with h | h | h <;> rcases Int.sign_trichotomy y with h' | h' | h' <;> rw [h, h'] <;> decide

theorem tmod_sign (a b : Int) (h : a.tmod b ≠ 0) : (a.tmod b < 0 ↔ a < 0) := by
  have h1 : 0 ≤ a → 0 ≤ a.tmod b := Int.tmod_nonneg b
  have h2 : 0 ≤ -a → 0 ≤ (-a).tmod b := Int.tmod_nonneg b
  rw [Int.neg_tmod] at h2
  omega

theorem sign_down (a b : Int) (h : a.tmod b ≠ 0) (h' : ¬ (a < 0 ↔ b < 0)) (hb : b ≠ 0) : (wrap64 ((a.tmod b).sign * b.sign) == -1) = true := by
  rw [sign_prod]
  have := tmod_sign a b h
  by_cases hn : b < 0
  · rw [Int.sign_eq_neg_one_of_neg hn, Int.sign_eq_one_of_pos (by omega)]; decide
  · rw [Int.sign_eq_one_of_pos (by omega : 0 < b), Int.sign_eq_neg_one_of_neg (by omega)]; decide

theorem sign_same (a b : Int) (h : a.tmod b = 0 ∨ (a < 0 ↔ b < 0)) : (wrap64 ((a.tmod b).sign * b.sign) == -1) = false := by
  rw [sign_prod]
  by_cases h0 : a.tmod b = 0
  · rw [h0]; simp
  · have := tmod_sign a b h0
    have h := h.resolve_left h0
    by_cases hn : b < 0
    · rw [Int.sign_eq_neg_one_of_neg hn, Int.sign_eq_neg_one_of_neg (by omega)]; decide
    · rw [Int.sign_eq_one_of_pos (by omega : 0 < a.tmod b)]
      by_cases hb : b = 0
      · subst hb; simp
      · rw [Int.sign_eq_one_of_pos (by omega : 0 < b)]; decide

theorem ret_int {k : IntKind} {a b : Int} (h : a = b) : Ending.returned (.int k a) = .returned (.int k b) := by rw [h]

theorem fd_pos {a b : Int} (hb : 0 < b) (h0 : -9223372036854775808 ≤ a) (h1 : a ≤ 9223372036854775807) : fd a b = a / b := by
  unfold fd
  rw [Int.fdiv_eq_ediv, if_pos (.inl (by omega))]
  have l0 := Int.ediv_mul_le a (b := b) (by omega)
  have l1 := Int.lt_ediv_add_one_mul_self a hb
  have k0 : a / b ≤ 9223372036854775807 := by
    rcases Int.lt_or_le a 0 with h | h
    · have := Int.ediv_neg_of_neg_of_pos h hb; omega
    · have := Int.ediv_le_self b h; omega
  have k1 : -9223372036854775808 ≤ a / b := by
    rcases Int.lt_or_le a 0 with h | h
    · have : -9223372036854775808 / b ≤ a / b := Int.ediv_le_ediv hb h0
      have : -9223372036854775808 ≤ -9223372036854775808 / b := by
        rw [Int.le_ediv_iff_mul_le hb]
        omega
      omega
    · have := Int.ediv_nonneg h (Int.le_of_lt hb); omega
  have : a / b - 0 = a / b := by omega
  rw [this]; unfold wrap64; omega

/-- What the law of floors asks of a quotient of small numbers. -/
theorem fd_laws {a b : Int} (hb : 0 < b) (hb' : b < 1000) (h0 : -1000000000 < a) (h1 : a < 1000000000) :
    -1000000000 ≤ fd a b ∧ fd a b ≤ 1000000000 ∧ wrap64 (fd a b * b) ≤ a ∧ a < wrap64 ((fd a b + 1) * b) := by
  rw [fd_pos hb (by omega) (by omega)]
  have l0 := Int.ediv_mul_le a (b := b) (by omega)
  have l1 := Int.lt_ediv_add_one_mul_self a hb
  have e1 : (a / b + 1) * b = a / b * b + b := by rw [Int.add_mul, Int.one_mul]
  have k0 : a / b ≤ 1000000000 := by
    rcases Int.lt_or_le a 0 with h | h
    · have := Int.ediv_neg_of_neg_of_pos h hb; omega
    · have := Int.ediv_le_self b h; omega
  have k1 : -1000000000 ≤ a / b := by
    rw [Int.le_ediv_iff_mul_le hb]
    omega
  rw [e1] at l1 ⊢
  refine ⟨k1, k0, ?_, ?_⟩ <;> unfold wrap64 <;> omega

end Go.Proofs.Ytcaamhoakhgnhaa

namespace Go.Proofs.Ytcaamhoakhgnhaa
open Go.RowKit

def rtUp (b : Int) : Int := if b = 0 then 1 else 2 * b
def IsBit (b : Int) : Prop := b = 0 ∨ ∃ k : Nat, k ≤ 31 ∧ b = 2 ^ k
/-- What holds at the head of the loop: r is a lower bound, the bit b says how much is open. -/
def RootInv (n r b : Int) : Prop := 0 ≤ r ∧ r * r ≤ n ∧ IsBit b ∧ n < (r + rtUp b) * (r + rtUp b) ∧ r + rtUp b ≤ 4294967296

theorem isBit_half {b : Int} (h : IsBit b) (hp : 0 < b) : IsBit (b / 2) ∧ rtUp (b / 2) = b := by
  rcases h with rfl | ⟨k, hk, rfl⟩
  · omega
  · cases k with
    | zero => simp [rtUp, IsBit]
    | succ k =>
      have e : (2 : Int) ^ (k + 1) / 2 = 2 ^ k := by rw [Int.pow_succ]; omega
      rw [e]
      refine ⟨.inr ⟨k, by omega, rfl⟩, ?_⟩
      have : (2 : Int) ^ k ≠ 0 := by
        have := Int.pow_pos (n := 2) (m := k) (by decide); omega
      simp [rtUp, this]; rw [Int.pow_succ]; omega

theorem isBit_nonneg {b : Int} (h : IsBit b) : 0 ≤ b := by
  rcases h with rfl | ⟨k, _, rfl⟩
  · omega
  · exact Int.le_of_lt (Int.pow_pos (by decide))

theorem rtUp_pos {b : Int} (hp : 0 < b) : rtUp b = 2 * b := by unfold rtUp; rw [if_neg (by omega)]

theorem rootInv_up {n r b : Int} (h : RootInv n r b) (hp : 0 < b) (hle : (r + b) * (r + b) ≤ n) : RootInv n (r + b) (b / 2) := by
  obtain ⟨h1, _, h3, h4, h5⟩ := h
  obtain ⟨g1, g2⟩ := isBit_half h3 hp
  rw [rtUp_pos hp] at h4 h5
  refine ⟨by omega, hle, g1, ?_, by rw [g2]; omega⟩
  rw [g2]; have : r + b + b = r + 2 * b := by omega
  rw [this]; exact h4

theorem rootInv_stay {n r b : Int} (h : RootInv n r b) (hp : 0 < b) (hlt : n < (r + b) * (r + b)) : RootInv n r (b / 2) := by
  obtain ⟨h1, h2, h3, _, h5⟩ := h
  obtain ⟨g1, g2⟩ := isBit_half h3 hp
  rw [rtUp_pos hp] at h5
  exact ⟨h1, h2, g1, by rw [g2]; exact hlt, by rw [g2]; omega⟩

theorem rootInv_start {n : Int} (h0 : 0 ≤ n) (h1 : n ≤ 9223372036854775807) : RootInv n 0 2147483648 := by
  refine ⟨by omega, by omega, .inr ⟨31, by omega, rfl⟩, ?_, ?_⟩ <;> simp only [rtUp] <;> simp <;> omega

/-- The root: the greatest number whose square is at most n (0 for negative n). -/
def rtLoop (n : Int) : Nat → Int → Int → Int
  | 0, _, r => r
  | k + 1, b, r => if (r + b) * (r + b) ≤ n then rtLoop n k (b / 2) (r + b) else rtLoop n k (b / 2) r
def rt (n : Int) : Int := if n < 0 then 0 else rtLoop n 32 2147483648 0

theorem rtLoop_zero {n : Int} : ∀ (k : Nat) (r : Int), rtLoop n k 0 r = r
  | 0, _ => rfl
  | k + 1, r => by rw [rtLoop]; simp [rtLoop_zero k]

theorem rtLoop_inv {n : Int} : ∀ (k : Nat) {b r : Int}, RootInv n r b → b < 2 ^ k → RootInv n (rtLoop n k b r) 0
  | 0, b, r, h, hk => by
    have h0 := isBit_nonneg h.2.2.1
    obtain rfl : b = 0 := by simp at hk; omega
    exact h
  | k + 1, b, r, h, hk => by
    have h0 := isBit_nonneg h.2.2.1
    by_cases hp : 0 < b
    · have hk' : b / 2 < 2 ^ k := by rw [Int.pow_succ] at hk; omega
      rw [rtLoop]
      split
      · exact rtLoop_inv k (rootInv_up h hp ‹_›) hk'
      · exact rtLoop_inv k (rootInv_stay h hp (by omega)) hk'
    · obtain rfl : b = 0 := by omega
      rw [rtLoop_zero]; exact h

theorem sq_mono {a b : Int} (h0 : 0 ≤ a) (h : a ≤ b) : a * a ≤ b * b := Int.mul_le_mul h h h0 (by omega)

theorem root_unique {n r s : Int} (h : RootInv n r 0) (g : RootInv n s 0) : r = s := by
  obtain ⟨h1, h2, _, h4, _⟩ := h
  obtain ⟨g1, g2, _, g4, _⟩ := g
  simp [rtUp] at h4 g4
  rcases Int.lt_trichotomy r s with h | h | h
  · have := sq_mono (a := r + 1) (b := s) (by omega) (by omega); omega
  · exact h
  · have := sq_mono (a := s + 1) (b := r) (by omega) (by omega); omega

theorem rt_inv {n : Int} (h0 : 0 ≤ n) (h1 : n ≤ 9223372036854775807) : RootInv n (rt n) 0 := by
  unfold rt; rw [if_neg (by omega)]
  exact rtLoop_inv 32 (rootInv_start h0 h1) (by decide)

theorem rt_of {n r : Int} (h0 : 0 ≤ n) (h1 : n ≤ 9223372036854775807) (h : RootInv n r 0) : r = rt n := root_unique h (rt_inv h0 h1)
theorem rt_neg {n : Int} (h : n < 0) : rt n = 0 := by unfold rt; rw [if_pos h]

theorem sq_small {k : Int} (h0 : 0 ≤ k) (h : k ≤ 3037000499) : wrap64 (k * k) = k * k := by
  have h1 := sq_mono h0 h
  have h2 : 0 ≤ k * k := Int.mul_nonneg h0 h0
  have h3 : (3037000499 : Int) * 3037000499 = 9223372030926249001 := by decide
  rw [h3] at h1
  unfold wrap64; omega

theorem sq_great {n k : Int} (h1 : n ≤ 9223372036854775807) (h : 3037000500 ≤ k) : n < k * k := by
  have h1 := sq_mono (by omega : (0 : Int) ≤ 3037000500) h
  have h3 : (3037000500 : Int) * 3037000500 = 9223372037000250000 := by decide
  rw [h3] at h1
  omega

theorem quo_neg {n y : Int} (h0 : n < 0) (hp : 0 < y) : n.tdiv y < y := by
  have h3 : (-n).tdiv y = -(n.tdiv y) := Int.neg_tdiv ..
  have h4 : 0 ≤ (-n).tdiv y := Int.tdiv_nonneg (by omega) (by omega)
  omega

theorem ret_i64 {a b : Int} (h : a = b) : Ending.returned (.int .i64 a) = .returned (.int .i64 b) := by rw [h]

theorem rootInv_bd {n r b : Int} (h : RootInv n r b) (hp : 0 < b) : 0 ≤ r ∧ r + b ≤ 4294967296 ∧ b ≤ 4294967296 := by
  obtain ⟨h1, _, _, _, h5⟩ := h
  rw [rtUp_pos hp] at h5
  omega

theorem rt_le {n : Int} (h0 : 0 ≤ n) (h1 : n ≤ 9223372036854775807) : 0 ≤ rt n ∧ rt n ≤ 3037000499 ∧ rt n * rt n ≤ n ∧ n < (rt n + 1) * (rt n + 1) := by
  obtain ⟨t1, t2, _, t4, _⟩ := rt_inv h0 h1
  simp [rtUp] at t4
  refine ⟨t1, ?_, t2, t4⟩
  rcases Int.lt_or_le 3037000499 (rt n) with h | h
  · have := sq_great h1 (k := rt n) (by omega); omega
  · exact h

theorem rt_laws {n : Int} (h0 : 0 ≤ n) (h1 : n ≤ 9223372036854775807) : wrap64 (rt n * rt n) ≤ n ∧ (rt n ≠ 3037000499 → n < wrap64 ((rt n + 1) * (rt n + 1))) := by
  obtain ⟨t1, t2, t3, t4⟩ := rt_le h0 h1
  refine ⟨by rw [sq_small t1 t2]; exact t3, fun h => by rw [sq_small (by omega) (by omega)]; exact t4⟩

set_option maxHeartbeats 400000 in
theorem specRoot_pos (n : Int) (w : World) (h0 : 0 ≤ n) (h1 : n ≤ 9223372036854775807) : Calls Try.prog 111 #[.int .i64 n] w fun e w' => e = .returned (.int .i64 (rt n)) ∧ w = w' := by
  go_enter Try.func111, Try.ntmps111
  go_wp2
  go_loop [3, 4] (fun r b => ∃ x y : Int, RootInv n x y ∧ r = .int .i64 x ∧ b = .int .i64 y) (fun _ b => (intOf b).toNat)
  case atStart => exact ⟨0, 2147483648, rootInv_start h0 h1, rfl, rfl⟩
  case round =>
    obtain ⟨x, y, hi, rfl, rfl⟩ := hrel
    have hy := isBit_nonneg hi.2.2.1
    by_cases hp : 0 < y
    · obtain ⟨b1, b2, b3⟩ := rootInv_bd hi hp
      go_wp2
      · go_round
        case rel => exact ⟨x + y, y / 2, rootInv_up hi hp (by rw [← sq_small (by omega) ‹_›]; assumption), rfl, rfl⟩
        case measure => simp [intOf]; omega
      · go_round
        case rel => exact ⟨x, y / 2, rootInv_stay hi hp (by rw [← sq_small (by omega) ‹_›]; assumption), rfl, rfl⟩
        case measure => simp [intOf]; omega
      · go_round
        case rel => exact ⟨x, y / 2, rootInv_stay hi hp (sq_great h1 (by omega)), rfl, rfl⟩
        case measure => simp [intOf]; omega
    · obtain rfl : y = 0 := by omega
      have H := Lib.hid (rt_of h0 h1 hi)
      go_wp2
      go_ret
      exact ⟨ret_i64 H.out, rfl⟩

theorem specRoot_any (n : Int) (w : World) (h1 : n ≤ 9223372036854775807) : Calls Try.prog 111 #[.int .i64 n] w fun e w' => e = .returned (.int .i64 (rt n)) ∧ w = w' := by
  by_cases h0 : n < 0
  · have H := Lib.hid (rt_neg h0)
    go_enter Try.func111, Try.ntmps111
    go_wp2
    go_ret
    exact ⟨ret_i64 H.out.symm, rfl⟩
  · exact specRoot_pos n w (by omega) h1

end Go.Proofs.Ytcaamhoakhgnhaa

namespace Go.Proofs.Ytcaamhoakhgnhaa
open Go.RowKit Go.Deep

theorem retB {a b : Bool} (h : a = b) : Ending.returned (.bool a) = .returned (.bool b) := by rw [h]

/-- Whether a number lies between two; whether a point is valid. -/
def btB (n a b : Int) : Bool := decide (a ≤ n ∧ n ≤ b)
def ptB (x y : Int) : Bool := decide (-10000 ≤ x ∧ x ≤ 10000 ∧ -10000 ≤ y ∧ y ≤ 10000)

theorem btB_true {n a b : Int} (h1 : a ≤ n) (h2 : n ≤ b) : btB n a b = true := decide_eq_true ⟨h1, h2⟩
theorem btB_low {n a b : Int} (h : ¬ a ≤ n) : btB n a b = false := decide_eq_false fun k => h k.1
theorem btB_high {n a b : Int} (h : ¬ n ≤ b) : btB n a b = false := decide_eq_false fun k => h k.2
theorem ptB_true {x y : Int} (h : ptB x y = true) : -10000 ≤ x ∧ x ≤ 10000 ∧ -10000 ≤ y ∧ y ≤ 10000 := of_decide_eq_true h
theorem ptB_mk {x y : Int} (h : -10000 ≤ x ∧ x ≤ 10000 ∧ -10000 ≤ y ∧ y ≤ 10000) : ptB x y = true := decide_eq_true h
theorem ptB_bt (x y : Int) : ptB x y = (btB x (-10000) 10000 && btB y (-10000) 10000) := by
  unfold ptB btB; rw [Bool.eq_iff_iff]; simp; constructor
  · rintro ⟨a, b, c, d⟩; exact ⟨⟨a, b⟩, c, d⟩
  · rintro ⟨⟨a, b⟩, c, d⟩; exact ⟨a, b, c, d⟩
theorem ptB_of {x y : Int} (h : btB x (-10000) 10000 = true) : ptB x y = btB y (-10000) 10000 := by rw [ptB_bt, h]; rfl
theorem ptB_not {x y : Int} (h : btB x (-10000) 10000 = false) : ptB x y = false := by rw [ptB_bt, h]; rfl

theorem bcell {W w1 : World} (hb : Below W.heap.size W w1) : (∀ b o, b < W.heap.size → w1.cell? ⟨b, o, none⟩ = W.cell? ⟨b, o, none⟩) ∧ (∀ b o, b < W.heap.size → w1.frozen? ⟨b, o, none⟩ = W.frozen? ⟨b, o, none⟩) :=
  ⟨fun b o h => hb.cell (p := ⟨b, o, none⟩) h, fun b o h => hb.frozen (p := ⟨b, o, none⟩) h⟩

/-- Block b holds the point (x, y). -/
def PtAt (w : World) (b : Nat) (x y : Int) : Prop := b < w.heap.size ∧ w.cell? ⟨b, 0, none⟩ = some (.int .i64 x) ∧ w.cell? ⟨b, 1, none⟩ = some (.int .i64 y)
theorem PtAt.below {w w' : World} {b : Nat} {x y : Int} (h : PtAt w b x y) (hb : Below w.heap.size w w') : PtAt w' b x y :=
  ⟨Nat.lt_of_lt_of_le h.1 hb.size, (hb.cell (p := ⟨b, 0, none⟩) h.1).trans h.2.1, (hb.cell (p := ⟨b, 1, none⟩) h.1).trans h.2.2⟩
theorem PtAt.cells {w : World} {b : Nat} {x y : Int} (h : PtAt w b x y) : w.cell? ⟨b, 0, none⟩ = some (.int .i64 x) ∧ w.cell? ⟨b, 1, none⟩ = some (.int .i64 y) := h.2
theorem PtAt.new (w : World) (x y : Int) (t : TypeId) : PtAt (w.alloc (.cells #[.int .i64 x, .int .i64 y] t)) w.heap.size x y :=
  ⟨by simp, by rw [cell_of_block (heap_alloc_new w _)]; rfl, by rw [cell_of_block (heap_alloc_new w _)]; rfl⟩
theorem PtAt.alloc {w : World} {b : Nat} {x y : Int} (h : PtAt w b x y) (o : Obj) : PtAt (w.alloc o) b x y :=
  ⟨by have := h.1; simp; omega, (World.cell?_alloc_lt w _ ⟨b, 0, none⟩ h.1).trans h.2.1, (World.cell?_alloc_lt w _ ⟨b, 1, none⟩ h.1).trans h.2.2⟩
theorem PtAt.new' {w : World} {b : Nat} (hb : b = w.heap.size) (x y : Int) (t : TypeId) : PtAt (w.alloc (.cells #[.int .i64 x, .int .i64 y] t)) b x y := by subst hb; exact PtAt.new w x y t

theorem boxed1 (w : World) (ax ay : Int) (t : TypeId) : PtAt (w.alloc (.cells #[.int .i64 ax, .int .i64 ay] t)) w.heap.size ax ay ∧ Below w.heap.size w (w.alloc (.cells #[.int .i64 ax, .int .i64 ay] t)) :=
  ⟨PtAt.new _ _ _ _, (Below.refl _ _).alloc (Nat.le_refl _) _⟩
theorem boxed2 (w : World) (ax ay bx by_ : Int) (t : TypeId) : PtAt ((w.alloc (.cells #[.int .i64 ax, .int .i64 ay] t)).alloc (.cells #[.int .i64 bx, .int .i64 by_] t)) w.heap.size ax ay ∧
    PtAt ((w.alloc (.cells #[.int .i64 ax, .int .i64 ay] t)).alloc (.cells #[.int .i64 bx, .int .i64 by_] t)) (w.heap.size + 1) bx by_ ∧ Below w.heap.size w ((w.alloc (.cells #[.int .i64 ax, .int .i64 ay] t)).alloc (.cells #[.int .i64 bx, .int .i64 by_] t)) :=
  ⟨(PtAt.new _ _ _ _).alloc _, PtAt.new' (by simp) _ _ _, (boxed1 w ax ay t).2.alloc (by simp) _⟩
theorem boxed3 (w : World) (ax ay bx by_ cx cy : Int) (t : TypeId) : PtAt (((w.alloc (.cells #[.int .i64 ax, .int .i64 ay] t)).alloc (.cells #[.int .i64 bx, .int .i64 by_] t)).alloc (.cells #[.int .i64 cx, .int .i64 cy] t)) w.heap.size ax ay ∧
    PtAt (((w.alloc (.cells #[.int .i64 ax, .int .i64 ay] t)).alloc (.cells #[.int .i64 bx, .int .i64 by_] t)).alloc (.cells #[.int .i64 cx, .int .i64 cy] t)) (w.heap.size + 1) bx by_ ∧
    PtAt (((w.alloc (.cells #[.int .i64 ax, .int .i64 ay] t)).alloc (.cells #[.int .i64 bx, .int .i64 by_] t)).alloc (.cells #[.int .i64 cx, .int .i64 cy] t)) (w.heap.size + 2) cx cy ∧
    Below w.heap.size w (((w.alloc (.cells #[.int .i64 ax, .int .i64 ay] t)).alloc (.cells #[.int .i64 bx, .int .i64 by_] t)).alloc (.cells #[.int .i64 cx, .int .i64 cy] t)) :=
  ⟨(boxed2 w ax ay bx by_ t).1.alloc _, (boxed2 w ax ay bx by_ t).2.1.alloc _, PtAt.new' (by simp) _ _ _, (boxed2 w ax ay bx by_ t).2.2.alloc (by simp; omega) _⟩

theorem below1 (w : World) (o : Obj) : Below w.heap.size w (w.alloc o) := (Below.refl _ _).alloc (Nat.le_refl _) _
theorem below2 (w : World) (o p : Obj) : Below w.heap.size w ((w.alloc o).alloc p) := (below1 w o).alloc (by simp) _
theorem below3 (w : World) (o p q : Obj) : Below w.heap.size w (((w.alloc o).alloc p).alloc q) := (below2 w o p).alloc (by simp; omega) _

theorem between_any (n a b : Int) (w : World) : Calls Try.prog 58 #[.int .i64 n, .int .i64 a, .int .i64 b] w fun e w' => e = .returned (.bool (btB n a b)) ∧ w = w' := by
  by_cases h1 : a ≤ n
  · by_cases h2 : n ≤ b
    · have H := Lib.hid (btB_true h1 h2)
      go_enter Try.func58, Try.ntmps58
      go_wp2
      go_ret
      exact ⟨retB H.out.symm, rfl⟩
    · have H := Lib.hid (btB_high (a := a) h2)
      go_enter Try.func58, Try.ntmps58
      go_wp2
      go_ret
      exact ⟨retB H.out.symm, rfl⟩
  · have H := Lib.hid (btB_low (b := b) h1)
    go_enter Try.func58, Try.ntmps58
    go_wp2
    go_ret
    exact ⟨retB H.out.symm, rfl⟩

theorem atOk_any (n : Int) (w : World) : Calls Try.prog 98 #[.int .i64 n] w fun e w' => e = .returned (.bool (btB n (-10000) 10000)) ∧ w = w' := by
  by_cases h1 : -10000 ≤ n
  · by_cases h2 : n ≤ 10000
    · have H := Lib.hid (btB_true h1 h2)
      go_enter Try.func98, Try.ntmps98
      go_wp2
      go_ret
      exact ⟨retB H.out.symm, rfl⟩
    · have H := Lib.hid (btB_high (a := -10000) h2)
      go_enter Try.func98, Try.ntmps98
      go_wp2
      go_ret
      exact ⟨retB H.out.symm, rfl⟩
  · have H := Lib.hid (btB_low (b := 10000) h1)
    go_enter Try.func98, Try.ntmps98
    go_wp2
    go_ret
    exact ⟨retB H.out.symm, rfl⟩

theorem specPtOk_any (x y : Int) (w : World) : Calls Try.prog 84 #[.agg #[.int .i64 x, .int .i64 y]] w fun e w' => e = .returned (.bool (ptB x y)) ∧ Below w.heap.size w w' := by
  cases hd : btB x (-10000) 10000 with
  | true =>
    have H := Lib.hid (ptB_of (y := y) hd)
    go_enter Try.func84, Try.ntmps84
    go_wp2_with (go_at_call 58; refine (between_any _ _ _ _).mono ?_; rintro e w' ⟨rfl, rfl⟩)
    go_ret
    exact ⟨retB H.out.symm, below1 _ _⟩
  | false =>
    have H := Lib.hid (ptB_not (y := y) hd)
    go_enter Try.func84, Try.ntmps84
    go_wp2_with (go_at_call 58; refine (between_any _ _ _ _).mono ?_; rintro e w' ⟨rfl, rfl⟩)
    go_ret
    exact ⟨retB H.out.symm, below1 _ _⟩

theorem implPtOk_any (x y : Int) (w : World) : Calls Try.prog 75 #[.agg #[.int .i64 x, .int .i64 y]] w fun e w' => e = .returned (.bool (ptB x y)) ∧ Below w.heap.size w w' := by
  cases hd : btB x (-10000) 10000 with
  | true =>
    have H := Lib.hid (ptB_of (y := y) hd)
    go_enter Try.func75, Try.ntmps75
    go_wp2_with (go_at_call 98; refine (atOk_any _ _).mono ?_; rintro e w' ⟨rfl, rfl⟩)
    go_ret
    exact ⟨retB H.out.symm, below1 _ _⟩
  | false =>
    have H := Lib.hid (ptB_not (y := y) hd)
    go_enter Try.func75, Try.ntmps75
    go_wp2_with (go_at_call 98; refine (atOk_any _ _).mono ?_; rintro e w' ⟨rfl, rfl⟩)
    go_ret
    exact ⟨retB H.out.symm, below1 _ _⟩

end Go.Proofs.Ytcaamhoakhgnhaa
