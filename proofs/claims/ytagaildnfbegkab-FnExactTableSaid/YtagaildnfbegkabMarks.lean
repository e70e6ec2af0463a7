/-
  What the laws' mark and held functions do: they write ascending numbers into memory of the call's own, and read them back.
-/
import Derived.Test.YtagaildnfbegkabNetLaws
namespace Go.Proofs.Ytagaildnfbegkab
open Go.RowKit Go.Deep

/-- From off on block g holds the N numbers f, not frozen. -/
def OwnAt (w : World) (g : Nat) (t : TypeId) (off N : Nat) (f : Nat → Int) : Prop :=
  ∃ cur : Array Value, w.heap[g]? = some (.cells cur t (0, 0)) ∧ off + N ≤ cur.size ∧ ∀ i, i < N → cur[off + i]? = some (.int .i64 (f i))
section
variable {w w' : World} {g : Nat} {t : TypeId} {off N : Nat} {f : Nat → Int}
theorem OwnAt.lt (h : OwnAt w g t off N f) : g < w.heap.size := by obtain ⟨cur, h1, _⟩ := h; exact (Array.getElem?_eq_some_iff.1 h1).1
theorem OwnAt.cell (h : OwnAt w g t off N f) {i : Nat} (hi : i < N) : w.cell? ⟨g, off + i, none⟩ = some (.int .i64 (f i)) := by obtain ⟨cur, h1, -, h3⟩ := h; rw [cell_of_block h1]; exact h3 i hi
theorem OwnAt.frozen (h : OwnAt w g t off N f) (i : Nat) : w.frozen? ⟨g, i, none⟩ = false := by obtain ⟨cur, h1, -⟩ := h; exact frozen_of_block h1
theorem OwnAt.set (h : OwnAt w g t off N f) (i : Nat) (x : Int) : OwnAt (w.setCell ⟨g, off + i, none⟩ (.int .i64 x)) g t off N (fun j => if j = i then x else f j) := by
  obtain ⟨cur, h1, h2, h3⟩ := h
  refine ⟨cur.setIfInBounds (off + i) (.int .i64 x), block_set _ h1, by simpa using h2, fun j hj => ?_⟩
  rw [Array.getElem?_setIfInBounds]
  by_cases e : j = i
  · subst e; simp; omega
  · rw [if_neg (by omega)]; show cur[off + j]? = some (.int .i64 (if j = i then x else f j)); rw [if_neg e]; exact h3 j hj
theorem OwnAt.congr {f' : Nat → Int} (h : OwnAt w g t off N f) (e : ∀ i, i < N → f i = f' i) : OwnAt w g t off N f' := by
  obtain ⟨cur, h1, h2, h3⟩ := h
  exact ⟨cur, h1, h2, fun i hi => by rw [h3 i hi, e i hi]⟩
theorem OwnAt.of_block (h : OwnAt w g t off N f) (e : w'.heap[g]? = w.heap[g]?) : OwnAt w' g t off N f := by
  obtain ⟨cur, h1, h2⟩ := h
  exact ⟨cur, e.trans h1, h2⟩
theorem OwnAt.below (h : OwnAt w g t off N f) (hb : Below w.heap.size w w') : OwnAt w' g t off N f := h.of_block (hb.block g h.lt)
theorem OwnAt.only (h : OwnAt w g t off N f) {r : Option Nat} (hg : w.grownBy w' r) (hr : r ≠ some g) : OwnAt w' g t off N f := h.of_block (hg.block g h.lt (fun e => hr e.symm))
end
theorem ArcsRow.own {w : World} {b : Nat} {rs : List (Int × Int × Int)} (h : ArcsRow w b rs) : OwnAt w b 161 0 (rs.length * 3) (flatA rs) := by
  obtain ⟨c, h1, h2, h3⟩ := h
  exact ⟨c, h1, by omega, fun i hi => by rw [Nat.zero_add]; exact h3 i hi⟩

/-- A slice value at A over N numbers of the call's own, in a block that is not older than base. -/
def OwnSl (w : World) (base : Nat) (t : TypeId) (A : Option Addr) (N : Nat) (f : Nat → Int) : Prop := 0 < N → ∃ g off, A = some ⟨g, off, none⟩ ∧ base ≤ g ∧ OwnAt w g t off N f
/-- The block in which it lies. -/
def blk (A : Option Addr) (N : Nat) : Option Nat := if 0 < N then A.map Addr.block else none
theorem blk_some {a : Addr} {N : Nat} (h : 0 < N) : blk (some a) N = some a.block := by unfold blk; rw [if_pos h]; rfl
theorem blk_own {w : World} {base : Nat} {t : TypeId} {A : Option Addr} {N : Nat} {f : Nat → Int} (h : OwnSl w base t A N f) {g : Nat} (e : blk A N = some g) : base ≤ g ∧ g < w.heap.size := by
  unfold blk at e
  split at e
  · rename_i hp
    obtain ⟨g', off, rfl, hb, ho⟩ := h hp
    have : g' = g := by simpa using e
    subst this
    exact ⟨hb, ho.lt⟩
  · cases e

/-- What marking leaves: ascending numbers from k on; nothing else has turned. -/
def Marked (w : World) (base : Nat) (t : TypeId) (A : Option Addr) (N : Nat) (k : Int) (e : Ending) (w' : World) : Prop :=
  e = .returned (.int .i64 (k + N)) ∧ OwnSl w' base t A N (fun j => k + j) ∧ w.grownBy w' (blk A N) ∧ w'.heap.size = w.heap.size

/-- Marked so far: the first m numbers. -/
def MarkRel (w wr : World) (g : Nat) (t : TypeId) (off N : Nat) (f : Nat → Int) (k : Int) (m : Nat) : Prop :=
  OwnAt wr g t off N (fun j => if j < m then k + j else f j) ∧ w.grownBy wr (some g) ∧ wr.heap.size = w.heap.size
theorem MarkRel.start {w : World} {g : Nat} {t : TypeId} {off N : Nat} {f : Nat → Int} {k : Int} (h : OwnAt w g t off N f) : MarkRel w w g t off N f k 0 :=
  ⟨h.congr fun i _ => by rw [if_neg (by omega)], World.grownBy.refl w _, rfl⟩
theorem MarkRel.step {w wr : World} {g : Nat} {t : TypeId} {off N : Nat} {f : Nat → Int} {k : Int} {m : Nat} (h : MarkRel w wr g t off N f k m) : MarkRel w (wr.setCell ⟨g, off + m, none⟩ (.int .i64 (k + m))) g t off N f k (m + 1) :=
  ⟨(h.1.set m (k + m)).congr fun i _ => by
    by_cases e : i = m
    · subst e; rw [if_pos rfl, if_pos (by omega)]
    · rw [if_neg e]
      by_cases h' : i < m
      · rw [if_pos h', if_pos (by omega)]
      · rw [if_neg h', if_neg (by omega)], grown_set h.2.1 _ _, by simp [World.setCell, h.2.2]⟩
theorem MarkRel.done {w wr : World} {g : Nat} {t : TypeId} {off N : Nat} {f : Nat → Int} {k : Int} (h : MarkRel w wr g t off N f k N) {base : Nat} (hb : base ≤ g) (hN : 0 < N) : Marked w base t (some ⟨g, off, none⟩) N k (.returned (.int .i64 (k + N))) wr :=
  ⟨rfl, fun _ => ⟨g, off, rfl, hb, h.1.congr fun i hi => by rw [if_pos hi]⟩, by rw [blk_some hN]; exact h.2.1, h.2.2⟩
/-- The cell to be written next: there, and not frozen. -/
theorem MarkRel.here {w wr : World} {g : Nat} {t : TypeId} {off N : Nat} {f : Nat → Int} {k : Int} {m : Nat} (h : MarkRel w wr g t off N f k m) (hm : m < N) : (∃ x : Int, wr.cell? ⟨g, off + m, none⟩ = some (.int .i64 x)) ∧ wr.frozen? ⟨g, off + m, none⟩ = false :=
  ⟨⟨_, h.1.cell hm⟩, h.1.frozen _⟩

set_option maxHeartbeats 1000000 in
theorem markIntS_any (w : World) (base : Nat) (A : Option Addr) (n cap : Nat) (f : Nat → Int) (k : Int) (hn : n ≤ 1048576) (hk : 0 ≤ k ∧ k ≤ 100000000) (h : OwnSl w base 3 A n f) :
    Calls Try.prog 17 #[.slice A n cap, .int .i64 k] w (Marked w base 3 A n k) := by
  rcases Nat.eq_zero_or_pos n with rfl | hp
  · go_enter Try.func17, Try.ntmps17
    go_wp2
    refine wp_loop_rounds 1 ?_; rw [rounds_succ]
    go_wp2
    go_ret
    exact ⟨by simp, fun h => by omega, World.grownBy.refl w _, rfl⟩
  · obtain ⟨g, off, rfl, hb, ho⟩ := h (by omega)
    have R0 := MarkRel.start (k := k) ho
    go_enter Try.func17, Try.ntmps17
    go_wp2
    go_loopw [1, 5] (fun q i wr => ∃ m : Nat, m ≤ n ∧ i = .int .i64 m ∧ q = .int .i64 (k + (m : Nat)) ∧ MarkRel w wr g 3 off n f k (m)) (fun _ i _ => n - (intOf i).toNat)
    case atStart => exact ⟨0, by omega, rfl, by simp, by simpa using R0⟩
    case round =>
      clear R0
      obtain ⟨m, hm, rfl, rfl, hr⟩ := hrel
      by_cases hlt : m < n
      · have R := hr.step
        have c0 := hr.1.cell (i := m) (by omega)
        have d0 := hr.1.frozen (off + (m))
        obtain ⟨y0, hy0⟩ : ∃ y : Int, wr.cell? ⟨g, off + (m), none⟩ = some (.int .i64 y) := ⟨_, c0⟩
        clear c0
        have hb1 : 0 ≤ k + ((m : Nat) : Int) := by omega
        have hb2 : k + ((m : Nat) : Int) ≤ 200000000 := by omega
        go_wp2
        go_roundw
        case rel => exact ⟨m + 1, by omega, by go_num, congrArg (Value.int .i64) (by omega), by rw [show (m + 1) = m + 1 by omega]; exact R⟩
        case measure => simp [intOf]; omega
      · obtain rfl : m = n := by omega
        go_wp2
        go_ret
        exact hr.done hb (by omega)

set_option maxHeartbeats 1000000 in
theorem heldIntS_any (w : World) (base : Nat) (A : Option Addr) (n cap : Nat) (k : Int) (hn : n ≤ 1048576) (hk : 0 ≤ k ∧ k ≤ 100000000) (h : OwnSl w base 3 A n (fun j => k + j)) :
    Calls Try.prog 18 #[.slice A n cap, .int .i64 k] w fun e w' => e = .returned (.int .i64 (k + (n : Nat))) ∧ w = w' := by
  rcases Nat.eq_zero_or_pos n with rfl | hp
  · go_enter Try.func18, Try.ntmps18
    go_wp2
    refine wp_loop_rounds 1 ?_; rw [rounds_succ]
    go_wp2
    go_ret
    exact ⟨by simp, rfl⟩
  · obtain ⟨g, off, rfl, hb, ho⟩ := h (by omega)
    go_enter Try.func18, Try.ntmps18
    go_wp2
    go_loop [1, 5] (fun q i => ∃ m : Nat, m ≤ n ∧ i = .int .i64 m ∧ q = .int .i64 (k + (m : Nat))) (fun _ i => n - (intOf i).toNat)
    case atStart => exact ⟨0, by omega, rfl, by simp⟩
    case round =>
      obtain ⟨m, hm, rfl, rfl⟩ := hrel
      by_cases hlt : m < n
      · have hb1 : 0 ≤ k + ((m : Nat) : Int) := by omega
        have hb2 : k + ((m : Nat) : Int) ≤ 200000000 := by omega
        have c0 := ho.cell (i := m) (by omega)
        go_wp2
        go_round
        case rel => exact ⟨m + 1, by omega, by go_num, congrArg (Value.int .i64) (by omega)⟩
        case measure => simp [intOf]; omega
      · obtain rfl : m = n := by omega
        go_wp2
        go_ret
        exact ⟨rfl, rfl⟩

/-- Behind a call that writes into two blocks of the caller's own and makes memory: nothing else has turned. -/
def OnlyTwo (w w' : World) (a b : Option Nat) : Prop :=
  w'.os = w.os ∧ w'.tape = w.tape ∧ w'.output = w.output ∧ w.heap.size ≤ w'.heap.size ∧ ∀ k, k < w.heap.size → some k ≠ a → some k ≠ b → w'.heap[k]? = w.heap[k]?
theorem Pair.grown' {w w' : World} {b : Nat} {t : TypeId} {u v : Value} {r : Option Nat} (h : Pair w b t u v) (hg : w.grownBy w' r) (hr : ∀ g, r = some g → g ≠ b) : Pair w' b t u v := (hg.block b h.lt (fun e => hr b e.symm rfl)).trans h
theorem OnlyTwo.below {w w' : World} {a b : Option Nat} (h : OnlyTwo w w' a b) {base : Nat} (hs : base ≤ w.heap.size) (ha : ∀ g, a = some g → base ≤ g) (hb : ∀ g, b = some g → base ≤ g) : Below base w w' :=
  ⟨h.1, h.2.1, h.2.2.1, h.2.2.2.1, fun k hk => h.2.2.2.2 k (by omega) (fun e => by have := ha k e.symm; omega) (fun e => by have := hb k e.symm; omega)⟩
theorem OwnSl.of_block {w w' : World} {base : Nat} {t : TypeId} {A : Option Addr} {N : Nat} {f : Nat → Int} (h : OwnSl w base t A N f) (e : ∀ g, blk A N = some g → g < w.heap.size → w'.heap[g]? = w.heap[g]?) : OwnSl w' base t A N f := fun hp => by
  obtain ⟨g, off, rfl, hb, ho⟩ := h hp
  exact ⟨g, off, rfl, hb, ho.of_block (e g (blk_some hp) ho.lt)⟩
theorem OwnSl.below {w w' : World} {base : Nat} {t : TypeId} {A : Option Addr} {N : Nat} {f : Nat → Int} (h : OwnSl w base t A N f) (hb : Below w.heap.size w w') : OwnSl w' base t A N f := h.of_block fun g _ hg => hb.block g hg

/-- A network's slices lie in blocks that differ. -/
def Parted (A B : Option Addr) (N M : Nat) : Prop := ∀ g, blk A N = some g → blk B M ≠ some g

end Go.Proofs.Ytagaildnfbegkab
