/-
  The cursor that hands out drawn numbers (spec.l01Open, (*l01Cur).pick, (*l01Cur).raw): each pick answers a number below its bound, the cursor stays a cursor, nothing else turns. What the cursor's once and pt answer, and spec.DrawDistOf: some bool; some point of numbers of 64 bits; two of them.
-/
import Derived.Test.YtcaamhoakhgnhaaBaseAll
import Derived.WalkKit
import Derived.ProofKit
import Derived.Lib.Hide
import Derived.Deep.OwnRows
import Derived.Deep.QuietTactic
import Derived.BigQuiet
import Derived.Deep.RegionHeld
import Derived.Deep.RegionWith
namespace Go.Proofs.Ytcaamhoakhgnhaa
open Go.RowKit Go.Deep

/-- The bytes of a code: cell i of the row at A holds a byte. -/
def CodeAt (w : World) (c : Nat) (A : Option Addr) (len : Nat) : Prop :=
  ∀ i, i < len → ∃ b off x, A = some ⟨b, off, none⟩ ∧ b < c ∧ b < w.heap.size ∧ 0 ≤ x ∧ x ≤ 255 ∧ w.cell? ⟨b, off + i, none⟩ = some (.int .u8 x)

/-- Block c holds a cursor over the code at A; at most m numbers have been handed out. -/
def CurAt (w : World) (c : Nat) (A : Option Addr) (len cap : Nat) (m : Nat) : Prop :=
  ∃ at_ seed : Int, w.heap[c]? = some (.cells #[.slice A len cap, .int .i64 at_, .int .i64 seed] 100 (0, 0)) ∧ 0 ≤ at_ ∧ at_ ≤ m ∧ 0 ≤ seed ∧ seed ≤ 65521 ∧ CodeAt w c A len ∧ len ≤ 1048576

/-- What a pick leaves: a number below the bound n (0 where n is less than 2); the cursor; all else as it was. -/
def Picked (w : World) (c : Nat) (A : Option Addr) (len cap m : Nat) (n : Int) (e : Ending) (w' : World) : Prop :=
  ∃ v : Int, e = .returned (.int .i64 v) ∧ 0 ≤ v ∧ (2 ≤ n → v < n) ∧ (n < 2 → v = 0) ∧ CurAt w' c A len cap (m + 1) ∧ w.grownBy w' (some c) ∧ w'.heap.size = w.heap.size

theorem codeAt_grown {w w' : World} {c : Nat} {A : Option Addr} {len : Nat} (h : CodeAt w c A len) (hg : w.grownBy w' (some c)) : CodeAt w' c A len := by
  intro i hi
  obtain ⟨b, off, x, h1, h2, h3, h4, h5, h6⟩ := h i hi
  exact ⟨b, off, x, h1, h2, Nat.lt_of_lt_of_le h3 hg.size, h4, h5, (World.cell?_of_block (w := w) (hg.block b h3 (fun e => by injection e with e; omega))).trans h6⟩

theorem picked_of {w w' : World} {c : Nat} {A : Option Addr} {len cap m : Nat} {n : Int} (v a s : Int) (hb : w'.heap[c]? = some (.cells #[.slice A len cap, .int .i64 a, .int .i64 s] 100 (0, 0)))
    (ha : 0 ≤ a ∧ a ≤ (m : Int) + 1) (hs : 0 ≤ s ∧ s ≤ 65521) (hcode : CodeAt w c A len) (hlen : len ≤ 1048576) (hg : w.grownBy w' (some c)) (hz : w'.heap.size = w.heap.size)
    (hv : 0 ≤ v ∧ (2 ≤ n → v < n) ∧ (n < 2 → v = 0)) : Picked w c A len cap m n (.returned (.int .i64 v)) w' :=
  ⟨v, rfl, hv.1, hv.2.1, hv.2.2, ⟨a, s, hb, ha.1, by omega, hs.1, hs.2, codeAt_grown hcode hg, hlen⟩, hg, hz⟩

theorem mod_ok {x n : Int} (hn : 2 ≤ n) : 0 ≤ x % n ∧ (2 ≤ n → x % n < n) ∧ (n < 2 → x % n = 0) :=
  ⟨Int.emod_nonneg _ (by omega), fun _ => Int.emod_lt_of_pos _ (by omega), fun h => by omega⟩

theorem picked_short {w : World} {c : Nat} {A : Option Addr} {len cap m : Nat} {n v at_ seed : Int} (k : Nat) (hb : w.heap[c]? = some (.cells #[.slice A len cap, .int .i64 at_, .int .i64 seed] 100 (0, 0)))
    (ha : 0 ≤ at_ ∧ at_ ≤ m) (hs : 0 ≤ seed ∧ seed ≤ 65521) (hcode : CodeAt w c A len) (hlen : len ≤ 1048576) (hv : 0 ≤ v ∧ (2 ≤ n → v < n) ∧ (n < 2 → v = 0)) :
    Picked w c A len cap m n (.returned (.int .i64 v)) ((w.drewN k).setCell ⟨c, 1, none⟩ (.int .i64 (at_ + 1))) :=
  picked_of v (at_ + 1) seed (block_set (w := w.drewN k) _ hb) (by omega) hs hcode hlen (grown_set (grown_drewN (World.grownBy.refl w _) k) 1 _) (by simp [World.setCell, World.drewN]) hv

theorem picked_long {w : World} {c : Nat} {A : Option Addr} {len cap m : Nat} {n v at_ seed : Int} (k l : Nat) (hb : w.heap[c]? = some (.cells #[.slice A len cap, .int .i64 at_, .int .i64 seed] 100 (0, 0)))
    (ha : 0 ≤ at_ ∧ at_ ≤ m) (hcode : CodeAt w c A len) (hlen : len ≤ 1048576) (hv : 0 ≤ v ∧ (2 ≤ n → v < n) ∧ (n < 2 → v = 0)) :
    Picked w c A len cap m n (.returned (.int .i64 v)) ((((w.drewN k).setCell ⟨c, 2, none⟩ (.int .i64 ((seed * 1103 + 12345) % 65521))).drewN l).setCell ⟨c, 1, none⟩ (.int .i64 (at_ + 1))) :=
  picked_of v (at_ + 1) ((seed * 1103 + 12345) % 65521) (block_set (w := ((w.drewN k).setCell ⟨c, 2, none⟩ (.int .i64 ((seed * 1103 + 12345) % 65521))).drewN l) _ (block_set (w := w.drewN k) _ hb)) (by omega) (by omega) hcode hlen
    (grown_set (grown_drewN (grown_set (grown_drewN (World.grownBy.refl w _) k) 2 _) l) 1 _) (by simp [World.setCell, World.drewN]) hv

set_option maxHeartbeats 1000000 in
theorem pick_any (w : World) (c : Nat) (A : Option Addr) (len cap m : Nat) (n : Int) (hm : m ≤ 1000000000) (h : CurAt w c A len cap m) (hn : n ≤ 1000000000) :
    Calls Try.prog 73 #[.pointer (some ⟨c, 0, none⟩), .int .i64 n] w (Picked w c A len cap m n) := by
  obtain ⟨at_, seed, hb, ha0, ha1, hs0, hs1, hcode, hlen⟩ := h
  have c0 : w.cell? ⟨c, 0, none⟩ = some (.slice A len cap) := by rw [cell_of_block hb]; rfl
  have c1 : w.cell? ⟨c, 1, none⟩ = some (.int .i64 at_) := by rw [cell_of_block hb]; rfl
  have c2 : w.cell? ⟨c, 2, none⟩ = some (.int .i64 seed) := by rw [cell_of_block hb]; rfl
  have f1 : w.frozen? ⟨c, 1, none⟩ = false := frozen_of_block hb
  have f2 : w.frozen? ⟨c, 2, none⟩ = false := frozen_of_block hb
  have HB := Lib.hid hb
  clear hb
  by_cases hn2 : n < 2
  · go_enter Try.func73, Try.ntmps73
    go_wp2
    go_ret
    exact ⟨0, rfl, by omega, by omega, fun _ => rfl, ⟨at_, seed, HB.out, ha0, by omega, hs0, hs1, hcode, hlen⟩, World.grownBy.refl w _, rfl⟩
  · by_cases hlt : at_ < len
    · have hk : at_.toNat < len := by omega
      obtain ⟨b, off, x, rfl, hbc, hbl, hx0, hx1, hcx⟩ := hcode _ hk
      have hbc' : b ≠ c := by omega
      go_enter Try.func73, Try.ntmps73
      go_wp2
      go_quiet (fail)
      go_wp2
      go_quiet (fail)
      go_wp2
      go_ret
      exact picked_short _ HB.out ⟨ha0, ha1⟩ ⟨hs0, hs1⟩ hcode hlen (mod_ok hn2)
    · rcases Nat.eq_zero_or_pos len with rfl | hp
      · go_enter Try.func73, Try.ntmps73
        go_wp2
        go_quiet (fail)
        go_wp2
        go_ret
        exact picked_long _ 0 HB.out ⟨ha0, ha1⟩ hcode hlen ⟨by omega, by omega, by omega⟩
      · have h1 := Int.emod_lt_of_pos at_ (show (0 : Int) < len by omega)
        have h2 := Int.emod_nonneg at_ (show (len : Int) ≠ 0 by omega)
        obtain ⟨b, off, x, rfl, hbc, hbl, hx0, hx1, hcx⟩ := hcode (at_ % len).toNat (by omega)
        have hbc' : b ≠ c := by omega
        have hge : ¬ at_ < len := hlt
        go_enter Try.func73, Try.ntmps73
        go_wp2
        go_quiet (fail)
        go_wp2
        have e1 : at_.tmod len = at_ % len := Int.tmod_eq_emod_of_nonneg ha0
        go_quiet (fail)
        clear e1 h1 h2
        have hs3 : 0 ≤ (seed * 1103 + 12345) % 65521 / 7 + x := by omega
        have hs4 : (seed * 1103 + 12345) % 65521 / 7 + x ≤ 100000 := by omega
        go_wp2
        go_ret
        exact picked_long _ _ HB.out ⟨ha0, ha1⟩ hcode hlen (mod_ok hn2)

/-- A code that came in. -/
def CodeIn (w : World) (A : Option Addr) (len : Nat) : Prop :=
  ∀ i, i < len → ∃ b off x, A = some ⟨b, off, none⟩ ∧ b < w.heap.size ∧ 0 ≤ x ∧ x ≤ 255 ∧ w.cell? ⟨b, off + i, none⟩ = some (.int .u8 x)

def Opened (w : World) (A : Option Addr) (len cap : Nat) (e : Ending) (w' : World) : Prop :=
  e = .returned (.pointer (some ⟨w.heap.size, 0, none⟩)) ∧ CurAt w' w.heap.size A len cap 0 ∧ Below w.heap.size w w' ∧ w'.heap.size = w.heap.size + 1

theorem opened_of {w : World} {A : Option Addr} {len cap : Nat} (s : Int) (hs : 0 ≤ s ∧ s ≤ 65521) (hc : CodeIn w A len) (hl : len ≤ 1048576) :
    Opened w A len cap (.returned (.pointer (some ⟨w.heap.size, 0, none⟩))) (w.alloc (.cells #[.slice A len cap, .int .i64 0, .int .i64 s] 100)) := by
  refine ⟨rfl, ⟨0, s, heap_alloc_new w _, by omega, by omega, hs.1, hs.2, fun i hi => ?_, hl⟩, (Below.refl _ _).alloc (Nat.le_refl _) _, by simp⟩
  obtain ⟨b, off, x, h1, h2, h3, h4, h5⟩ := hc i hi
  exact ⟨b, off, x, h1, by omega, by simp; omega, h3, h4, (World.cell?_alloc_lt w _ ⟨b, off + i, none⟩ h2).trans h5⟩

theorem open_any (w : World) (A : Option Addr) (len cap : Nat) (hc : CodeIn w A len) (hl : len ≤ 1048576) :
    Calls Try.prog 41 #[.slice A len cap] w (Opened w A len cap) := by
  go_enter Try.func41, Try.ntmps41
  go_wp2
  go_ret
  exact opened_of _ (by omega) hc hl

/-- What a draw leaves: some number of 64 bits; the cursor; all else as it was, but for new memory. -/
def Drawn (w : World) (c : Nat) (A : Option Addr) (len cap m : Nat) (e : Ending) (w' : World) : Prop :=
  ∃ v : Int, e = .returned (.int .i64 v) ∧ -9223372036854775808 ≤ v ∧ v ≤ 9223372036854775807 ∧ CurAt w' c A len cap m ∧ w.grownBy w' (some c)

theorem CurAt.more {w : World} {c : Nat} {A : Option Addr} {len cap m m' : Nat} (h : CurAt w c A len cap m) (hm : m ≤ m') : CurAt w c A len cap m' := by
  obtain ⟨a, s, h1, h2, h3, h4⟩ := h
  exact ⟨a, s, h1, h2, by omega, h4⟩

theorem CurAt.lt {w : World} {c : Nat} {A : Option Addr} {len cap m : Nat} (h : CurAt w c A len cap m) : c < w.heap.size := by
  obtain ⟨a, s, h1, _⟩ := h
  exact (Array.getElem?_eq_some_iff.1 h1).1

theorem CurAt.alloc {w : World} {c : Nat} {A : Option Addr} {len cap m : Nat} (h : CurAt w c A len cap m) (o : Obj) : CurAt (w.alloc o) c A len cap m := by
  have hlt := h.lt
  obtain ⟨a, s, h1, h2, h3, h4, h5, h6, h7⟩ := h
  refine ⟨a, s, (Below.heap_alloc w o c hlt).trans h1, h2, h3, h4, h5, fun i hi => ?_, h7⟩
  obtain ⟨b, off, x, g1, g2, g3, g4, g5, g6⟩ := h6 i hi
  exact ⟨b, off, x, g1, g2, by simp; omega, g4, g5, (World.cell?_alloc_lt w _ ⟨b, off + i, none⟩ g3).trans g6⟩

theorem raw_any (w : World) (c : Nat) (A : Option Addr) (len cap m : Nat) (hm : m ≤ 500000000) (h : CurAt w c A len cap m) :
    Calls Try.prog 74 #[.pointer (some ⟨c, 0, none⟩)] w (Drawn w c A len cap (m + 2)) := by
  go_enter Try.func74, Try.ntmps74
  go_wp2_with fail
  refine (pick_any w c A len cap m 8 (by omega) h (by omega)).mono ?_
  rintro e w1 ⟨v, rfl, hv0, hv1, -, hc1, hg1, -⟩
  have hv2 := hv1 (by omega)
  clear hv1
  by_cases e0 : v = 0
  · subst e0
    go_wp2_with fail
    refine (pick_any w1 c A len cap (m + 1) 256 (by omega) hc1 (by omega)).mono ?_
    rintro e w2 ⟨v, rfl, hv0, hv1, -, hc2, hg2, -⟩
    have hv2 := hv1 (by omega)
    clear hv1
    go_wp2
    go_ret
    exact ⟨_, rfl, by omega, by omega, hc2, only_trans hg1 hg2⟩
  · by_cases e1 : v = 1
    · subst e1
      go_wp2_with fail
      refine (pick_any _ c A len cap (m + 1) 8 (by omega) (hc1.alloc _) (by omega)).mono ?_
      rintro e w2 ⟨v, rfl, hv0, hv1, -, hc2, hg2, -⟩
      have hv2 := hv1 (by omega)
      clear hv1
      obtain ⟨u, hu, hu1, hu2⟩ : ∃ u : Int, w2.cell? ⟨w1.heap.size, v.toNat, none⟩ = some (.int .i64 u) ∧ -9223372036854775808 ≤ u ∧ u ≤ 9223372036854775807 :=
        ⟨_, made_cell (zs := [9223372036854775807, -9223372036854775808, 4611686018427387904, 1000, 1001, -1000, 100000, 100001]) hc1.lt hg2 (by simp; omega), by
          obtain ⟨k, hk, rfl⟩ : ∃ k : Nat, k < 8 ∧ v = k := ⟨v.toNat, by omega, by omega⟩
          match k, hk with
          | 0, _ | 1, _ | 2, _ | 3, _ | 4, _ | 5, _ | 6, _ | 7, _ => decide⟩
      go_wp2
      go_ret
      exact ⟨u, rfl, hu1, hu2, hc2, only_trans (only_alloc hg1 _) hg2⟩
    · have n0 : (v == 0) = false := by rw [beq_eq_false_iff_ne]; exact e0
      have n1 : (v == 1) = false := by rw [beq_eq_false_iff_ne]; exact e1
      go_wp2_with fail
      refine (pick_any w1 c A len cap (m + 1) 14 (by omega) hc1 (by omega)).mono ?_
      rintro e w2 ⟨v, rfl, hv0, hv1, -, hc2, hg2, -⟩
      have hv2 := hv1 (by omega)
      clear hv1
      go_wp2
      go_ret
      exact ⟨_, rfl, by omega, by omega, hc2, only_trans hg1 hg2⟩

/-- A cursor stays one where memory behind it turns. -/
theorem CurAt.later {w w' : World} {c : Nat} {A : Option Addr} {len cap m : Nat} {row : Option Nat} (h : CurAt w c A len cap m) (hg : w.grownBy w' row) (hr : ∀ g, row = some g → c < g) : CurAt w' c A len cap m := by
  have hlt := h.lt
  obtain ⟨a, s, h1, h2, h3, h4, h5, h6, h7⟩ := h
  refine ⟨a, s, (hg.block c hlt (fun e => by have := hr c e.symm; omega)).trans h1, h2, h3, h4, h5, fun i hi => ?_, h7⟩
  obtain ⟨b, off, x, g1, g2, g3, g4, g5, g6⟩ := h6 i hi
  exact ⟨b, off, x, g1, g2, Nat.lt_of_lt_of_le g3 hg.size, g4, g5, (World.cell?_of_block (w := w) (hg.block b g3 (fun e => by have := hr b e.symm; omega))).trans g6⟩

theorem big_any (A : Option Addr) (len cap : Nat) (w : World) : Calls Try.prog 12 #[.slice A len cap] w fun e w' => e = .returned (.bool (decide ((1048576 : Int) < len))) ∧ w = w' := by
  go_enter Try.func12, Try.ntmps12
  go_wp2
  go_ret
  exact ⟨rfl, rfl⟩

/-- A slice of bytes that came in, as a law's frame tells of it. -/
theorem codeIn_of {w : World} {a : Option Addr} {len cap : Nat} {zs : List Int}
    (h : (a = none ∧ len = 0 ∧ cap = 0 ∧ zs = []) ∨ ∃ x, a = some x ∧ len ≤ cap ∧ cap ≤ maxLen ∧ zs.length = cap ∧ (∀ i, i < zs.length → w.cell? (x.add i) = some (.int .u8 (zs.getD i 0))) ∧ ∀ n ∈ zs, (Lit.int .u8 n).wf = true) :
    CodeIn w a len := by
  rcases h with ⟨rfl, rfl, rfl, rfl⟩ | ⟨x, rfl, hl, hm, hz, hc, hw⟩
  · intro i hi; omega
  · intro i hi
    obtain ⟨b, off, spot⟩ := x
    have h0 := hc 0 (by omega)
    have hspot : spot = none := by simpa [Addr.add] using World.cell?_spot h0
    subst hspot
    have hi' := hc i (by omega)
    have hb := bounds_u8 (hw (zs.getD i 0) (getD_mem _ (by omega)))
    refine ⟨b, off, zs.getD i 0, rfl, ?_, hb.1, hb.2, ?_⟩
    · have := World.block_lt_of_cell? w _ h0
      simpa [Addr.add] using this
    · rw [← hi']
      unfold Addr.add
      by_cases h : i = 0
      · subst h; simp
      · simp [h]

theorem CodeIn.below {w w' : World} {A : Option Addr} {len : Nat} (h : CodeIn w A len) (hb : Below w.heap.size w w') : CodeIn w' A len := by
  intro i hi
  obtain ⟨b, off, x, h1, h2, h3, h4, h5⟩ := h i hi
  exact ⟨b, off, x, h1, Nat.lt_of_lt_of_le h2 hb.size, h3, h4, (hb.cell (p := ⟨b, off + i, none⟩) h2).trans h5⟩

/-- Some number of 64 bits; nothing that was there has turned. -/
def SomeInt (w : World) (e : Ending) (w' : World) : Prop := ∃ v : Int, e = .returned (.int .i64 v) ∧ -9223372036854775808 ≤ v ∧ v ≤ 9223372036854775807 ∧ Below w.heap.size w w'

/-- Two numbers of 64 bits; nothing that was there has turned. -/
def TwoInts (w : World) (e : Ending) (w' : World) : Prop := ∃ u v : Int, e = .returned (.tuple #[.int .i64 u, .int .i64 v]) ∧ In64 u ∧ In64 v ∧ Below w.heap.size w w'

theorem pick_at (w : World) (c : Nat) (A : Option Addr) (len cap m : Nat) (n : Int) (h : CurAt w c A len cap m) (hm : m ≤ 1000000000) (hn : n ≤ 1000000000) :
    Calls Try.prog 73 #[.pointer (some ⟨c, 0, none⟩), .int .i64 n] w (Picked w c A len cap m n) := pick_any w c A len cap m n hm h hn

theorem CurAt.drew {w : World} {c : Nat} {A : Option Addr} {len cap m : Nat} (h : CurAt w c A len cap m) : CurAt w.drew c A len cap m := h

end Go.Proofs.Ytcaamhoakhgnhaa

namespace Go.Proofs.Ytcaamhoakhgnhaa
open Go.RowKit Go.Deep

/-- Block b holds a point, and is known whole. -/
def BlockIs (w : World) (b : Nat) (x y : Int) : Prop := w.heap[b]? = some (.cells #[.int .i64 x, .int .i64 y] 85 (0, 0))

theorem BlockIs.lt {w : World} {b : Nat} {x y : Int} (h : BlockIs w b x y) : b < w.heap.size := (Array.getElem?_eq_some_iff.1 h).1
theorem BlockIs.new (w : World) (x y : Int) : BlockIs (w.alloc (.cells #[.int .i64 x, .int .i64 y] 85)) w.heap.size x y := heap_alloc_new w _
theorem BlockIs.alloc {w : World} {b : Nat} {x y : Int} (h : BlockIs w b x y) (o : Obj) : BlockIs (w.alloc o) b x y := (Below.heap_alloc w o b h.lt).trans h
theorem BlockIs.grown {w w' : World} {b c : Nat} {x y : Int} (h : BlockIs w b x y) (hg : w.grownBy w' (some c)) (hc : ¬ b = c) : BlockIs w' b x y := (hg.block b h.lt (fun e => by injection e with e; exact hc e)).trans h
theorem BlockIs.cells {w : World} {b : Nat} {x y : Int} (h : BlockIs w b x y) : w.cell? ⟨b, 0, none⟩ = some (.int .i64 x) ∧ w.cell? ⟨b, 1, none⟩ = some (.int .i64 y) ∧ w.frozen? ⟨b, 0, none⟩ = false ∧ w.frozen? ⟨b, 1, none⟩ = false :=
  ⟨by rw [cell_of_block h]; rfl, by rw [cell_of_block h]; rfl, frozen_of_block h, frozen_of_block h⟩
theorem BlockIs.set {w : World} {b c i : Nat} {x y : Int} {v : Value} (h : BlockIs w b x y) (hc : b ≠ c) : BlockIs (w.setCell ⟨c, i, none⟩ v) b x y := (Below.heap_setCell w ⟨c, i, none⟩ v b hc).trans h

theorem only_set {a w : World} {row : Option Nat} (h : a.grownBy w row) {b i : Nat} (hb : a.heap.size ≤ b) (v : Value) : a.grownBy (w.setCell ⟨b, i, none⟩ v) row :=
  ⟨h.os, h.tape, h.output, by simpa [World.setCell] using h.size, fun k hk hne => (Below.heap_setCell w ⟨b, i, none⟩ v k (by simp; omega)).trans (h.block k hk hne)⟩

theorem CurAt.set {w : World} {c : Nat} {A : Option Addr} {len cap m : Nat} (h : CurAt w c A len cap m) {b i : Nat} (hb : c < b) (v : Value) : CurAt (w.setCell ⟨b, i, none⟩ v) c A len cap m :=
  h.later (grown_set (World.grownBy.refl w (some b)) i v) (fun g e => by injection e with e; omega)

/-- What once leaves: some bool; the cursor; all else as it was. -/
def Onced (w : World) (c : Nat) (A : Option Addr) (len cap m : Nat) (e : Ending) (w' : World) : Prop :=
  ∃ b : Bool, e = .returned (.bool b) ∧ CurAt w' c A len cap (m + 1) ∧ w.grownBy w' (some c)

theorem once_any (w : World) (c : Nat) (A : Option Addr) (len cap m : Nat) (n : Int) (hm : m ≤ 500000000) (h : CurAt w c A len cap m) (h0 : 2 ≤ n) (hn : n ≤ 1000000000) :
    Calls Try.prog 72 #[.pointer (some ⟨c, 0, none⟩), .int .i64 n] w (Onced w c A len cap m) := by
  go_enter Try.func72, Try.ntmps72
  go_wp2_with fail
  refine (pick_any w c A len cap m n (by omega) h (by omega)).mono ?_
  rintro e w1 ⟨v, rfl, hv0, hv1, -, hc1, hg1, -⟩
  clear hv1
  go_wp2
  go_ret
  exact ⟨_, rfl, hc1, hg1⟩

/-- What pt leaves: a point of numbers of 64 bits; the cursor; all else as it was, but for new memory. -/
def Pointed (w : World) (c : Nat) (A : Option Addr) (len cap m : Nat) (e : Ending) (w' : World) : Prop :=
  ∃ x y : Int, e = .returned (.agg #[.int .i64 x, .int .i64 y]) ∧ In64 x ∧ In64 y ∧ CurAt w' c A len cap (m + 6) ∧ w.grownBy w' (some c)

/-- Two points of numbers of 64 bits; nothing that was there has turned. -/
def TwoPts (w : World) (e : Ending) (w' : World) : Prop :=
  ∃ ax ay bx by_ : Int, e = .returned (.tuple #[.agg #[.int .i64 ax, .int .i64 ay], .agg #[.int .i64 bx, .int .i64 by_]]) ∧ In64 ax ∧ In64 ay ∧ In64 bx ∧ In64 by_ ∧ Below w.heap.size w w'

theorem CodeIn.alloc {w : World} {A : Option Addr} {len : Nat} (h : CodeIn w A len) (o : Obj) : CodeIn (w.alloc o) A len := h.below (below1 w o)
theorem BlockIs.below {w w' : World} {b : Nat} {x y : Int} (h : BlockIs w b x y) (hb : Below w.heap.size w w') : BlockIs w' b x y := (hb.block b h.lt).trans h
theorem BlockIs.drew {w : World} {b : Nat} {x y : Int} (h : BlockIs w b x y) : BlockIs w.drew b x y := h

end Go.Proofs.Ytcaamhoakhgnhaa
