/-
  What the cursor's once and pt answer, and spec.DrawDistOf: some bool; some point of numbers of 64 bits; two of them.
-/
import Derived.Test.YtgfgolcbioffiaaDraw
import Derived.Test.YtgfgolcbioffiaaPoints
import Derived.Deep.RegionWith
namespace Go.Proofs.Ytgfgolcbioffiaa
open Go.RowKit Go.Deep

/-- Block b holds a point, and is known whole. -/
def BlockIs (w : World) (b : Nat) (x y : Int) : Prop := w.heap[b]? = some (.cells #[.int .i64 x, .int .i64 y] 25 (0, 0))

theorem BlockIs.lt {w : World} {b : Nat} {x y : Int} (h : BlockIs w b x y) : b < w.heap.size := (Array.getElem?_eq_some_iff.1 h).1
theorem BlockIs.new (w : World) (x y : Int) : BlockIs (w.alloc (.cells #[.int .i64 x, .int .i64 y] 25)) w.heap.size x y := heap_alloc_new w _
theorem BlockIs.alloc {w : World} {b : Nat} {x y : Int} (h : BlockIs w b x y) (o : Obj) : BlockIs (w.alloc o) b x y := (Below.heap_alloc w o b h.lt).trans h
theorem BlockIs.grown {w w' : World} {b c : Nat} {x y : Int} (h : BlockIs w b x y) (hg : w.grownBy w' (some c)) (hc : ¬ b = c) : BlockIs w' b x y := (hg.block b h.lt (fun e => by injection e with e; exact hc e)).trans h
theorem BlockIs.cells {w : World} {b : Nat} {x y : Int} (h : BlockIs w b x y) : w.cell? ⟨b, 0, none⟩ = some (.int .i64 x) ∧ w.cell? ⟨b, 1, none⟩ = some (.int .i64 y) ∧ w.frozen? ⟨b, 0, none⟩ = false ∧ w.frozen? ⟨b, 1, none⟩ = false :=
  ⟨by rw [cell_of_block h]; rfl, by rw [cell_of_block h]; rfl, frozen_of_block h, frozen_of_block h⟩
theorem BlockIs.set {w : World} {b c i : Nat} {x y : Int} {v : Value} (h : BlockIs w b x y) (hc : b ≠ c) : BlockIs (w.setCell ⟨c, i, none⟩ v) b x y := (Below.heap_setCell w ⟨c, i, none⟩ v b hc).trans h

theorem only_set {a w : World} {row : Option Nat} (h : a.grownBy w row) {b i : Nat} (hb : a.heap.size ≤ b) (v : Value) : a.grownBy (w.setCell ⟨b, i, none⟩ v) row :=
  ⟨h.os, h.tape, h.output, by simpa [World.setCell] using h.size, fun k hk hne => (Below.heap_setCell w ⟨b, i, none⟩ v k (by simp; omega)).trans (h.block k hk hne)⟩

theorem CurAt.set {w : World} {c : Nat} {A : Option Addr} {len cap m : Nat} (h : CurAt w c A len cap m) {b i : Nat} (hb : c < b) (v : Value) : CurAt (w.setCell ⟨b, i, none⟩ v) c A len cap m :=
  h.later (grown_set (World.grownBy.refl w (some b)) i v) (fun g e => by injection e with e; omega)

/-- What once leaves: some bool; the cursor; all else as it was. -/
def Onced (w : World) (c : Nat) (A : Option Addr) (len cap m : Nat) (e : Ending) (w' : World) : Prop :=
  ∃ b : Bool, e = .returned (.bool b) ∧ CurAt w' c A len cap (m + 1) ∧ w.grownBy w' (some c)

theorem once_any (w : World) (c : Nat) (A : Option Addr) (len cap m : Nat) (n : Int) (hm : m ≤ 500000000) (h : CurAt w c A len cap m) (h0 : 2 ≤ n) (hn : n ≤ 1000000000) :
    Calls Try.prog 39 #[.pointer (some ⟨c, 0, none⟩), .int .i64 n] w (Onced w c A len cap m) := by
  go_enter Try.func39, Try.ntmps39
  go_wp2_with fail
  refine (pick_any w c A len cap m n (by omega) h (by omega)).mono ?_
  rintro e w1 ⟨v, rfl, hv0, hv1, -, hc1, hg1, -⟩
  clear hv1
  go_wp2
  go_ret
  exact ⟨_, rfl, hc1, hg1⟩

/-- What pt leaves: a point of numbers of 64 bits; the cursor; all else as it was, but for new memory. -/
def Pointed (w : World) (c : Nat) (A : Option Addr) (len cap m : Nat) (e : Ending) (w' : World) : Prop :=
  ∃ x y : Int, e = .returned (.agg #[.int .i64 x, .int .i64 y]) ∧ In64 x ∧ In64 y ∧ CurAt w' c A len cap (m + 6) ∧ w.grownBy w' (some c)

set_option maxHeartbeats 1000000 in
theorem pt_any (w : World) (c : Nat) (A : Option Addr) (len cap m : Nat) (hm : m ≤ 400000000) (h : CurAt w c A len cap m) :
    Calls Try.prog 26 #[.pointer (some ⟨c, 0, none⟩)] w (Pointed w c A len cap m) := by
  have hcl := h.lt
  have R := BlockIs.new w 0 0
  have K := h.alloc (.cells #[.int .i64 0, .int .i64 0] 25)
  have G : w.grownBy (w.alloc (.cells #[.int .i64 0, .int .i64 0] 25)) (some c) := only_alloc (World.grownBy.refl w _) _
  go_enter Try.func26, Try.ntmps26
  go_wp2_with fail
  refine (pick_any _ c A len cap m 40 (by omega) K (by omega)).mono ?_
  rintro e w1 ⟨v1, rfl, hv10, hv11, -, k1, g1, -⟩
  have hv12 := hv11 (by omega)
  replace R := R.grown g1 (by omega)
  replace G := only_trans G g1
  clear hv11 g1 K
  go_wp2_with fail
  refine (pick_any _ c A len cap _ 40 (by omega) k1 (by omega)).mono ?_
  rintro e w2 ⟨v2, rfl, hv20, hv21, -, k2, g2, -⟩
  have hv22 := hv21 (by omega)
  replace R := R.grown g2 (by omega)
  replace G := only_trans G g2
  clear hv21 g2 k1
  have hz2 := k2.lt
  have hr2 := R.lt
  have P := BlockIs.new w2 (v1 - 10) (v2 - 10)
  have k3 := k2.alloc (.cells #[.int .i64 (v1 - 10), .int .i64 (v2 - 10)] 25)
  replace R := R.alloc (.cells #[.int .i64 (v1 - 10), .int .i64 (v2 - 10)] 25)
  replace G := only_alloc G (.cells #[.int .i64 (v1 - 10), .int .i64 (v2 - 10)] 25)
  clear k2
  go_wp2_with fail
  refine (once_any _ c A len cap _ 10 (by omega) k3 (by omega) (by omega)).mono ?_
  rintro e w4 ⟨b, rfl, k4, g4⟩
  replace R := R.grown g4 (by omega)
  replace P := P.grown g4 (by omega)
  replace G := only_trans G g4
  clear g4 k3
  cases b with
  | false =>
    obtain ⟨r0, r1, r2, r3⟩ := R.cells
    obtain ⟨p0, p1, p2, p3⟩ := P.cells
    go_wp2
    exact bodyPost_ret (v := .agg #[.int .i64 (v1 - 10), .int .i64 (v2 - 10)]) (by simp [results, Try.results26, go_sem, r0, r1]) rfl
      ⟨_, _, rfl, ⟨by omega, by omega⟩, ⟨by omega, by omega⟩, ((k4.set hcl _).set hcl _).more (by omega), only_set (only_set G (by omega) _) (by omega) _⟩
  | true =>
    go_wp2_with fail
    refine (raw_any _ c A len cap _ (by omega) k4).mono ?_
    rintro e w5 ⟨r, rfl, hr0, hr1, k5, g5⟩
    replace R := R.grown g5 (by omega)
    replace P := P.grown g5 (by omega)
    replace G := only_trans G g5
    clear g5 k4
    go_wp2_with fail
    refine (pick_any _ c A len cap _ 4 (by omega) (k5.alloc _) (by omega)).mono ?_
    rintro e w6 ⟨i, rfl, hi0, hi1, -, k6, g6, -⟩
    have hi2 := hi1 (by omega)
    have hu := laid_cell_later (zs := [r, 10000, -10000, 10001]) k5.lt g6 (i := i.toNat) (by simp; omega)
    replace R := (R.alloc _).grown g6 (by omega)
    replace P := (P.alloc _).grown g6 (by omega)
    replace G := only_trans (only_alloc G _) g6
    clear hi1 g6 k5
    have hr : In64 (zg [r, 10000, -10000, 10001] i.toNat) := zg_in (by
      intro z hz
      simp only [List.mem_cons, List.not_mem_nil, or_false] at hz
      rcases hz with rfl | rfl | rfl | rfl <;> exact ⟨by omega, by omega⟩) _
    obtain ⟨q, Hq⟩ : ∃ q, q = zg [r, 10000, -10000, 10001] i.toNat := ⟨_, rfl⟩
    rw [← Hq] at hr hu
    clear Hq
    obtain ⟨r0, r1, r2, r3⟩ := R.cells
    obtain ⟨p0, p1, p2, p3⟩ := P.cells
    go_wp2
    have hne : ¬ w2.heap.size = w.heap.size := by omega
    have hne' : ¬ w.heap.size = w2.heap.size := by omega
    exact bodyPost_ret (v := .agg #[.int .i64 q, .int .i64 (v2 - 10)]) (by simp [results, Try.results26, go_sem, r0, r1, hne, hne']) rfl
      ⟨_, _, rfl, hr, ⟨by omega, by omega⟩, (((k6.set hz2 _).set hcl _).set hcl _).more (by omega), only_set (only_set (only_set G (by omega) _) (by omega) _) (by omega) _⟩

theorem pt_at (w : World) (c : Nat) (A : Option Addr) (len cap m : Nat) (h : CurAt w c A len cap m) (hm : m ≤ 400000000) :
    Calls Try.prog 26 #[.pointer (some ⟨c, 0, none⟩)] w (Pointed w c A len cap m) := pt_any w c A len cap m hm h

/-- Two points of numbers of 64 bits; nothing that was there has turned. -/
def TwoPts (w : World) (e : Ending) (w' : World) : Prop :=
  ∃ ax ay bx by_ : Int, e = .returned (.tuple #[.agg #[.int .i64 ax, .int .i64 ay], .agg #[.int .i64 bx, .int .i64 by_]]) ∧ In64 ax ∧ In64 ay ∧ In64 bx ∧ In64 by_ ∧ Below w.heap.size w w'

theorem CodeIn.alloc {w : World} {A : Option Addr} {len : Nat} (h : CodeIn w A len) (o : Obj) : CodeIn (w.alloc o) A len := h.below (below1 w o)
theorem BlockIs.below {w w' : World} {b : Nat} {x y : Int} (h : BlockIs w b x y) (hb : Below w.heap.size w w') : BlockIs w' b x y := (hb.block b h.lt).trans h
theorem BlockIs.drew {w : World} {b : Nat} {x y : Int} (h : BlockIs w b x y) : BlockIs w.drew b x y := h

set_option maxHeartbeats 1000000 in
theorem drawDistOf_any (w : World) (A : Option Addr) (len cap : Nat) (hc : CodeIn w A len) (hl : len ≤ 1048576) : Calls Try.prog 18 #[.slice A len cap] w (TwoPts w) := by
  obtain ⟨W, hW⟩ : ∃ W, W = (w.alloc (.cells #[.int .i64 0, .int .i64 0] 25)).alloc (.cells #[.int .i64 0, .int .i64 0] 25) := ⟨_, rfl⟩
  have R0 : BlockIs W w.heap.size 0 0 := by rw [hW]; exact (BlockIs.new w 0 0).alloc _
  have R1 : BlockIs W (w.heap.size + 1) 0 0 := by rw [hW]; have := BlockIs.new (w.alloc (.cells #[.int .i64 0, .int .i64 0] 25)) 0 0; simpa using this
  have B : Below w.heap.size w W := by rw [hW]; exact below2 _ _ _
  have C : CodeIn W A len := by rw [hW]; exact (hc.alloc _).alloc _
  have HW := Lib.hid hW
  clear hW hc
  go_enter Try.func18, Try.ntmps18
  go_wp2_with fail
  rw [← HW.out]
  refine (open_any W A len cap C hl).mono ?_
  rintro e w1 ⟨rfl, k1, b1, -⟩
  have hz := R1.lt
  replace R0 := R0.below b1
  replace R1 := R1.below b1
  replace B := B.trans (b1.mono B.size)
  clear b1
  go_wp2_with fail
  refine (pt_any w1 W.heap.size A len cap 0 (by omega) k1).mono ?_
  rintro e w2 ⟨ax, ay, rfl, hax, hay, k2, g2⟩
  replace R0 := R0.grown g2 (by omega)
  replace R1 := R1.grown g2 (by omega)
  replace B := below_only B g2 (by omega)
  clear g2 k1
  have hk2 := k2.lt
  have hr1 := R1.lt
  obtain ⟨W3, hW3⟩ : ∃ W3, W3 = w2.alloc (.cells #[.int .i64 ax, .int .i64 ay] 25) := ⟨_, rfl⟩
  have P : BlockIs W3 w2.heap.size ax ay := by rw [hW3]; exact BlockIs.new w2 ax ay
  have k3 : CurAt W3 W.heap.size A len cap (0 + 6) := by rw [hW3]; exact k2.alloc _
  replace R0 : BlockIs W3 w.heap.size 0 0 := by rw [hW3]; exact R0.alloc _
  replace R1 : BlockIs W3 (w.heap.size + 1) 0 0 := by rw [hW3]; exact R1.alloc _
  replace B : Below w.heap.size w W3 := by rw [hW3]; exact B.alloc B.size _
  have HW3 := Lib.hid hW3
  clear hW3 k2
  obtain ⟨p0, p1, p2, p3⟩ := P.cells
  go_wp2_with fail
  rw [← HW3.out]
  go_region_with (first
    | ((go_at_call 26; refine (pt_at _ W.heap.size A len cap (0 + 6) (by exact k3) (by omega)).mono ?_; rintro e w4 ⟨bx, by_, rfl, hbx, hby, k4, g4⟩; replace R0 := R0.drew.grown g4 (by omega); replace R1 := R1.drew.grown g4 (by omega); replace P := P.drew.grown g4 (by omega); replace B := below_only B.drew g4 (by omega); clear g4; obtain ⟨r0, r1, r2, r3⟩ := R0.cells; obtain ⟨s0, s1, s2, s3⟩ := R1.cells; obtain ⟨q0, q1, q2, q3⟩ := P.cells)))
  all_goals
    go_wp2
    exact bodyPost_ret (v := .tuple #[.agg #[.int .i64 ax, .int .i64 ay], .agg #[.int .i64 bx, .int .i64 by_]]) (by simp [results, Try.results18, go_sem, r0, r1, s0, s1]) rfl
      ⟨_, _, _, _, rfl, hax, hay, hbx, hby, (((B.setCell (by simp) _).setCell (by simp) _).setCell (by simp) _).setCell (by simp) _⟩

end Go.Proofs.Ytgfgolcbioffiaa
