/-
  What spec.NetOk computes: whether a network is valid.
-/
import Derived.Test.YtagaildnfbegkabNetLaws
import Derived.IntWalk
namespace Go.Proofs.Ytagaildnfbegkab
open Go.RowKit Go.Deep

/-- Whether an arc's own numbers are valid in a network of n nodes; whether an arc comes ahead of another; whether a network is valid. -/
def arcB (n : Nat) (a : Int × Int × Int) : Bool := btB a.1 0 (n - 1) && btB a.2.1 0 (n - 1) && !(a.1 == a.2.1) && btB a.2.2 1 10000
def arcLt (a b : Int × Int × Int) : Bool := decide (a.1 < b.1 ∨ a.1 = b.1 ∧ a.2.1 < b.2.1)
def netB (ps : List (Int × Int)) (rs : List (Int × Int × Int)) : Bool :=
  decide (ps.length ≤ 20) && decide (rs.length ≤ 70) && (List.range ps.length).all (fun i => ptB (ptg ps i).1 (ptg ps i).2) && (List.range rs.length).all (fun i => arcB ps.length (arg rs i) && (decide (i = 0) || arcLt (arg rs (i - 1)) (arg rs i)))

theorem netB_iff {ps : List (Int × Int)} {rs : List (Int × Int × Int)} : netB ps rs = true ↔
    ps.length ≤ 20 ∧ rs.length ≤ 70 ∧ (∀ i, i < ps.length → ptB (ptg ps i).1 (ptg ps i).2 = true) ∧ ∀ i, i < rs.length → arcB ps.length (arg rs i) = true ∧ (i = 0 ∨ arcLt (arg rs (i - 1)) (arg rs i) = true) := by
  unfold netB
  simp only [Bool.and_eq_true, decide_eq_true_eq, List.all_eq_true, List.mem_range, Bool.or_eq_true]
  constructor
  · rintro ⟨⟨⟨h1, h2⟩, h3⟩, h4⟩; exact ⟨h1, h2, h3, h4⟩
  · rintro ⟨h1, h2, h3, h4⟩; exact ⟨⟨⟨h1, h2⟩, h3⟩, h4⟩
theorem netB_no {ps : List (Int × Int)} {rs : List (Int × Int × Int)} (h : ¬ (ps.length ≤ 20 ∧ rs.length ≤ 70 ∧ (∀ i, i < ps.length → ptB (ptg ps i).1 (ptg ps i).2 = true) ∧ ∀ i, i < rs.length → arcB ps.length (arg rs i) = true ∧ (i = 0 ∨ arcLt (arg rs (i - 1)) (arg rs i) = true))) : netB ps rs = false := by
  cases e : netB ps rs with
  | false => rfl
  | true => exact absurd (netB_iff.1 e) h

/-- How two arcs compare: negative where the first comes ahead. -/
def cmpA (a b : Int × Int × Int) : Int := if a.1 = b.1 then a.2.1 - b.2.1 else a.1 - b.1

theorem cmpA_lt {a b : Int × Int × Int} : cmpA a b < 0 ↔ arcLt a b = true := by
  unfold cmpA arcLt
  rw [decide_eq_true_eq]
  split <;> omega

theorem between_still (n a b : Int) (w : World) : Calls Try.prog 42 #[.int .i64 n, .int .i64 a, .int .i64 b] w fun e w' => e = .returned (.bool (btB n a b)) ∧ w' = w :=
  (between_any n a b w).mono fun _ _ ⟨h, g⟩ => ⟨h, g.symm⟩

/-- What a round of NetOk's second loop reads: the network's box, the arc at hand; and the arc ahead of it. -/
abbrev ArcS (base : World) (xb : Nat) (u v : Value) (ab : Nat) (f t l : Int) (w : World) : Prop :=
  w.cell? ⟨xb, 0, none⟩ = some u ∧ w.cell? ⟨xb, 1, none⟩ = some v ∧ w.cell? ⟨ab, 0, none⟩ = some (.int .i64 f) ∧ w.cell? ⟨ab, 1, none⟩ = some (.int .i64 t) ∧ w.cell? ⟨ab, 2, none⟩ = some (.int .i64 l) ∧ Below base.heap.size base w
theorem cell_under {w w' : World} {b i : Nat} {v : Value} (hb : Below w.heap.size w w') (h : w.cell? ⟨b, i, none⟩ = some v) : w'.cell? ⟨b, i, none⟩ = some v :=
  (hb.cell (p := ⟨b, i, none⟩) (by simpa using World.block_lt_of_cell? w _ h)).trans h
theorem ArcS.under {base w w' : World} {xb : Nat} {u v : Value} {ab : Nat} {f t l : Int} (hb : Below w.heap.size w w') (h : ArcS base xb u v ab f t l w) : ArcS base xb u v ab f t l w' :=
  ⟨cell_under hb h.1, cell_under hb h.2.1, cell_under hb h.2.2.1, cell_under hb h.2.2.2.1, cell_under hb h.2.2.2.2.1, h.2.2.2.2.2.trans (hb.mono h.2.2.2.2.2.size)⟩
theorem ArcS.drew {base w : World} {xb : Nat} {u v : Value} {ab : Nat} {f t l : Int} (h : ArcS base xb u v ab f t l w) : ArcS base xb u v ab f t l w.drew := ⟨h.1, h.2.1, h.2.2.1, h.2.2.2.1, h.2.2.2.2.1, h.2.2.2.2.2.drew⟩
abbrev ArcS2 (base : World) (xb : Nat) (u v : Value) (ab : Nat) (f t l : Int) (pb po : Nat) (pf pt pl : Int) (w : World) : Prop :=
  w.cell? ⟨xb, 0, none⟩ = some u ∧ w.cell? ⟨xb, 1, none⟩ = some v ∧ w.cell? ⟨ab, 0, none⟩ = some (.int .i64 f) ∧ w.cell? ⟨ab, 1, none⟩ = some (.int .i64 t) ∧ w.cell? ⟨ab, 2, none⟩ = some (.int .i64 l) ∧
  w.cell? ⟨pb, po, none⟩ = some (.int .i64 pf) ∧ w.cell? ⟨pb, po + 1, none⟩ = some (.int .i64 pt) ∧ w.cell? ⟨pb, po + 2, none⟩ = some (.int .i64 pl) ∧ Below base.heap.size base w
theorem ArcS2.under {base w w' : World} {xb : Nat} {u v : Value} {ab : Nat} {f t l : Int} {pb po : Nat} {pf pt pl : Int} (hb : Below w.heap.size w w') (h : ArcS2 base xb u v ab f t l pb po pf pt pl w) : ArcS2 base xb u v ab f t l pb po pf pt pl w' :=
  ⟨cell_under hb h.1, cell_under hb h.2.1, cell_under hb h.2.2.1, cell_under hb h.2.2.2.1, cell_under hb h.2.2.2.2.1, cell_under hb h.2.2.2.2.2.1, cell_under hb h.2.2.2.2.2.2.1, cell_under hb h.2.2.2.2.2.2.2.1, h.2.2.2.2.2.2.2.2.trans (hb.mono h.2.2.2.2.2.2.2.2.size)⟩
theorem ArcS2.drew {base w : World} {xb : Nat} {u v : Value} {ab : Nat} {f t l : Int} {pb po : Nat} {pf pt pl : Int} (h : ArcS2 base xb u v ab f t l pb po pf pt pl w) : ArcS2 base xb u v ab f t l pb po pf pt pl w.drew :=
  ⟨h.1, h.2.1, h.2.2.1, h.2.2.2.1, h.2.2.2.2.1, h.2.2.2.2.2.1, h.2.2.2.2.2.2.1, h.2.2.2.2.2.2.2.1, h.2.2.2.2.2.2.2.2.drew⟩

theorem arc_new (w : World) (f t l : Int) (ty : TypeId) : (w.alloc (.cells #[.int .i64 f, .int .i64 t, .int .i64 l] ty)).cell? ⟨w.heap.size, 0, none⟩ = some (.int .i64 f) ∧ (w.alloc (.cells #[.int .i64 f, .int .i64 t, .int .i64 l] ty)).cell? ⟨w.heap.size, 1, none⟩ = some (.int .i64 t) ∧ (w.alloc (.cells #[.int .i64 f, .int .i64 t, .int .i64 l] ty)).cell? ⟨w.heap.size, 2, none⟩ = some (.int .i64 l) :=
  ⟨by rw [cell_of_block (heap_alloc_new w _)]; rfl, by rw [cell_of_block (heap_alloc_new w _)]; rfl, by rw [cell_of_block (heap_alloc_new w _)]; rfl⟩
/-- The first k arcs are valid. -/
def ArcsUpTo (n : Nat) (rs : List (Int × Int × Int)) (k : Nat) : Prop := ∀ i, i < k → arcB n (arg rs i) = true ∧ (i = 0 ∨ arcLt (arg rs (i - 1)) (arg rs i) = true)
theorem ArcsUpTo.step {n : Nat} {rs : List (Int × Int × Int)} {k : Nat} (h : ArcsUpTo n rs k) (h1 : arcB n (arg rs k) = true) (h2 : k = 0 ∨ arcLt (arg rs (k - 1)) (arg rs k) = true) : ArcsUpTo n rs (k + 1) := fun i hi => by
  rcases Nat.lt_or_ge i k with h' | h'
  · exact h i h'
  · obtain rfl : i = k := by omega
    exact ⟨h1, h2⟩
theorem netB_bad {ps : List (Int × Int)} {rs : List (Int × Int × Int)} {k : Nat} (hk : k < rs.length) (h : arcB ps.length (arg rs k) = false) : netB ps rs = false :=
  netB_no fun g => by have := (g.2.2.2 k hk).1; rw [h] at this; cases this
theorem netB_unsorted {ps : List (Int × Int)} {rs : List (Int × Int × Int)} {k : Nat} (hk : k + 1 < rs.length) (h : arcLt (arg rs k) (arg rs (k + 1)) = false) : netB ps rs = false :=
  netB_no fun g => by
    rcases (g.2.2.2 (k + 1) hk).2 with e | e
    · omega
    · rw [Nat.add_sub_cancel, h] at e; cases e
theorem arcB_parts {n : Nat} {a : Int × Int × Int} : arcB n a = true ↔ btB a.1 0 (n - 1) = true ∧ btB a.2.1 0 (n - 1) = true ∧ (a.1 == a.2.1) = false ∧ btB a.2.2 1 10000 = true := by
  unfold arcB; simp only [Bool.and_eq_true, Bool.not_eq_true']
  constructor
  · rintro ⟨⟨⟨h1, h2⟩, h3⟩, h4⟩; exact ⟨h1, h2, h3, h4⟩
  · rintro ⟨h1, h2, h3, h4⟩; exact ⟨⟨⟨h1, h2⟩, h3⟩, h4⟩
theorem btB_iff {n a b : Int} : btB n a b = true ↔ a ≤ n ∧ n ≤ b := by unfold btB; rw [decide_eq_true_eq]
theorem arcB_no {n : Nat} {a : Int × Int × Int} (h : btB a.1 0 (n - 1) = false ∨ btB a.2.1 0 (n - 1) = false ∨ (a.1 == a.2.1) = true ∨ btB a.2.2 1 10000 = false) : arcB n a = false := by
  unfold arcB
  rcases h with h | h | h | h <;> rw [h] <;> simp

end Go.Proofs.Ytagaildnfbegkab
