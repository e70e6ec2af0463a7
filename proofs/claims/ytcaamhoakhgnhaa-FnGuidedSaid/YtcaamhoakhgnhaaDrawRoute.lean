/-
  What (*l01Cur).route and spec.DrawRouteOk leave: some list of numbers; some network and some list of numbers.
-/
import Derived.Test.YtcaamhoakhgnhaaNetsAll
import Derived.Test.YtcaamhoakhgnhaaTurnLaw
import Derived.Test.YtcaamhoakhgnhaaLinked
namespace Go.Proofs.Ytcaamhoakhgnhaa
open Go.RowKit Go.Deep

/-- Some list of one to eight numbers, in memory of the call's own; the cursor; all else as it was. -/
def RouteDrawn (w : World) (c : Nat) (C : Option Addr) (len cap m : Nat) (e : Ending) (w' : World) : Prop :=
  ∃ (V : Value) (zs : List Int), e = .returned V ∧ 1 ≤ zs.length ∧ zs.length ≤ 8 ∧ w'.ownsRow w.heap.size 3 1 V zs.length (zs.map (Value.int .i64)) ∧ CurAt w' c C len cap m ∧ w.grownBy w' (some c)

theorem own_one (w : World) (base : Nat) (v : Int) (hb : base ≤ w.heap.size) : (w.alloc (.cells #[.int .i64 v] 3)).ownsRow base 3 1 (.slice (some ⟨w.heap.size, 0, none⟩) 1 1) 1 [.int .i64 v] :=
  ⟨rfl, .inr ⟨w.heap.size, 1, _, rfl, hb, heap_alloc_new w _, Nat.le_refl _, by decide, rfl, rfl⟩⟩

theorem below_grown {w w1 w2 : World} {c : Nat} (G : w.grownBy w1 (some c)) (b : Below w1.heap.size w1 w2) : w.grownBy w2 (some c) :=
  ⟨b.os.trans G.os, b.tape.trans G.tape, b.output.trans G.output, Nat.le_trans G.size b.size, fun k hk hne => (b.block k (Nat.lt_of_lt_of_le hk G.size)).trans (G.block k hk hne)⟩

/-- An append to a row of the call's own turns nothing that was there. -/
theorem grown_own {w w1 w2 : World} {c base : Nat} {e : TypeId} {size : Nat} {v : Value} {n : Nat} {xs : List Value} (G : w.grownBy w1 (some c)) (own : w1.ownsRow base e size v n xs) (hb : w.heap.size ≤ base) (g : w1.grownBy w2 v.ownBlock) : w.grownBy w2 (some c) :=
  ⟨g.os.trans G.os, g.tape.trans G.tape, g.output.trans G.output, Nat.le_trans G.size g.size, fun k hk hne => (g.block k (Nat.lt_of_lt_of_le hk G.size) (fun e' => by have := (World.ownsRow.lt own k e'.symm).1; omega)).trans (G.block k hk hne)⟩

/-- What is at hand at the loop's head. -/
def RoR (w : World) (c : Nat) (C : Option Addr) (len cap m : Nat) (u v : Value) (x5 x6 : Value) (wr : World) : Prop :=
  ∃ (zs : List Int) (k : Int), x6 = .int .i64 k ∧ 0 ≤ k ∧ 1 ≤ zs.length ∧ (zs.length : Int) + k ≤ 7 ∧ wr.ownsRow (w.heap.size + 1) 3 1 x5 zs.length (zs.map (Value.int .i64)) ∧ Pair wr w.heap.size 32 u v ∧ CurAt wr c C len cap (m + 4 + zs.length) ∧ w.grownBy wr (some c)

/-- The box of a network and one more cell. -/
abbrev BoxS (x : Nat) (u v : Value) (b o : Nat) (z : Value) (w : World) : Prop := w.cell? ⟨x, 0, none⟩ = some u ∧ w.cell? ⟨x, 1, none⟩ = some v ∧ w.cell? ⟨b, o, none⟩ = some z
theorem BoxS.under {w w' : World} {x : Nat} {u v : Value} {b o : Nat} {z : Value} (hb : Below w.heap.size w w') (h : BoxS x u v b o z w) : BoxS x u v b o z w' := ⟨cell_under hb h.1, cell_under hb h.2.1, cell_under hb h.2.2⟩
theorem BoxS.drew {w : World} {x : Nat} {u v : Value} {b o : Nat} {z : Value} (h : BoxS x u v b o z w) : BoxS x u v b o z w.drew := h
/-- The box of a network, its arcs and a list of numbers. -/
abbrev ListS (x : Nat) (u v : Value) (B : Option Addr) (rs : List A3) (L : Option Addr) (ls : List Int) (w : World) : Prop := (w.cell? ⟨x, 0, none⟩ = some u ∧ w.cell? ⟨x, 1, none⟩ = some v) ∧ IsArcs w B rs ∧ IsInts w L ls
theorem ListS.under {w w' : World} {x : Nat} {u v : Value} {B : Option Addr} {rs : List A3} {L : Option Addr} {ls : List Int} (hb : Below w.heap.size w w') (h : ListS x u v B rs L ls w) : ListS x u v B rs L ls w' := ⟨⟨cell_under hb h.1.1, cell_under hb h.1.2⟩, h.2.1.below hb, h.2.2.below hb⟩

theorem last_at {w : World} {base : Nat} {V : Value} {zs : List Int} (own : w.ownsRow base 3 1 V zs.length (zs.map (Value.int .i64))) {j : Nat} (hj : j < zs.length) : ∃ g cap, V = .slice (some ⟨g, 0, none⟩) zs.length cap ∧ zs.length ≤ cap ∧ base ≤ g ∧ g < w.heap.size ∧ w.cell? ⟨g, j, none⟩ = some (.int .i64 (zg zs j)) := by
  rcases own.2 with ⟨h1, h2⟩ | ⟨g, cap, cur, h1, h2, h3, h4, h5, h6, h7⟩
  · omega
  · have I := (isInts_own (h1 ▸ own)).2.2
    obtain ⟨b, off, e, hb, hc⟩ := I.at_ hj
    cases e
    rw [Nat.zero_add] at hc
    exact ⟨g, cap, h1, h4, h2, hb, hc⟩

theorem row_one (w : World) (v : Int) : IsInts (w.alloc (.cells #[.int .i64 v] 3)) (some ⟨w.heap.size, 0, none⟩) [v] := fun _ => ⟨w.heap.size, 0, rfl, by simp, fun i hi => by
  obtain rfl : i = 0 := by simp at hi; omega
  rw [cell_of_block (heap_alloc_new w _)]; rfl⟩

/-- Some network and some list of numbers; nothing that was there has turned. -/
def SomeNetRoute (w : World) (e : Ending) (w' : World) : Prop :=
  ∃ (ad : Addr) (B : Option Addr) (ca cb : Nat) (ps : List (Int × Int)) (rs : List A3) (D : Option Addr) (cd : Nat) (zs : List Int), e = .returned (.tuple #[.agg #[.slice (some ad) ps.length ca, .slice B rs.length cb], .slice D zs.length cd]) ∧ 2 ≤ ps.length ∧ ps.length ≤ 21 ∧ rs.length ≤ 100 ∧ 1 ≤ zs.length ∧ zs.length ≤ 8 ∧ zs.length ≤ cd ∧ IsPts w' (some ad) ps ∧ IsArcs w' B rs ∧ IsInts w' D zs ∧ Below w.heap.size w w'

end Go.Proofs.Ytcaamhoakhgnhaa
