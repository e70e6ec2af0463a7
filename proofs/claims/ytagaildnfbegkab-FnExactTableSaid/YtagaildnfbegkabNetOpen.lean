/-
  How a network that came in reads: its nodes and its arcs as lists of numbers of 64 bits.
-/
import Derived.Test.YtagaildnfbegkabNetLaws
import Derived.Lib.SmallJoins
namespace Go.Proofs.Ytagaildnfbegkab
open Go.RowKit Go.Deep Go.ChangeShapes Go.WideShapes Go.Joins

/-- The number that lies at p (0 where none lies there). -/
def intAt (w : World) (p : Addr) : Int := match w.cell? p with
  | some (.int _ z) => z
  | _ => 0
theorem intAt_of {w : World} {p : Addr} {z : Int} (h : w.cell? p = some (.int .i64 z)) : intAt w p = z := by unfold intAt; rw [h]

section
variable {H : Type} {enc : TypeId × Value → H} {P : Program} {w : World} {base : Nat} {spare : Nat → Bool} {held : Bool}

/-- A struct of k numbers of 64 bits, read cell by cell. -/
theorem trod_nums {e ti : TypeId} {fs : Array Field} {k fuel : Nat} {cs : List Value} {x : DataW H × List MemPlace} (he : P.underlying e = some (.struct fs)) (hi : P.underlying ti = some (.int .i64)) (h1 : P.cellsOf ti = 1) (hk : P.cellsOf e = k)
    (hf : ∀ i, i < k → ∃ f, fs[i]? = some f ∧ f.offset = i ∧ f.type = ti) (h : DataW.trod enc P w base spare held fuel e cs = some x) : ∀ i, i < k → ∃ z, cs[i]? = some (.int .i64 z) ∧ In64 z := by
  obtain ⟨xs, n, -, -, hlen, hxl, hg⟩ := DataW.trod_struct he h
  intro i hik
  obtain ⟨f, hfi, ho, ht⟩ := hf i hik
  have hr := hg i f hfi
  have hlt : i < fs.size := (Array.getElem?_eq_some_iff.1 hfi).1
  rw [ho, ht, h1, List.getElem?_eq_getElem (by omega)] at hr
  obtain ⟨z, hz, -, hw⟩ := DataW.trod_int hi hr
  have hcs : i < cs.length := by omega
  rw [List.drop_eq_getElem_cons hcs] at hz
  simp only [List.take_succ_cons, List.take_zero, List.cons.injEq, and_true] at hz
  exact ⟨z, by rw [List.getElem?_eq_getElem hcs, hz], bounds_i64 hw⟩

/-- A slice of structs of k numbers: nil, or a row in which the j-th number of the i-th element lies at i * k + j. -/
theorem trod_rows {t e ti : TypeId} {fs : Array Field} {k fuel : Nat} {v : Value} {x : DataW H × List MemPlace} (ht : P.underlying t = some (.slice e)) (he : P.underlying e = some (.struct fs)) (hi : P.underlying ti = some (.int .i64)) (h1 : P.cellsOf ti = 1) (hk : P.cellsOf e = k) (h0 : 0 < k)
    (hf : ∀ i, i < k → ∃ f, fs[i]? = some f ∧ f.offset = i ∧ f.type = ti) (h : DataW.trod enc P w base spare held fuel t [v] = some x) :
    ∃ (A : Option Addr) (len cap : Nat), v = .slice A len cap ∧ len ≤ cap ∧ cap ≤ maxLen ∧ (0 < len → ∃ b off, A = some ⟨b, off, none⟩ ∧ b < w.heap.size ∧ ∀ i j, i < len → j < k → ∃ z, w.cell? ⟨b, off + i * k + j, none⟩ = some (.int .i64 z) ∧ In64 z) := by
  rcases open_slice ht h with ⟨hcs, -⟩ | ⟨a, len, cap, m, n, D, Pl, hcs, hb, hl, hm, hmm, -, hel⟩
  · injection hcs with hcs
    exact ⟨none, 0, 0, hcs, Nat.le_refl _, Nat.zero_le _, fun h => by omega⟩
  · injection hcs with hcs
    refine ⟨some a, len, cap, hcs, hl, hm, fun hp => ?_⟩
    have hlm : len ≤ m := by rw [hmm]; split <;> omega
    have cell : ∀ i j, i < len → j < k → ∃ z, w.cell? ((a.add (i * k)).add j) = some (.int .i64 z) ∧ In64 z := by
      intro i j hi' hj
      obtain ⟨cs, hc, htr⟩ := hel i (by omega)
      rw [hk] at hc
      obtain ⟨-, -, hat⟩ := World.cells?_some hc
      obtain ⟨z, hz, hw⟩ := trod_nums he hi h1 hk hf htr j hj
      exact ⟨z, by rw [hat j hj, hz], hw⟩
    obtain ⟨b, off, spot⟩ := a
    obtain ⟨z0, hz0, -⟩ := cell 0 0 hp h0
    have hspot : spot = none := by simpa [Addr.add] using World.cell?_spot hz0
    subst hspot
    refine ⟨b, off, rfl, ?_, fun i j hi' hj => ?_⟩
    · have := World.block_lt_of_cell? w _ hz0
      simpa [Addr.add] using this
    · obtain ⟨z, hz, hw⟩ := cell i j hi' hj
      refine ⟨z, ?_, hw⟩
      rw [← hz]
      congr 1
      unfold Addr.add
      by_cases e1 : i * k = 0 <;> by_cases e2 : j = 0 <;> simp [e1, e2]
end

section
variable {H : Type} {enc : TypeId × Value → H} {w : World} {b0 base : Nat} {spare : Nat → Bool} {held : Bool} {r : Reach}

end
/-- A network that came in: what a law is told of it. -/
def NetIn (w : World) (A B : Option Addr) (ca cb : Nat) (ps : List (Int × Int)) (rs : List (Int × Int × Int)) : Prop :=
  (ps.length ≤ ca ∧ ca ≤ maxLen ∧ rs.length ≤ cb ∧ cb ≤ maxLen) ∧ IsPts w A ps ∧ IsArcs w B rs ∧ (∀ p ∈ ps, In64 p.1 ∧ In64 p.2) ∧ ∀ p ∈ rs, In64 p.1 ∧ In64 p.2.1 ∧ In64 p.2.2
section
variable {H : Type} {enc : TypeId × Value → H} {w : World} {b0 base : Nat} {spare : Nat → Bool} {held : Bool} {r : Reach}
end

end Go.Proofs.Ytagaildnfbegkab
