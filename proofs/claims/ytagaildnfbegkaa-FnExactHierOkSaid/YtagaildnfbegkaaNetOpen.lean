/-
  How a network that came in reads: its nodes and its arcs as lists of numbers of 64 bits.
-/
import Derived.Test.YtagaildnfbegkaaNetLaws
import Derived.Lib.SmallJoins
namespace Go.Proofs.Ytagaildnfbegkaa
open Go.RowKit Go.Deep Go.ChangeShapes Go.WideShapes Go.Joins

/-- The number that lies at p (0 where none lies there). -/
def intAt (w : World) (p : Addr) : Int := match w.cell? p with
  | some (.int _ z) => z
  | _ => 0
theorem intAt_of {w : World} {p : Addr} {z : Int} (h : w.cell? p = some (.int .i64 z)) : intAt w p = z := by unfold intAt; rw [h]

section
variable {H : Type} {enc : TypeId × Value → H} {P : Program} {w : World} {base : Nat} {spare : Nat → Bool} {held : Bool}

/-- A struct of k numbers of 64 bits, read cell by cell. -/
theorem trod_nums {e ti : TypeId} {fs : Array Field} {k fuel : Nat} {cs : List Value} {x : DataW H × List MemPlace} (he : P.underlying e = some (.struct fs)) (hi : P.underlying ti = some (.int .i64)) (h1 : P.cellsOf ti = 1) (hk : P.cellsOf e = k)
    (hf : ∀ i, i < k → ∃ f, fs[i]? = some f ∧ f.offset = i ∧ f.type = ti) (h : DataW.trod enc P w base spare held fuel e cs = some x) : ∀ i, i < k → ∃ z, cs[i]? = some (.int .i64 z) ∧ In64 z := by
  obtain ⟨xs, n, -, -, hlen, hxl, hg⟩ := DataW.trod_struct he h
  intro i hik
  obtain ⟨f, hfi, ho, ht⟩ := hf i hik
  have hr := hg i f hfi
  have hlt : i < fs.size := (Array.getElem?_eq_some_iff.1 hfi).1
  rw [ho, ht, h1, List.getElem?_eq_getElem (by omega)] at hr
  obtain ⟨z, hz, -, hw⟩ := DataW.trod_int hi hr
  have hcs : i < cs.length := by omega
  rw [List.drop_eq_getElem_cons hcs] at hz
  simp only [List.take_succ_cons, List.take_zero, List.cons.injEq, and_true] at hz
  exact ⟨z, by rw [List.getElem?_eq_getElem hcs, hz], bounds_i64 hw⟩

/-- A slice of structs of k numbers: nil, or a row in which the j-th number of the i-th element lies at i * k + j. -/
theorem trod_rows {t e ti : TypeId} {fs : Array Field} {k fuel : Nat} {v : Value} {x : DataW H × List MemPlace} (ht : P.underlying t = some (.slice e)) (he : P.underlying e = some (.struct fs)) (hi : P.underlying ti = some (.int .i64)) (h1 : P.cellsOf ti = 1) (hk : P.cellsOf e = k) (h0 : 0 < k)
    (hf : ∀ i, i < k → ∃ f, fs[i]? = some f ∧ f.offset = i ∧ f.type = ti) (h : DataW.trod enc P w base spare held fuel t [v] = some x) :
    ∃ (A : Option Addr) (len cap : Nat), v = .slice A len cap ∧ len ≤ cap ∧ cap ≤ maxLen ∧ (0 < len → ∃ b off, A = some ⟨b, off, none⟩ ∧ b < w.heap.size ∧ ∀ i j, i < len → j < k → ∃ z, w.cell? ⟨b, off + i * k + j, none⟩ = some (.int .i64 z) ∧ In64 z) := by
  rcases open_slice ht h with ⟨hcs, -⟩ | ⟨a, len, cap, m, n, D, Pl, hcs, hb, hl, hm, hmm, -, hel⟩
  · injection hcs with hcs
    exact ⟨none, 0, 0, hcs, Nat.le_refl _, Nat.zero_le _, fun h => by omega⟩
  · injection hcs with hcs
    refine ⟨some a, len, cap, hcs, hl, hm, fun hp => ?_⟩
    have hlm : len ≤ m := by rw [hmm]; split <;> omega
    have cell : ∀ i j, i < len → j < k → ∃ z, w.cell? ((a.add (i * k)).add j) = some (.int .i64 z) ∧ In64 z := by
      intro i j hi' hj
      obtain ⟨cs, hc, htr⟩ := hel i (by omega)
      rw [hk] at hc
      obtain ⟨-, -, hat⟩ := World.cells?_some hc
      obtain ⟨z, hz, hw⟩ := trod_nums he hi h1 hk hf htr j hj
      exact ⟨z, by rw [hat j hj, hz], hw⟩
    obtain ⟨b, off, spot⟩ := a
    obtain ⟨z0, hz0, -⟩ := cell 0 0 hp h0
    have hspot : spot = none := by simpa [Addr.add] using World.cell?_spot hz0
    subst hspot
    refine ⟨b, off, rfl, ?_, fun i j hi' hj => ?_⟩
    · have := World.block_lt_of_cell? w _ hz0
      simpa [Addr.add] using this
    · obtain ⟨z, hz, hw⟩ := cell i j hi' hj
      refine ⟨z, ?_, hw⟩
      rw [← hz]
      congr 1
      unfold Addr.add
      by_cases e1 : i * k = 0 <;> by_cases e2 : j = 0 <;> simp [e1, e2]
end

section
variable {H : Type} {enc : TypeId × Value → H} {w : World} {b0 base : Nat} {spare : Nat → Bool} {held : Bool} {r : Reach}

theorem opens_pts {fuel : Nat} {v : Value} {x : DataW H × List MemPlace} (h : DataW.trod enc Try.prog w base spare held fuel 36 [v] = some x) :
    ∃ (A : Option Addr) (cap : Nat) (ps : List (Int × Int)), v = .slice A ps.length cap ∧ ps.length ≤ cap ∧ cap ≤ maxLen ∧ IsPts w A ps ∧ ∀ p ∈ ps, In64 p.1 ∧ In64 p.2 := by
  obtain ⟨A, len, cap, rfl, hl, hm, hr⟩ := trod_rows (k := 2) Try.underlying36 Try.underlying123 Try.underlying3 (by kernel_rfl) (by kernel_rfl) (by omega) (fun i hi => by match i, hi with | 0, _ => exact ⟨_, rfl, rfl, rfl⟩ | 1, _ => exact ⟨_, rfl, rfl, rfl⟩) h
  rcases Nat.eq_zero_or_pos len with rfl | hp
  · exact ⟨A, cap, [], rfl, Nat.zero_le _, hm, fun h => by simp at h, by simp⟩
  · obtain ⟨b, off, rfl, hb, hc⟩ := hr hp
    refine ⟨_, cap, (List.range len).map fun i => (intAt w ⟨b, off + i * 2, none⟩, intAt w ⟨b, off + i * 2 + 1, none⟩), by simp, by simpa using hl, hm, fun _ => ⟨b, off, rfl, hb, fun i hi => ?_⟩, fun p hp' => ?_⟩
    · have hi' : i < len := by simpa using hi
      have e : ptg ((List.range len).map fun i => (intAt w ⟨b, off + i * 2, none⟩, intAt w ⟨b, off + i * 2 + 1, none⟩)) i = (intAt w ⟨b, off + i * 2, none⟩, intAt w ⟨b, off + i * 2 + 1, none⟩) := by simp [ptg, hi']
      rw [e]
      obtain ⟨z0, h0, -⟩ := hc i 0 hi' (by omega)
      obtain ⟨z1, h1, -⟩ := hc i 1 hi' (by omega)
      rw [Nat.add_zero] at h0
      exact ⟨by rw [intAt_of h0]; exact h0, by rw [intAt_of h1]; exact h1⟩
    · obtain ⟨i, hi, rfl⟩ := List.mem_map.1 hp'
      have hi' : i < len := List.mem_range.1 hi
      obtain ⟨z0, h0, g0⟩ := hc i 0 hi' (by omega)
      obtain ⟨z1, h1, g1⟩ := hc i 1 hi' (by omega)
      have e0 : intAt w ⟨b, off + i * 2, none⟩ = z0 := intAt_of h0
      exact ⟨by show In64 (intAt w ⟨b, off + i * 2, none⟩); rw [e0]; exact g0, by show In64 (intAt w ⟨b, off + i * 2 + 1, none⟩); rw [intAt_of h1]; exact g1⟩

theorem opens_arcs {fuel : Nat} {v : Value} {x : DataW H × List MemPlace} (h : DataW.trod enc Try.prog w base spare held fuel 37 [v] = some x) :
    ∃ (A : Option Addr) (cap : Nat) (rs : List (Int × Int × Int)), v = .slice A rs.length cap ∧ rs.length ≤ cap ∧ cap ≤ maxLen ∧ IsArcs w A rs ∧ ∀ p ∈ rs, In64 p.1 ∧ In64 p.2.1 ∧ In64 p.2.2 := by
  obtain ⟨A, len, cap, rfl, hl, hm, hr⟩ := trod_rows (k := 3) Try.underlying37 Try.underlying125 Try.underlying3 (by kernel_rfl) (by kernel_rfl) (by omega) (fun i hi => by match i, hi with | 0, _ => exact ⟨_, rfl, rfl, rfl⟩ | 1, _ => exact ⟨_, rfl, rfl, rfl⟩ | 2, _ => exact ⟨_, rfl, rfl, rfl⟩) h
  rcases Nat.eq_zero_or_pos len with rfl | hp
  · exact ⟨A, cap, [], rfl, Nat.zero_le _, hm, fun h => by simp at h, by simp⟩
  · obtain ⟨b, off, rfl, hb, hc⟩ := hr hp
    refine ⟨_, cap, (List.range len).map fun i => (intAt w ⟨b, off + i * 3, none⟩, intAt w ⟨b, off + i * 3 + 1, none⟩, intAt w ⟨b, off + i * 3 + 2, none⟩), by simp, by simpa using hl, hm, fun _ => ⟨b, off, rfl, hb, fun i hi => ?_⟩, fun p hp' => ?_⟩
    · have hi' : i < len := by simpa using hi
      have e : arg ((List.range len).map fun i => (intAt w ⟨b, off + i * 3, none⟩, intAt w ⟨b, off + i * 3 + 1, none⟩, intAt w ⟨b, off + i * 3 + 2, none⟩)) i = (intAt w ⟨b, off + i * 3, none⟩, intAt w ⟨b, off + i * 3 + 1, none⟩, intAt w ⟨b, off + i * 3 + 2, none⟩) := by simp [arg, hi']
      rw [e]
      obtain ⟨z0, h0, -⟩ := hc i 0 hi' (by omega)
      obtain ⟨z1, h1, -⟩ := hc i 1 hi' (by omega)
      obtain ⟨z2, h2, -⟩ := hc i 2 hi' (by omega)
      rw [Nat.add_zero] at h0
      exact ⟨by rw [intAt_of h0]; exact h0, by rw [intAt_of h1]; exact h1, by rw [intAt_of h2]; exact h2⟩
    · obtain ⟨i, hi, rfl⟩ := List.mem_map.1 hp'
      have hi' : i < len := List.mem_range.1 hi
      obtain ⟨z0, h0, g0⟩ := hc i 0 hi' (by omega)
      obtain ⟨z1, h1, g1⟩ := hc i 1 hi' (by omega)
      obtain ⟨z2, h2, g2⟩ := hc i 2 hi' (by omega)
      have e0 : intAt w ⟨b, off + i * 3, none⟩ = z0 := intAt_of h0
      exact ⟨by show In64 (intAt w ⟨b, off + i * 3, none⟩); rw [e0]; exact g0, by show In64 (intAt w ⟨b, off + i * 3 + 1, none⟩); rw [intAt_of h1]; exact g1, by show In64 (intAt w ⟨b, off + i * 3 + 2, none⟩); rw [intAt_of h2]; exact g2⟩

end
/-- A network that came in: what a law is told of it. -/
def NetIn (w : World) (A B : Option Addr) (ca cb : Nat) (ps : List (Int × Int)) (rs : List (Int × Int × Int)) : Prop :=
  (ps.length ≤ ca ∧ ca ≤ maxLen ∧ rs.length ≤ cb ∧ cb ≤ maxLen) ∧ IsPts w A ps ∧ IsArcs w B rs ∧ (∀ p ∈ ps, In64 p.1 ∧ In64 p.2) ∧ ∀ p ∈ rs, In64 p.1 ∧ In64 p.2.1 ∧ In64 p.2.2
section
variable {H : Type} {enc : TypeId × Value → H} {w : World} {b0 base : Nat} {spare : Nat → Bool} {held : Bool} {r : Reach}
set_option maxRecDepth 100000 in
theorem opens_net {v : Value} {d : DataW H} {p : List MemPlace} (hv : Value.okWide Try.prog w r b0 39 v) (h : DataW.Trod enc Try.prog w base spare held 39 v d p) :
    ∃ (A B : Option Addr) (ca cb : Nat) (ps : List (Int × Int)) (rs : List (Int × Int × Int)), v = .agg #[.slice A ps.length ca, .slice B rs.length cb] ∧ NetIn w A B ca cb ps rs := by
  obtain ⟨v0, v1, y0, y1, n, rfl, -, -, h0, h1⟩ := open_agg2 Try.underlying39 (by kernel_rfl) (by kernel_rfl) hv h
  obtain ⟨A, ca, ps, rfl, g1, g2, g3, g4⟩ := opens_pts h0
  obtain ⟨B, cb, rs, rfl, k1, k2, k3, k4⟩ := opens_arcs h1
  exact ⟨A, B, ca, cb, ps, rs, rfl, ⟨g1, g2, k1, k2⟩, g3, k3, g4, k4⟩
end

end Go.Proofs.Ytagaildnfbegkaa
