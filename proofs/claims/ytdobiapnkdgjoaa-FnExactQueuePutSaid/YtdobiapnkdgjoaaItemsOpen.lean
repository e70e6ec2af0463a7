/-
  Items and slices of items that came in, as a law's frame opens them.
-/
import Derived.Test.YtdobiapnkdgjoaaNetOpen
namespace Go.Proofs.Ytdobiapnkdgjoaa
open Go.RowKit Go.Deep Go.ChangeShapes Go.WideShapes Go.Joins

def ItemsIn (w : World) (A : Option Addr) (c : Nat) (ps : List (Int × Int)) : Prop := (ps.length ≤ c ∧ c ≤ maxLen) ∧ IsPts w A ps ∧ ∀ p ∈ ps, In64 p.1 ∧ In64 p.2

section
variable {H : Type} {enc : TypeId × Value → H} {w : World} {b0 base : Nat} {spare : Nat → Bool} {held : Bool} {r : Reach}

theorem opens_itemsD {fuel : Nat} {v : Value} {x : DataW H × List MemPlace} (h : DataW.trod enc Try.prog w base spare held fuel 60 [v] = some x) :
    ∃ (A : Option Addr) (cap : Nat) (ps : List (Int × Int)), v = .slice A ps.length cap ∧ ps.length ≤ cap ∧ cap ≤ maxLen ∧ IsPts w A ps ∧ ∀ p ∈ ps, In64 p.1 ∧ In64 p.2 := by
  obtain ⟨A, len, cap, rfl, hl, hm, hr⟩ := trod_rows (k := 2) Try.underlying60 Try.underlying65 Try.underlying3 (by kernel_rfl) (by kernel_rfl) (by omega) (fun i hi => by match i, hi with | 0, _ => exact ⟨_, rfl, rfl, rfl⟩ | 1, _ => exact ⟨_, rfl, rfl, rfl⟩) h
  rcases Nat.eq_zero_or_pos len with rfl | hp
  · exact ⟨A, cap, [], rfl, Nat.zero_le _, hm, fun h => by simp at h, by simp⟩
  · obtain ⟨b, off, rfl, hb, hc⟩ := hr hp
    refine ⟨_, cap, (List.range len).map fun i => (intAt w ⟨b, off + i * 2, none⟩, intAt w ⟨b, off + i * 2 + 1, none⟩), by simp, by simpa using hl, hm, fun _ => ⟨b, off, rfl, hb, fun i hi => ?_⟩, fun p hp' => ?_⟩
    · have hi' : i < len := by simpa using hi
      have e : ptg ((List.range len).map fun i => (intAt w ⟨b, off + i * 2, none⟩, intAt w ⟨b, off + i * 2 + 1, none⟩)) i = (intAt w ⟨b, off + i * 2, none⟩, intAt w ⟨b, off + i * 2 + 1, none⟩) := by simp [ptg, hi']
      rw [e]
      obtain ⟨z0, h0, -⟩ := hc i 0 hi' (by omega)
      obtain ⟨z1, h1, -⟩ := hc i 1 hi' (by omega)
      rw [Nat.add_zero] at h0
      exact ⟨by rw [intAt_of h0]; exact h0, by rw [intAt_of h1]; exact h1⟩
    · obtain ⟨i, hi, rfl⟩ := List.mem_map.1 hp'
      have hi' : i < len := List.mem_range.1 hi
      obtain ⟨z0, h0, g0⟩ := hc i 0 hi' (by omega)
      obtain ⟨z1, h1, g1⟩ := hc i 1 hi' (by omega)
      have e0 : intAt w ⟨b, off + i * 2, none⟩ = z0 := intAt_of h0
      exact ⟨by show In64 (intAt w ⟨b, off + i * 2, none⟩); rw [e0]; exact g0, by show In64 (intAt w ⟨b, off + i * 2 + 1, none⟩); rw [intAt_of h1]; exact g1⟩

set_option maxRecDepth 100000 in
theorem opens_items {v : Value} {d : DataW H} {p : List MemPlace} (hv : Value.okWide Try.prog w r b0 60 v) (h : DataW.Trod enc Try.prog w base spare held 60 v d p) :
    ∃ (A : Option Addr) (c : Nat) (ps : List (Int × Int)), v = .slice A ps.length c ∧ ItemsIn w A c ps := by
  obtain ⟨a, len, cap, rfl⟩ := okWide_slice Try.underlying60 hv
  obtain ⟨fuel, hf⟩ := h
  have hf' : DataW.trod enc Try.prog w base spare held fuel 60 [.slice a len cap] = some (d, p) := by simpa [Value.cells] using hf
  obtain ⟨A, c, ps, e, h1, h2, h3, h4⟩ := opens_itemsD hf'
  exact ⟨A, c, ps, e, ⟨h1, h2⟩, h3, h4⟩
end

set_option maxRecDepth 100000 in
theorem opens_item {H : Type} {enc : TypeId × Value → H} {w : World} {b0 base : Nat} {spare : Nat → Bool} {held : Bool} {r : Reach} {v : Value} {d : DataW H} {p : List MemPlace}
    (hv : Value.okWide Try.prog w r b0 65 v) (h : DataW.Trod enc Try.prog w base spare held 65 v d p) :
    ∃ x y : Int, v = .agg #[.int .i64 x, .int .i64 y] ∧ In64 x ∧ In64 y := by
  obtain ⟨v0, v1, y0, y1, n, rfl, -, -, h0, h1⟩ := open_agg2 Try.underlying65 (by kernel_rfl) (by kernel_rfl) hv h
  obtain ⟨a, e0, -, w0⟩ := DataW.trod_int Try.underlying3 h0
  obtain ⟨b, e1, -, w1⟩ := DataW.trod_int Try.underlying3 h1
  injection e0 with e0
  injection e1 with e1
  subst e0 e1
  exact ⟨a, b, rfl, bounds_i64 w0, bounds_i64 w1⟩

end Go.Proofs.Ytdobiapnkdgjoaa
