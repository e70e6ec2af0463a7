/-
  A slice of integers that came in, as a law's frame opens it.
-/
import Derived.Test.YtagaildnfbegkabNetOpen
namespace Go.Proofs.Ytagaildnfbegkab
open Go.RowKit Go.Deep
open Go.ChangeShapes Go.WideShapes Go.ChangeAt

def IntsIn (w : World) (A : Option Addr) (c : Nat) (zs : List Int) : Prop := zs.length ≤ c ∧ IsInts w A zs
section
variable {H : Type} {enc : TypeId × Value → H} {w : World} {b0 base : Nat} {r : Reach}
set_option maxRecDepth 100000 in
theorem opens_ints {v : Value} {d : DataW H} {p : List MemPlace} (hv : Value.okWide Try.prog w r b0 22 v) (h : DataW.Trod enc Try.prog w base (fun _ => true) true 22 v d p) :
    ∃ (A : Option Addr) (c : Nat) (zs : List Int), v = .slice A zs.length c ∧ IntsIn w A c zs := by
  obtain ⟨a, len, cap, rfl⟩ := okWide_slice Try.underlying22 hv
  obtain ⟨fuel, hf⟩ := h
  rcases open_ints Try.underlying22 Try.underlying3 (by kernel_rfl) hf with ⟨hcs, _⟩ | ⟨x, l, c, zs, hcs, _, hl, hm, hz, _, hcell, hwz⟩
  · simp [Value.cells] at hcs
    obtain ⟨rfl, rfl, rfl⟩ := hcs
    exact ⟨none, 0, [], rfl, by simp, fun hp => by simp at hp⟩
  · simp [Value.cells] at hcs
    obtain ⟨rfl, rfl, rfl⟩ := hcs
    obtain ⟨ys, rfl, h1, h2, -⟩ := isInts_of (w := w) (a := some x) (len := len) (cap := cap) (zs := zs) (.inr ⟨_, rfl, hl, hm, by simpa using hz, hcell, hwz⟩)
    exact ⟨_, _, ys, rfl, h1, h2⟩
end

end Go.Proofs.Ytagaildnfbegkab
