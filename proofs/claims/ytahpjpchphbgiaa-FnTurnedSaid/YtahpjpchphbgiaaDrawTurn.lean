/-
  What spec.DrawTurned leaves: some network.
-/
import Derived.Test.YtahpjpchphbgiaaDrawAny
namespace Go.Proofs.Ytahpjpchphbgiaa
open Go.RowKit Go.Deep

/-- Some network; nothing that was there has turned. -/
def SomeNet (w : World) (e : Ending) (w' : World) : Prop :=
  ∃ (ad : Addr) (B : Option Addr) (ca cb : Nat) (ps : List (Int × Int)) (rs : List A3), e = .returned (.agg #[.slice (some ad) ps.length ca, .slice B rs.length cb]) ∧ 2 ≤ ps.length ∧ ps.length ≤ 21 ∧ rs.length ≤ 100 ∧ IsPts w' (some ad) ps ∧ IsArcs w' B rs ∧ Below w.heap.size w w'

theorem arcsD {w : World} {base : Nat} {A : Option Addr} {cap : Nat} {rs : List A3} (h : w.ownsRow base 36 3 (.slice A rs.length cap) rs.length (cellsA rs)) : IsArcs w A rs := fun hp => by
  obtain ⟨A', cap', e, -, -, hA⟩ := ownA_is h
  obtain ⟨g, rfl, -, ho⟩ := hA hp
  injection e with e1 e2 e3
  subst e1
  exact OwnAt.arcs ho hp

theorem drawTurned_any (w : World) (A : Option Addr) (len cap : Nat) (hc : CodeIn w A len) (hl : len ≤ 1048576) : Calls Try.prog 10 #[.slice A len cap] w (SomeNet w) := by
  have R := Pair.new w 27 (.slice none 0 0) (.slice none 0 0)
  have b0 := below1 w (.cells #[.slice none 0 0, .slice none 0 0] 27)
  go_enter Try.func10, Try.ntmps10
  go_wp2_with fail
  refine (open_any _ A len cap (hc.below b0) hl).mono ?_
  rintro e w1 ⟨rfl, k1, b1, -⟩
  rw [World.size_alloc] at k1
  replace R := R.below b1
  replace b0 := b0.trans (b1.mono b0.size)
  have hc1 := k1.lt
  clear b1
  go_wp2_with fail
  refine (anyNet_any w1 (w.heap.size + 1) A len cap 0 (by omega) k1).mono ?_
  rintro e w2 ⟨NV, V, ps, rs, rfl, h2, h21, h100, own, ownA, -, g2⟩
  replace R := R.grown' g2 (fun g e => by injection e with e; omega)
  have b2 := below_only b0 g2 (by omega)
  clear g2 b0 k1
  obtain ⟨NA, nc, rfl, -, hNA⟩ := ownP_is own
  obtain ⟨VA, vc, rfl, -, -, -⟩ := ownA_is ownA
  obtain ⟨ng, rfl, -, -⟩ := hNA (by omega)
  clear hNA
  obtain ⟨r0, r1, r2, r3⟩ := R.cells
  go_wp2
  exact bodyPost_ret (v := .agg #[.slice (some ⟨ng, 0, none⟩) ps.length nc, .slice VA rs.length vc]) (by simp [results, Try.results10, go_sem, r0, r1]) rfl
    ⟨_, _, _, _, ps, rs, rfl, h2, h21, h100, OwnSl.ptsD (ownsRow_far (c := w.heap.size) (ownsRow_far (c := w.heap.size) own (by omega) 0 _) (by omega) 1 _), arcsD (ownsRow_far (c := w.heap.size) (ownsRow_far (c := w.heap.size) ownA (by omega) 0 _) (by omega) 1 _), (b2.setCell (by simp) _).setCell (by simp) _⟩

end Go.Proofs.Ytahpjpchphbgiaa
