/-
  What spec.DrawBestRoute and spec.DrawSearch leave: some network and two numbers.
-/
import Derived.Test.YtcaamhoakhgnhaaNetsAll
namespace Go.Proofs.Ytcaamhoakhgnhaa
open Go.RowKit Go.Deep

/-- Some network and two numbers; nothing that was there has turned. -/
def SomeNetInts (w : World) (e : Ending) (w' : World) : Prop :=
  ∃ (ad : Addr) (B : Option Addr) (ca cb : Nat) (ps : List (Int × Int)) (rs : List A3) (s t : Int), e = .returned (.tuple #[.agg #[.slice (some ad) ps.length ca, .slice B rs.length cb], .int .i64 s, .int .i64 t]) ∧ 2 ≤ ps.length ∧ ps.length ≤ 21 ∧ rs.length ≤ 100 ∧ In64 s ∧ In64 t ∧ IsPts w' (some ad) ps ∧ IsArcs w' B rs ∧ Below w.heap.size w w'

set_option maxHeartbeats 1000000 in
theorem drawSearch_any (w : World) (A : Option Addr) (len cap : Nat) (hc : CodeIn w A len) (hl : len ≤ 1048576) : Calls Try.prog 13 #[.slice A len cap] w (SomeNetInts w) := by
  have R := Pair.new w 32 (.slice none 0 0) (.slice none 0 0)
  have b0 := below1 w (.cells #[.slice none 0 0, .slice none 0 0] 32)
  go_enter Try.func13, Try.ntmps13
  go_wp2_with fail
  refine (open_any _ A len cap (hc.below b0) hl).mono ?_
  rintro e w1 ⟨rfl, k1, b1, -⟩
  rw [World.size_alloc] at k1
  replace R := R.below b1
  replace b0 := b0.trans (b1.mono b0.size)
  have hc1 := k1.lt
  clear b1
  go_wp2_with fail
  refine (anyNet_any w1 (w.heap.size + 1) A len cap 0 (by omega) k1).mono ?_
  rintro e w2 ⟨NV, V, ps, rs, rfl, h2, h21, h100, own, ownA, k2, g2⟩
  replace R := R.grown' g2 (fun g e => by injection e with e; omega)
  have hc2 := k2.lt
  have b2 := below_only b0 g2 (by omega)
  clear g2 b0 k1
  obtain ⟨NA, nc, rfl, -, hNA⟩ := ownP_is own
  obtain ⟨VA, vc, rfl, -, -, -⟩ := ownA_is ownA
  obtain ⟨ng, rfl, -, -⟩ := hNA (by omega)
  clear hNA
  have Y := Pair.new w2 32 (.slice (some ⟨ng, 0, none⟩) ps.length nc) (.slice VA rs.length vc)
  have kb := below1 w2 (.cells #[.slice (some ⟨ng, 0, none⟩) ps.length nc, .slice VA rs.length vc] 32)
  replace R := R.below kb
  have IP : IsPts (w2.alloc (.cells #[.slice (some ⟨ng, 0, none⟩) ps.length nc, .slice VA rs.length vc] 32)) (some ⟨ng, 0, none⟩) ps := (OwnSl.ptsD own).below kb
  have IA : IsArcs (w2.alloc (.cells #[.slice (some ⟨ng, 0, none⟩) ps.length nc, .slice VA rs.length vc] 32)) VA rs := (arcsD ownA).below kb
  clear IP IA
  have hyl : w2.heap.size < (w2.alloc (.cells #[.slice (some ⟨ng, 0, none⟩) ps.length nc, .slice VA rs.length vc] 32)).heap.size := Y.lt
  have kc := k2.alloc (.cells #[.slice (some ⟨ng, 0, none⟩) ps.length nc, .slice VA rs.length vc] 32)
  have own' := own.alloc (.cells #[.slice (some ⟨ng, 0, none⟩) ps.length nc, .slice VA rs.length vc] 32)
  have ownA' := ownA.alloc (.cells #[.slice (some ⟨ng, 0, none⟩) ps.length nc, .slice VA rs.length vc] 32)
  replace b2 := b2.trans (kb.mono b2.size)
  obtain ⟨yb, hyb⟩ : ∃ yb, yb = w2.heap.size := ⟨_, rfl⟩
  obtain ⟨W3, hW3⟩ : ∃ W3, W3 = w2.alloc (.cells #[.slice (some ⟨ng, 0, none⟩) ps.length nc, .slice VA rs.length vc] 32) := ⟨_, rfl⟩
  rw [← hyb] at Y hyl hc2
  rw [← hW3] at Y R kc own' ownA' b2 hyl
  have HYB := Lib.hid hyb
  have HW3 := Lib.hid hW3
  clear own ownA kb k2 hyb hW3
  go_wp2_with fail
  rw [← HYB.out, ← HW3.out]
  clear HYB HW3
  have S0 : W3.cell? ⟨yb, 0, none⟩ = some (.slice (some ⟨ng, 0, none⟩) ps.length nc) ∧ W3.cell? ⟨yb, 1, none⟩ = some (.slice VA rs.length vc) := ⟨Y.cells.1, Y.cells.2.1⟩
  go_region_held3 (fun w' => w'.cell? ⟨yb, 0, none⟩ = some (.slice (some ⟨ng, 0, none⟩) ps.length nc) ∧ w'.cell? ⟨yb, 1, none⟩ = some (.slice VA rs.length vc))
    (first | exact S0 | exact S4 | exact S3 | (refine ⟨?_, ?_⟩ <;> (rw [World.cell?_setCell_far _ _ _ _ (by simp; omega), World.cell?_setCell_far _ _ _ _ (by simp; omega)]; first | exact S4.1 | exact S4.2)))
    ((first
      | (go_at_call 43; (have J := k3); (refine (node_any _ (w.heap.size + 1) A len cap _ (some ⟨ng, 0, none⟩) VA ps.length nc rs.length vc (by omega) h2 (by omega) J).mono ?_); rintro e w4 ⟨v4, rfl, hu0, hu1, -, g4⟩; (have S4 : w4.cell? ⟨yb, 0, none⟩ = some (.slice (some ⟨ng, 0, none⟩) ps.length nc) ∧ w4.cell? ⟨yb, 1, none⟩ = some (.slice VA rs.length vc) := ⟨cell_only g4 S3.1 (by intro e; injection e with e; omega), cell_only g4 S3.2 (by intro e; injection e with e; omega)⟩); (have R4 : Pair w4 w.heap.size 32 (.slice none 0 0) (.slice none 0 0) := Pair.grown' (w := w3) R3 g4 (fun g e => by injection e with e; omega)); obtain ⟨r0, r1, r2, r3⟩ := R4.cells)
      | (go_at_call 43; (refine (node_any _ (w.heap.size + 1) A len cap _ (some ⟨ng, 0, none⟩) VA ps.length nc rs.length vc (by omega) h2 (by omega) kc.drew).mono ?_); rintro e w3 ⟨v, rfl, hv0, hv1, k3, g3⟩; (have S3 : w3.cell? ⟨yb, 0, none⟩ = some (.slice (some ⟨ng, 0, none⟩) ps.length nc) ∧ w3.cell? ⟨yb, 1, none⟩ = some (.slice VA rs.length vc) := ⟨cell_only g3 S0.1 (by intro e; injection e with e; omega), cell_only g3 S0.2 (by intro e; injection e with e; omega)⟩); (have R3 : Pair w3 w.heap.size 32 (.slice none 0 0) (.slice none 0 0) := Pair.grown' (w := W3.drew) R g3 (fun g e => by injection e with e; omega)))))
  have own3 := ownsRow_only (w := W3.drew) own' g3 (by omega)
  have ownA3 := ownsRow_only (w := W3.drew) ownA' g3 (by omega)
  have b3 := below_only b2.drew g3 (by omega)
  have own4 := ownsRow_only own3 g4 (by omega)
  have ownA4 := ownsRow_only ownA3 g4 (by omega)
  have b4 := below_only b3 g4 (by omega)
  clear own' ownA' g3 g4 kc k3 R Y S0 S3 S4 R3 R4 own3 ownA3 b3
  go_wp2
  exact bodyPost_ret (v := .tuple #[.agg #[.slice (some ⟨ng, 0, none⟩) ps.length nc, .slice VA rs.length vc], .int .i64 v, .int .i64 v4]) (by simp [results, Try.results13, go_sem, r0, r1]) rfl
    ⟨_, _, _, _, ps, rs, v, v4, rfl, h2, h21, h100, ⟨hv0, hv1⟩, ⟨hu0, hu1⟩, OwnSl.ptsD (ownsRow_far (c := w.heap.size) (ownsRow_far (c := w.heap.size) own4 (by omega) 0 _) (by omega) 1 _), arcsD (ownsRow_far (c := w.heap.size) (ownsRow_far (c := w.heap.size) ownA4 (by omega) 0 _) (by omega) 1 _), (b4.setCell (by simp) _).setCell (by simp) _⟩

end Go.Proofs.Ytcaamhoakhgnhaa
