/-
  What (*l01Cur).node, spec.DrawDistFrom and spec.DrawParts leave: some number; some network and a number; some network.
-/
import Derived.Test.YtjaifbbkfgfdeaaDrawTurn
namespace Go.Proofs.Ytjaifbbkfgfdeaa
open Go.RowKit Go.Deep

theorem max_bd (n : Nat) (hn : n ≤ 1000) : (if (n : Int) > 1 then (n : Int) else 1) ≤ 1000 := by split <;> omega

theorem node_any (w : World) (c : Nat) (C : Option Addr) (len cap m : Nat) (A B : Option Addr) (n ca k cb : Nat) (hm : m ≤ 500000) (h1 : 2 ≤ n) (hn : n ≤ 1000) (h : CurAt w c C len cap m) :
    Calls Try.prog 34 #[.pointer (some ⟨c, 0, none⟩), .agg #[.slice A n ca, .slice B k cb]] w (Drawn w c C len cap (m + 3)) := by
  have hcl := h.lt
  have X := Pair.new w 27 (.slice A n ca) (.slice B k cb)
  have k0 := h.alloc (.cells #[.slice A n ca, .slice B k cb] 27)
  have G := only_alloc (World.grownBy.refl w (some c)) (.cells #[.slice A n ca, .slice B k cb] 27)
  go_enter Try.func34, Try.ntmps34
  go_wp2_with fail
  refine (once_any _ c C len cap m 14 (by omega) k0 (by omega) (by omega)).mono ?_
  rintro e w1 ⟨b, rfl, k1, g1⟩
  replace X := X.grown' g1 (fun g e => by injection e with e; omega)
  replace G := only_trans G g1
  clear g1 k0
  cases b with
  | true =>
    go_wp2_with fail
    refine (raw_any _ c C len cap (m + 1) (by omega) k1).mono ?_
    rintro e w2 ⟨v, rfl, hv0, hv1, k2, g2⟩
    replace G := only_trans G g2
    clear g2
    go_wp2
    go_ret
    exact ⟨v, rfl, hv0, hv1, k2, G⟩
  | false =>
    obtain ⟨x0, x1, -, -⟩ := X.cells
    go_wp2_with fail
    refine (pick_any _ c C len cap (m + 1) _ (by omega) k1 (by omega)).mono ?_
    rintro e w2 ⟨v, rfl, hv0, hv1, -, k2, g2, -⟩
    have hv2 := hv1 (by omega)
    replace G := only_trans G g2
    clear g2 x0 x1 X hv1
    go_wp2
    go_ret
    exact ⟨v, rfl, by omega, by omega, k2.more (by omega), G⟩

/-- Some network and a number; nothing that was there has turned. -/
def SomeNetInt (w : World) (e : Ending) (w' : World) : Prop :=
  ∃ (ad : Addr) (B : Option Addr) (ca cb : Nat) (ps : List (Int × Int)) (rs : List A3) (s : Int), e = .returned (.tuple #[.agg #[.slice (some ad) ps.length ca, .slice B rs.length cb], .int .i64 s]) ∧ 2 ≤ ps.length ∧ ps.length ≤ 21 ∧ rs.length ≤ 100 ∧ In64 s ∧ IsPts w' (some ad) ps ∧ IsArcs w' B rs ∧ Below w.heap.size w w'

theorem drawParts_any (w : World) (A : Option Addr) (len cap : Nat) (hc : CodeIn w A len) (hl : len ≤ 1048576) : Calls Try.prog 19 #[.slice A len cap] w (SomeNet w) := by
  have R := Pair.new w 27 (.slice none 0 0) (.slice none 0 0)
  have b0 := below1 w (.cells #[.slice none 0 0, .slice none 0 0] 27)
  go_enter Try.func19, Try.ntmps19
  go_wp2_with fail
  refine (open_any _ A len cap (hc.below b0) hl).mono ?_
  rintro e w1 ⟨rfl, k1, b1, -⟩
  rw [World.size_alloc] at k1
  replace R := R.below b1
  replace b0 := b0.trans (b1.mono b0.size)
  have hc1 := k1.lt
  clear b1
  go_wp2_with fail
  refine (anyNet_any w1 (w.heap.size + 1) A len cap 0 (by omega) k1).mono ?_
  rintro e w2 ⟨NV, V, ps, rs, rfl, h2, h21, h100, own, ownA, -, g2⟩
  replace R := R.grown' g2 (fun g e => by injection e with e; omega)
  have b2 := below_only b0 g2 (by omega)
  clear g2 b0 k1
  obtain ⟨NA, nc, rfl, -, hNA⟩ := ownP_is own
  obtain ⟨VA, vc, rfl, -, -, -⟩ := ownA_is ownA
  obtain ⟨ng, rfl, -, -⟩ := hNA (by omega)
  clear hNA
  obtain ⟨r0, r1, r2, r3⟩ := R.cells
  go_wp2
  exact bodyPost_ret (v := .agg #[.slice (some ⟨ng, 0, none⟩) ps.length nc, .slice VA rs.length vc]) (by simp [results, Try.results19, go_sem, r0, r1]) rfl
    ⟨_, _, _, _, ps, rs, rfl, h2, h21, h100, OwnSl.ptsD (ownsRow_far (c := w.heap.size) (ownsRow_far (c := w.heap.size) own (by omega) 0 _) (by omega) 1 _), arcsD (ownsRow_far (c := w.heap.size) (ownsRow_far (c := w.heap.size) ownA (by omega) 0 _) (by omega) 1 _), (b2.setCell (by simp) _).setCell (by simp) _⟩

set_option maxHeartbeats 1000000 in
theorem drawDistFrom_any (w : World) (A : Option Addr) (len cap : Nat) (hc : CodeIn w A len) (hl : len ≤ 1048576) : Calls Try.prog 11 #[.slice A len cap] w (SomeNetInt w) := by
  have R := Pair.new w 27 (.slice none 0 0) (.slice none 0 0)
  have b0 := below1 w (.cells #[.slice none 0 0, .slice none 0 0] 27)
  go_enter Try.func11, Try.ntmps11
  go_wp2_with fail
  refine (open_any _ A len cap (hc.below b0) hl).mono ?_
  rintro e w1 ⟨rfl, k1, b1, -⟩
  rw [World.size_alloc] at k1
  replace R := R.below b1
  replace b0 := b0.trans (b1.mono b0.size)
  have hc1 := k1.lt
  clear b1
  go_wp2_with fail
  refine (anyNet_any w1 (w.heap.size + 1) A len cap 0 (by omega) k1).mono ?_
  rintro e w2 ⟨NV, V, ps, rs, rfl, h2, h21, h100, own, ownA, k2, g2⟩
  replace R := R.grown' g2 (fun g e => by injection e with e; omega)
  have hc2 := k2.lt
  have b2 := below_only b0 g2 (by omega)
  clear g2 b0 k1
  obtain ⟨NA, nc, rfl, -, hNA⟩ := ownP_is own
  obtain ⟨VA, vc, rfl, -, -, -⟩ := ownA_is ownA
  obtain ⟨ng, rfl, -, -⟩ := hNA (by omega)
  clear hNA
  have Y := Pair.new w2 27 (.slice (some ⟨ng, 0, none⟩) ps.length nc) (.slice VA rs.length vc)
  have kb := below1 w2 (.cells #[.slice (some ⟨ng, 0, none⟩) ps.length nc, .slice VA rs.length vc] 27)
  replace R := R.below kb
  have IP : IsPts (w2.alloc (.cells #[.slice (some ⟨ng, 0, none⟩) ps.length nc, .slice VA rs.length vc] 27)) (some ⟨ng, 0, none⟩) ps := (OwnSl.ptsD own).below kb
  have IA : IsArcs (w2.alloc (.cells #[.slice (some ⟨ng, 0, none⟩) ps.length nc, .slice VA rs.length vc] 27)) VA rs := (arcsD ownA).below kb
  clear IP IA
  have hyl : w2.heap.size < (w2.alloc (.cells #[.slice (some ⟨ng, 0, none⟩) ps.length nc, .slice VA rs.length vc] 27)).heap.size := Y.lt
  have kc := k2.alloc (.cells #[.slice (some ⟨ng, 0, none⟩) ps.length nc, .slice VA rs.length vc] 27)
  have own' := own.alloc (.cells #[.slice (some ⟨ng, 0, none⟩) ps.length nc, .slice VA rs.length vc] 27)
  have ownA' := ownA.alloc (.cells #[.slice (some ⟨ng, 0, none⟩) ps.length nc, .slice VA rs.length vc] 27)
  replace b2 := b2.trans (kb.mono b2.size)
  obtain ⟨yb, hyb⟩ : ∃ yb, yb = w2.heap.size := ⟨_, rfl⟩
  obtain ⟨W3, hW3⟩ : ∃ W3, W3 = w2.alloc (.cells #[.slice (some ⟨ng, 0, none⟩) ps.length nc, .slice VA rs.length vc] 27) := ⟨_, rfl⟩
  rw [← hyb] at Y hyl hc2
  rw [← hW3] at Y R kc own' ownA' b2 hyl
  have HYB := Lib.hid hyb
  have HW3 := Lib.hid hW3
  clear own ownA kb k2 hyb hW3
  go_wp2_with fail
  rw [← HYB.out, ← HW3.out]
  clear HYB HW3
  have S0 : W3.cell? ⟨yb, 0, none⟩ = some (.slice (some ⟨ng, 0, none⟩) ps.length nc) ∧ W3.cell? ⟨yb, 1, none⟩ = some (.slice VA rs.length vc) := ⟨Y.cells.1, Y.cells.2.1⟩
  go_region_held3 (fun w' => w'.cell? ⟨yb, 0, none⟩ = some (.slice (some ⟨ng, 0, none⟩) ps.length nc) ∧ w'.cell? ⟨yb, 1, none⟩ = some (.slice VA rs.length vc))
    (first | exact S0 | exact S3 | (refine ⟨?_, ?_⟩ <;> (rw [World.cell?_setCell_far _ _ _ _ (by simp; omega), World.cell?_setCell_far _ _ _ _ (by simp; omega)]; first | exact S3.1 | exact S3.2)))
    ((go_at_call 34; refine (node_any _ (w.heap.size + 1) A len cap _ (some ⟨ng, 0, none⟩) VA ps.length nc rs.length vc (by omega) h2 (by omega) kc.drew).mono ?_; rintro e w3 ⟨v, rfl, hv0, hv1, -, g3⟩; have S3 : w3.cell? ⟨yb, 0, none⟩ = some (.slice (some ⟨ng, 0, none⟩) ps.length nc) ∧ w3.cell? ⟨yb, 1, none⟩ = some (.slice VA rs.length vc) := ⟨cell_only g3 S0.1 (by intro e; injection e with e; omega), cell_only g3 S0.2 (by intro e; injection e with e; omega)⟩; have R3 : Pair w3 w.heap.size 27 (.slice none 0 0) (.slice none 0 0) := Pair.grown' (w := W3.drew) R g3 (fun g e => by injection e with e; omega); obtain ⟨r0, r1, r2, r3⟩ := R3.cells))
  have own3 := ownsRow_only (w := W3.drew) own' g3 (by omega)
  have ownA3 := ownsRow_only (w := W3.drew) ownA' g3 (by omega)
  have b3 := below_only b2.drew g3 (by omega)
  clear own' ownA' g3 kc R Y S0 S3 R3
  go_wp2
  exact bodyPost_ret (v := .tuple #[.agg #[.slice (some ⟨ng, 0, none⟩) ps.length nc, .slice VA rs.length vc], .int .i64 v]) (by simp [results, Try.results11, go_sem, r0, r1]) rfl
    ⟨_, _, _, _, ps, rs, v, rfl, h2, h21, h100, ⟨hv0, hv1⟩, OwnSl.ptsD (ownsRow_far (c := w.heap.size) (ownsRow_far (c := w.heap.size) own3 (by omega) 0 _) (by omega) 1 _), arcsD (ownsRow_far (c := w.heap.size) (ownsRow_far (c := w.heap.size) ownA3 (by omega) 0 _) (by omega) 1 _), (b3.setCell (by simp) _).setCell (by simp) _⟩

end Go.Proofs.Ytjaifbbkfgfdeaa
