/-
  What spec.DrawFarMarks leaves: some network and a number.
-/
import Derived.Test.YtbmfjfglkjhlnaaDrawDist
import Derived.Test.YtbmfjfglkjhlnaaFarSp
namespace Go.Proofs.Ytbmfjfglkjhlnaa
open Go.RowKit Go.Deep

set_option maxRecDepth 100000 in
set_option maxHeartbeats 4000000 in
theorem drawFar_any (w : World) (A : Option Addr) (len cap : Nat) (hc : CodeIn w A len) (hl : len ≤ 1048576) : Calls Try.prog 44 #[.slice A len cap] w (SomeNetInt w) := by
  have R := Pair.new w 34 (.slice none 0 0) (.slice none 0 0)
  have b0 := below1 w (.cells #[.slice none 0 0, .slice none 0 0] 34)
  go_enter Try.func44, Try.ntmps44
  go_wp2_with fail
  refine (open_any _ A len cap (hc.below b0) hl).mono ?_
  rintro e w1 ⟨rfl, k1, b1, -⟩
  rw [World.size_alloc] at k1
  replace R := R.below b1
  replace b0 := b0.trans (b1.mono b0.size)
  have hc1 := k1.lt
  clear b1
  go_wp2_with fail
  refine (anyNet_any w1 (w.heap.size + 1) A len cap 0 (by omega) k1).mono ?_
  rintro e w2 ⟨NV, V, ps, rs, rfl, h2, h21, h100, own, ownA, k2, g2⟩
  replace R := R.grown' g2 (fun g e => by injection e with e; omega)
  have hc2 := k2.lt
  have b2 := below_only b0 g2 (by omega)
  clear g2 b0 k1
  obtain ⟨NA, nc, rfl, -, hNA⟩ := ownP_is own
  obtain ⟨VA, vc, rfl, -, -, -⟩ := ownA_is ownA
  obtain ⟨ng, rfl, -, -⟩ := hNA (by omega)
  clear hNA
  have Y := Pair.new w2 34 (.slice (some ⟨ng, 0, none⟩) ps.length nc) (.slice VA rs.length vc)
  have kb := below1 w2 (.cells #[.slice (some ⟨ng, 0, none⟩) ps.length nc, .slice VA rs.length vc] 34)
  replace R := R.below kb
  have IP : IsPts (w2.alloc (.cells #[.slice (some ⟨ng, 0, none⟩) ps.length nc, .slice VA rs.length vc] 34)) (some ⟨ng, 0, none⟩) ps := (OwnSl.ptsD own).below kb
  have IA : IsArcs (w2.alloc (.cells #[.slice (some ⟨ng, 0, none⟩) ps.length nc, .slice VA rs.length vc] 34)) VA rs := (arcsD ownA).below kb
  clear IP IA
  have hyl : w2.heap.size < (w2.alloc (.cells #[.slice (some ⟨ng, 0, none⟩) ps.length nc, .slice VA rs.length vc] 34)).heap.size := Y.lt
  have kc := k2.alloc (.cells #[.slice (some ⟨ng, 0, none⟩) ps.length nc, .slice VA rs.length vc] 34)
  have own' := own.alloc (.cells #[.slice (some ⟨ng, 0, none⟩) ps.length nc, .slice VA rs.length vc] 34)
  have ownA' := ownA.alloc (.cells #[.slice (some ⟨ng, 0, none⟩) ps.length nc, .slice VA rs.length vc] 34)
  replace b2 := b2.trans (kb.mono b2.size)
  obtain ⟨yb, hyb⟩ : ∃ yb, yb = w2.heap.size := ⟨_, rfl⟩
  obtain ⟨W3, hW3⟩ : ∃ W3, W3 = w2.alloc (.cells #[.slice (some ⟨ng, 0, none⟩) ps.length nc, .slice VA rs.length vc] 34) := ⟨_, rfl⟩
  rw [← hyb] at Y hyl hc2
  rw [← hW3] at Y R kc own' ownA' b2 hyl
  have HYB := Lib.hid hyb
  have HW3 := Lib.hid hW3
  clear own ownA kb k2 hyb hW3
  go_wp2_with fail
  rw [← HYB.out, ← HW3.out]
  clear HYB HW3
  have S0 : W3.cell? ⟨yb, 0, none⟩ = some (.slice (some ⟨ng, 0, none⟩) ps.length nc) ∧ W3.cell? ⟨yb, 1, none⟩ = some (.slice VA rs.length vc) := ⟨Y.cells.1, Y.cells.2.1⟩
  have S0d : W3.drew.cell? ⟨yb, 0, none⟩ = some (.slice (some ⟨ng, 0, none⟩) ps.length nc) ∧ W3.drew.cell? ⟨yb, 1, none⟩ = some (.slice VA rs.length vc) := S0
  have Rd : Pair W3.drew w.heap.size 34 (.slice none 0 0) (.slice none 0 0) := R
  have ownd := own'
  have ownAd := ownA'
  have bd := b2.drew
  have kcd := kc.drew
  have hzd : W3.drew.heap.size = W3.heap.size := rfl
  refine wp_region_held_drew (S := (fun w' => w'.cell? ⟨yb, 0, none⟩ = some (.slice (some ⟨ng, 0, none⟩) ps.length nc) ∧ w'.cell? ⟨yb, 1, none⟩ = some (.slice VA rs.length vc))) (by kernel_rfl) ?_ (fun hHeld => ?_)
  · exact S0d
  refine wpAnyH_take (i := 0) (oi := ⟨some 10, _, _, _, _, _⟩) (v := .agg #[.slice (some ⟨ng, 0, none⟩) ps.length nc, .slice VA rs.length vc]) rfl (by kernel_rfl) (by kernel_rfl) (by kernel_rfl) (fun _ _ _ h => h) (Or.inl ⟨by rfl, fun w' hw => ?hy⟩) hHeld ?_
  case hy => (try dsimp only at hw); go_simp
  simp only [Act.put, List.setIfInBounds_toArray, List.set_cons_zero, List.set_cons_succ]
  refine wpAnyH_take (i := 1) (oi := ⟨some 11, _, _, _, _, _⟩) (v := .pointer (some ⟨w.heap.size + 1, 0, none⟩)) rfl (by kernel_rfl) (by kernel_rfl) (by kernel_rfl) (fun _ _ _ h => h) (Or.inl ⟨by rfl, fun w' hw => ?hy⟩) hHeld ?_
  case hy => (try dsimp only at hw); go_simp
  simp only [Act.put, List.setIfInBounds_toArray, List.set_cons_zero, List.set_cons_succ]
  refine wpAnyH_take (i := 4) (oi := ⟨some 14, _, _, _, _, _⟩) (v := .pointer (some ⟨w.heap.size + 1, 0, none⟩)) rfl (by kernel_rfl) (by kernel_rfl) (by kernel_rfl) (fun _ _ _ h => h) (Or.inl ⟨by rfl, fun w' hw => ?hy⟩) hHeld ?_
  case hy => (try dsimp only at hw); go_simp
  simp only [Act.put, List.setIfInBounds_toArray, List.set_cons_zero, List.set_cons_succ]
  refine wpAnyH_take (i := 7) (oi := ⟨some 17, _, _, _, _, _⟩) (v := .pointer (some ⟨w.heap.size + 1, 0, none⟩)) rfl (by kernel_rfl) (by kernel_rfl) (by kernel_rfl) (fun _ _ _ h => h) (Or.inl ⟨by rfl, fun w' hw => ?hy⟩) hHeld ?_
  case hy => (try dsimp only at hw); go_simp
  simp only [Act.put, List.setIfInBounds_toArray, List.set_cons_zero, List.set_cons_succ]
  refine wpAnyH_ready (rs := [2]) (by kernel_rfl) (by simp) ?_
  refine AllReadyH.cons (o := ⟨some 12, _, _, _, _, _⟩) rfl (fun K hK => ?_) AllReadyH.nil
  go_simp
  refine (pick_any _ (w.heap.size + 1) A len cap _ 5 (by omega) kcd (by omega)).mono ?_; rintro e w4 ⟨s5, rfl, hs50, hs51, -, k4, g4, hz4⟩
  have Sd := S0d
  have S4 : w4.cell? ⟨yb, 0, none⟩ = some (.slice (some ⟨ng, 0, none⟩) ps.length nc) ∧ w4.cell? ⟨yb, 1, none⟩ = some (.slice VA rs.length vc) := ⟨cell_only g4 Sd.1 (by intro e; injection e with e; omega), cell_only g4 Sd.2 (by intro e; injection e with e; omega)⟩
  have R4 : Pair w4 w.heap.size 34 (.slice none 0 0) (.slice none 0 0) := Pair.grown' (w := W3.drew) Rd g4 (fun g e => by injection e with e; omega)
  have own4 := ownsRow_only (w := W3.drew) ownd g4 (by omega)
  have ownA4 := ownsRow_only (w := W3.drew) ownAd g4 (by omega)
  have b4 := below_only bd g4 (by omega)
  have hs52 : s5 < 5 := hs51 (by omega)
  have hw5 : IntKind.i64.wrap (1 + s5) = 1 + s5 := IntWalk.i64_in _ (by omega)
  have hl4 := k4.lt
  go_wp2_with fail
  refine hK.out _ _ ?_ (fun hHeld => ?_)
  · exact S4
  clear hK K
  try simp only [Act.put, List.setIfInBounds_toArray, List.set_cons_zero, List.set_cons_succ]
  refine wpAnyH_take (i := 3) (oi := ⟨some 13, _, _, _, _, _⟩) (v := .int .i64 (1 + s5)) rfl (by kernel_rfl) (by kernel_rfl) (by kernel_rfl) (fun _ _ _ h => h) (Or.inl ⟨by rfl, fun w' hw => ?hy⟩) hHeld ?_
  case hy => (try dsimp only at hw); go_simp
  simp only [Act.put, List.setIfInBounds_toArray, List.set_cons_zero, List.set_cons_succ]
  refine wpAnyH_ready (rs := [5]) (by kernel_rfl) (by simp) ?_
  refine AllReadyH.cons (o := ⟨some 15, _, _, _, _, _⟩) rfl (fun K hK => ?_) AllReadyH.nil
  go_simp
  refine (raw_any w4 (w.heap.size + 1) A len cap _ (by omega) k4).mono ?_; rintro e w5 ⟨x, rfl, hx0, hx1, k5, g5⟩
  have S5 : w5.cell? ⟨yb, 0, none⟩ = some (.slice (some ⟨ng, 0, none⟩) ps.length nc) ∧ w5.cell? ⟨yb, 1, none⟩ = some (.slice VA rs.length vc) := ⟨cell_only g5 S4.1 (by intro e; injection e with e; omega), cell_only g5 S4.2 (by intro e; injection e with e; omega)⟩
  have R5 : Pair w5 w.heap.size 34 (.slice none 0 0) (.slice none 0 0) := Pair.grown' (w := w4) R4 g5 (fun g e => by injection e with e; omega)
  have own5 := ownsRow_only (w := w4) own4 g5 (by omega)
  have ownA5 := ownsRow_only (w := w4) ownA4 g5 (by omega)
  have b5 := below_only b4 g5 (by omega)
  have hl5 := k5.lt
  have hs5z : W3.heap.size ≤ w5.heap.size := by have := g5.size; omega
  go_wp2_with fail
  refine hK.out _ _ ?_ (fun hHeld => ?_)
  · exact S5
  clear hK K
  try simp only [Act.put, List.setIfInBounds_toArray, List.set_cons_zero, List.set_cons_succ]
  refine wpAnyH_ready (rs := [6, 8]) (by kernel_rfl) (by simp) ?_
  refine AllReadyH.cons (o := ⟨some 16, _, _, _, _, _⟩) rfl (fun K hK => ?_) ?_
  · go_simp
    refine hK.out _ _ ?_ (fun hHeld => ?_)
    · exact ⟨cell_under (below1 w5 _) S5.1, cell_under (below1 w5 _) S5.2⟩
    clear hK K
    try simp only [Act.put, List.setIfInBounds_toArray, List.set_cons_zero, List.set_cons_succ]
    have k5a := k5.alloc (.cells #[.int .i64 (1 + s5), .int .i64 x, .int .i64 8, .int .i64 9] 3)
    have S5a : (w5.alloc (.cells #[.int .i64 (1 + s5), .int .i64 x, .int .i64 8, .int .i64 9] 3)).cell? ⟨yb, 0, none⟩ = some (.slice (some ⟨ng, 0, none⟩) ps.length nc) ∧ (w5.alloc (.cells #[.int .i64 (1 + s5), .int .i64 x, .int .i64 8, .int .i64 9] 3)).cell? ⟨yb, 1, none⟩ = some (.slice VA rs.length vc) := ⟨cell_under (below1 w5 _) S5.1, cell_under (below1 w5 _) S5.2⟩
    have R5a := R5.alloc (.cells #[.int .i64 (1 + s5), .int .i64 x, .int .i64 8, .int .i64 9] 3)
    have own5a := own5.alloc (.cells #[.int .i64 (1 + s5), .int .i64 x, .int .i64 8, .int .i64 9] 3)
    have ownA5a := ownA5.alloc (.cells #[.int .i64 (1 + s5), .int .i64 x, .int .i64 8, .int .i64 9] 3)
    have b5a := b5.trans ((below1 w5 (.cells #[.int .i64 (1 + s5), .int .i64 x, .int .i64 8, .int .i64 9] 3)).mono b5.size)
    refine wpAnyH_ready (rs := [8]) (by kernel_rfl) (by simp) ?_
    refine AllReadyH.cons (o := ⟨some 18, _, _, _, _, _⟩) rfl (fun K hK => ?_) AllReadyH.nil
    go_simp
    refine (pick_any _ (w.heap.size + 1) A len cap _ 4 (by omega) k5a (by omega)).mono ?_; rintro e w6 ⟨s4, rfl, hs40, hs41, -, k6, g6, -⟩
    have hs42 : s4 < 4 := hs41 (by omega)
    obtain ⟨q, rfl⟩ : ∃ q : Nat, s4 = (q : Int) := ⟨s4.toNat, by omega⟩
    have hq4 : q < 4 := by omega
    have S6 : w6.cell? ⟨yb, 0, none⟩ = some (.slice (some ⟨ng, 0, none⟩) ps.length nc) ∧ w6.cell? ⟨yb, 1, none⟩ = some (.slice VA rs.length vc) := ⟨cell_only g6 S5a.1 (by intro e; injection e with e; omega), cell_only g6 S5a.2 (by intro e; injection e with e; omega)⟩
    have R6 : Pair w6 w.heap.size 34 (.slice none 0 0) (.slice none 0 0) := Pair.grown' (w := (w5.alloc (.cells #[.int .i64 (1 + s5), .int .i64 x, .int .i64 8, .int .i64 9] 3))) R5a g6 (fun g e => by injection e with e; omega)
    have own6 := ownsRow_only (w := (w5.alloc (.cells #[.int .i64 (1 + s5), .int .i64 x, .int .i64 8, .int .i64 9] 3))) own5a g6 (by omega)
    have ownA6 := ownsRow_only (w := (w5.alloc (.cells #[.int .i64 (1 + s5), .int .i64 x, .int .i64 8, .int .i64 9] 3))) ownA5a g6 (by omega)
    have b6 := below_only b5a g6 (by omega)
    have hzc := made_cell (zs := [1 + s5, x, 8, 9]) (t := 3) hl5 g6 (i := q) (by simp; omega)
    obtain ⟨z, hz⟩ : ∃ z, z = zg [1 + s5, x, 8, 9] q := ⟨_, rfl⟩
    have HZ64 : Hid (In64 z) := Lib.hid (by rw [hz]; rcases (show q = 0 ∨ q = 1 ∨ q = 2 ∨ q = 3 by omega) with r | r | r | r <;> subst r <;> refine ⟨?_, ?_⟩ <;> simp [zg] <;> omega)
    replace hz : w6.cell? ⟨w5.heap.size, q, none⟩ = some (.int .i64 z) := by rw [hz]; exact hzc
    have hw56 : w5.heap.size ≤ w6.heap.size := by have := g6.size; rw [World.size_alloc] at this; omega
    go_wp2_with fail
    refine hK.out _ _ ?_ (fun hHeld => ?_)
    · exact S6
    clear hK K
    try simp only [Act.put, List.setIfInBounds_toArray, List.set_cons_zero, List.set_cons_succ]
    refine anyH_monoF (S' := fun w' => (w'.cell? ⟨yb, 0, none⟩ = some (.slice (some ⟨ng, 0, none⟩) ps.length nc) ∧ w'.cell? ⟨yb, 1, none⟩ = some (.slice VA rs.length vc)) ∧ w'.cell? ⟨w5.heap.size, q, none⟩ = some (.int .i64 z)) (fun _ h => h.1) _ _ _ _ ?_
    replace hHeld : (w6.cell? ⟨yb, 0, none⟩ = some (.slice (some ⟨ng, 0, none⟩) ps.length nc) ∧ w6.cell? ⟨yb, 1, none⟩ = some (.slice VA rs.length vc)) ∧ w6.cell? ⟨w5.heap.size, q, none⟩ = some (.int .i64 z) := ⟨S6, hz⟩
    refine wpAnyH_take (i := 9) (oi := ⟨some 19, _, _, _, _, _⟩) (v := .pointer (some ⟨w5.heap.size, q, none⟩)) rfl (by kernel_rfl) (by kernel_rfl) (by kernel_rfl) (fun _ _ _ h => h) (Or.inl ⟨by rfl, fun w' hw => ?hy⟩) hHeld ?_
    case hy => (try dsimp only at hw); go_simp
    simp only [Act.put, List.setIfInBounds_toArray, List.set_cons_zero, List.set_cons_succ]
    refine wpAnyH_take (i := 10) (oi := ⟨some 20, _, _, _, _, _⟩) (v := .int .i64 z) rfl (by kernel_rfl) (by kernel_rfl) (by kernel_rfl) (fun _ _ _ h => h) (Or.inl ⟨by rfl, fun w' hw => ?hy⟩) hHeld ?_
    case hy => (try dsimp only at hw); go_simp
    simp only [Act.put, List.setIfInBounds_toArray, List.set_cons_zero, List.set_cons_succ]
    obtain ⟨r0, r1, r2, r3⟩ := R6.cells
    refine wpAnyH_ready (rs := [11]) (by kernel_rfl) (by simp) ?_
    refine AllReadyH.cons (o := ⟨none, _, _, _, _, _⟩) rfl (fun K hK => ?_) AllReadyH.nil
    go_simp
    refine hK.out _ _ ?_ (fun hHeld => ?_)
    · refine ⟨⟨?_, ?_⟩, ?_⟩ <;> (rw [World.cell?_setCell_far _ _ _ _ (by simp; omega), World.cell?_setCell_far _ _ _ _ (by simp; omega)]); exact S6.1; exact S6.2; exact hz
    clear hK K
    try simp only [Act.put, List.setIfInBounds_toArray, List.set_cons_zero, List.set_cons_succ]
    refine wpAnyH_take (i := 12) (oi := ⟨some 3, _, _, _, _, _⟩) (v := .int .i64 z) rfl (by kernel_rfl) (by kernel_rfl) (by kernel_rfl) (fun _ _ _ h => h) (Or.inl ⟨by rfl, fun w' hw => ?hy⟩) hHeld ?_
    case hy => (try dsimp only at hw); go_simp
    simp only [Act.put, List.setIfInBounds_toArray, List.set_cons_zero, List.set_cons_succ]
    refine wpAnyH_done (by kernel_rfl) ?_ _
    obtain ⟨u0, u1, -, -⟩ := ((R6.set0 (.slice (some ⟨ng, 0, none⟩) ps.length nc)).set1 (.slice VA rs.length vc)).cells
    clear hHeld r0 r1 r2 r3
    go_wp2
    exact bodyPost_ret (v := .tuple #[.agg #[.slice (some ⟨ng, 0, none⟩) ps.length nc, .slice VA rs.length vc], .int .i64 z]) (by simp [results, Try.results44, go_sem, u0, u1]) rfl
      ⟨_, _, _, _, ps, rs, z, rfl, h2, h21, h100, HZ64.out, OwnSl.ptsD (ownsRow_far (c := w.heap.size) (ownsRow_far (c := w.heap.size) own6 (by omega) 0 _) (by omega) 1 _), arcsD (ownsRow_far (c := w.heap.size) (ownsRow_far (c := w.heap.size) ownA6 (by omega) 0 _) (by omega) 1 _), (b6.setCell (by simp) _).setCell (by simp) _⟩
  refine AllReadyH.cons (o := ⟨some 18, _, _, _, _, _⟩) rfl (fun K hK => ?_) ?_
  · go_simp
    refine (pick_any _ (w.heap.size + 1) A len cap _ 4 (by omega) k5 (by omega)).mono ?_; rintro e w6 ⟨s4, rfl, hs40, hs41, -, k6, g6, -⟩
    have hs42 : s4 < 4 := hs41 (by omega)
    obtain ⟨q, rfl⟩ : ∃ q : Nat, s4 = (q : Int) := ⟨s4.toNat, by omega⟩
    have hq4 : q < 4 := by omega
    have S6 : w6.cell? ⟨yb, 0, none⟩ = some (.slice (some ⟨ng, 0, none⟩) ps.length nc) ∧ w6.cell? ⟨yb, 1, none⟩ = some (.slice VA rs.length vc) := ⟨cell_only g6 S5.1 (by intro e; injection e with e; omega), cell_only g6 S5.2 (by intro e; injection e with e; omega)⟩
    have R6 : Pair w6 w.heap.size 34 (.slice none 0 0) (.slice none 0 0) := Pair.grown' (w := w5) R5 g6 (fun g e => by injection e with e; omega)
    have own6 := ownsRow_only (w := w5) own5 g6 (by omega)
    have ownA6 := ownsRow_only (w := w5) ownA5 g6 (by omega)
    have b6 := below_only b5 g6 (by omega)
    have hl6 := k6.lt
    go_wp2_with fail
    refine hK.out _ _ ?_ (fun hHeld => ?_)
    · exact S6
    clear hK K
    try simp only [Act.put, List.setIfInBounds_toArray, List.set_cons_zero, List.set_cons_succ]
    refine wpAnyH_ready (rs := [6, 11]) (by kernel_rfl) (by simp) ?_
    refine AllReadyH.cons (o := ⟨some 16, _, _, _, _, _⟩) rfl (fun K hK => ?_) ?_
    · go_simp
      refine hK.out _ _ ?_ (fun hHeld => ?_)
      · exact ⟨cell_under (below1 w6 _) S6.1, cell_under (below1 w6 _) S6.2⟩
      clear hK K
      try simp only [Act.put, List.setIfInBounds_toArray, List.set_cons_zero, List.set_cons_succ]
      have S7 : (w6.alloc (.cells #[.int .i64 (1 + s5), .int .i64 x, .int .i64 8, .int .i64 9] 3)).cell? ⟨yb, 0, none⟩ = some (.slice (some ⟨ng, 0, none⟩) ps.length nc) ∧ (w6.alloc (.cells #[.int .i64 (1 + s5), .int .i64 x, .int .i64 8, .int .i64 9] 3)).cell? ⟨yb, 1, none⟩ = some (.slice VA rs.length vc) := ⟨cell_under (below1 w6 _) S6.1, cell_under (below1 w6 _) S6.2⟩
      have R7 := R6.alloc (.cells #[.int .i64 (1 + s5), .int .i64 x, .int .i64 8, .int .i64 9] 3)
      have own7 := own6.alloc (.cells #[.int .i64 (1 + s5), .int .i64 x, .int .i64 8, .int .i64 9] 3)
      have ownA7 := ownA6.alloc (.cells #[.int .i64 (1 + s5), .int .i64 x, .int .i64 8, .int .i64 9] 3)
      have b7 := b6.trans ((below1 w6 (.cells #[.int .i64 (1 + s5), .int .i64 x, .int .i64 8, .int .i64 9] 3)).mono b6.size)
      have hzc := laid_cell w6 [1 + s5, x, 8, 9] 3 (i := q) (by simp; omega)
      obtain ⟨z, hz⟩ : ∃ z, z = zg [1 + s5, x, 8, 9] q := ⟨_, rfl⟩
      have HZ64 : Hid (In64 z) := Lib.hid (by rw [hz]; rcases (show q = 0 ∨ q = 1 ∨ q = 2 ∨ q = 3 by omega) with r | r | r | r <;> subst r <;> refine ⟨?_, ?_⟩ <;> simp [zg] <;> omega)
      replace hz : (w6.alloc (.cells #[.int .i64 (1 + s5), .int .i64 x, .int .i64 8, .int .i64 9] 3)).cell? ⟨w6.heap.size, q, none⟩ = some (.int .i64 z) := by rw [hz]; exact hzc
      refine anyH_monoF (S' := fun w' => (w'.cell? ⟨yb, 0, none⟩ = some (.slice (some ⟨ng, 0, none⟩) ps.length nc) ∧ w'.cell? ⟨yb, 1, none⟩ = some (.slice VA rs.length vc)) ∧ w'.cell? ⟨w6.heap.size, q, none⟩ = some (.int .i64 z)) (fun _ h => h.1) _ _ _ _ ?_
      replace hHeld : ((w6.alloc (.cells #[.int .i64 (1 + s5), .int .i64 x, .int .i64 8, .int .i64 9] 3)).cell? ⟨yb, 0, none⟩ = some (.slice (some ⟨ng, 0, none⟩) ps.length nc) ∧ (w6.alloc (.cells #[.int .i64 (1 + s5), .int .i64 x, .int .i64 8, .int .i64 9] 3)).cell? ⟨yb, 1, none⟩ = some (.slice VA rs.length vc)) ∧ (w6.alloc (.cells #[.int .i64 (1 + s5), .int .i64 x, .int .i64 8, .int .i64 9] 3)).cell? ⟨w6.heap.size, q, none⟩ = some (.int .i64 z) := ⟨S7, hz⟩
      refine wpAnyH_take (i := 9) (oi := ⟨some 19, _, _, _, _, _⟩) (v := .pointer (some ⟨w6.heap.size, q, none⟩)) rfl (by kernel_rfl) (by kernel_rfl) (by kernel_rfl) (fun _ _ _ h => h) (Or.inl ⟨by rfl, fun w' hw => ?hy⟩) hHeld ?_
      case hy => (try dsimp only at hw); go_simp
      simp only [Act.put, List.setIfInBounds_toArray, List.set_cons_zero, List.set_cons_succ]
      refine wpAnyH_take (i := 10) (oi := ⟨some 20, _, _, _, _, _⟩) (v := .int .i64 z) rfl (by kernel_rfl) (by kernel_rfl) (by kernel_rfl) (fun _ _ _ h => h) (Or.inl ⟨by rfl, fun w' hw => ?hy⟩) hHeld ?_
      case hy => (try dsimp only at hw); go_simp
      simp only [Act.put, List.setIfInBounds_toArray, List.set_cons_zero, List.set_cons_succ]
      obtain ⟨r0, r1, r2, r3⟩ := R7.cells
      refine wpAnyH_ready (rs := [11]) (by kernel_rfl) (by simp) ?_
      refine AllReadyH.cons (o := ⟨none, _, _, _, _, _⟩) rfl (fun K hK => ?_) AllReadyH.nil
      go_simp
      refine hK.out _ _ ?_ (fun hHeld => ?_)
      · refine ⟨⟨?_, ?_⟩, ?_⟩ <;> (rw [World.cell?_setCell_far _ _ _ _ (by simp; omega), World.cell?_setCell_far _ _ _ _ (by simp; omega)]); exact S7.1; exact S7.2; exact hz
      clear hK K
      try simp only [Act.put, List.setIfInBounds_toArray, List.set_cons_zero, List.set_cons_succ]
      refine wpAnyH_take (i := 12) (oi := ⟨some 3, _, _, _, _, _⟩) (v := .int .i64 z) rfl (by kernel_rfl) (by kernel_rfl) (by kernel_rfl) (fun _ _ _ h => h) (Or.inl ⟨by rfl, fun w' hw => ?hy⟩) hHeld ?_
      case hy => (try dsimp only at hw); go_simp
      simp only [Act.put, List.setIfInBounds_toArray, List.set_cons_zero, List.set_cons_succ]
      refine wpAnyH_done (by kernel_rfl) ?_ _
      obtain ⟨u0, u1, -, -⟩ := ((R7.set0 (.slice (some ⟨ng, 0, none⟩) ps.length nc)).set1 (.slice VA rs.length vc)).cells
      clear hHeld r0 r1 r2 r3
      go_wp2
      exact bodyPost_ret (v := .tuple #[.agg #[.slice (some ⟨ng, 0, none⟩) ps.length nc, .slice VA rs.length vc], .int .i64 z]) (by simp [results, Try.results44, go_sem, u0, u1]) rfl
        ⟨_, _, _, _, ps, rs, z, rfl, h2, h21, h100, HZ64.out, OwnSl.ptsD (ownsRow_far (c := w.heap.size) (ownsRow_far (c := w.heap.size) own7 (by omega) 0 _) (by omega) 1 _), arcsD (ownsRow_far (c := w.heap.size) (ownsRow_far (c := w.heap.size) ownA7 (by omega) 0 _) (by omega) 1 _), (b7.setCell (by simp) _).setCell (by simp) _⟩
    refine AllReadyH.cons (o := ⟨none, _, _, _, _, _⟩) rfl (fun K hK => ?_) ?_
    · obtain ⟨r0, r1, r2, r3⟩ := R6.cells
      go_simp
      refine hK.out _ _ ?_ (fun hHeld => ?_)
      · refine ⟨?_, ?_⟩ <;> (rw [World.cell?_setCell_far _ _ _ _ (by simp; omega), World.cell?_setCell_far _ _ _ _ (by simp; omega)]); exact S6.1; exact S6.2
      clear hK K
      try simp only [Act.put, List.setIfInBounds_toArray, List.set_cons_zero, List.set_cons_succ]
      have R7 := (R6.set0 (.slice (some ⟨ng, 0, none⟩) ps.length nc)).set1 (.slice VA rs.length vc)
      have own7 := ownsRow_far (c := w.heap.size) (ownsRow_far (c := w.heap.size) own6 (by omega) 0 (.slice (some ⟨ng, 0, none⟩) ps.length nc)) (by omega) 1 (.slice VA rs.length vc)
      have ownA7 := ownsRow_far (c := w.heap.size) (ownsRow_far (c := w.heap.size) ownA6 (by omega) 0 (.slice (some ⟨ng, 0, none⟩) ps.length nc)) (by omega) 1 (.slice VA rs.length vc)
      have b7 := (b6.setCell (p := ⟨w.heap.size, 0, none⟩) (by simp) (.slice (some ⟨ng, 0, none⟩) ps.length nc)).setCell (p := ⟨w.heap.size, 1, none⟩) (by simp) (.slice VA rs.length vc)
      have S7 := hHeld
      obtain ⟨V, hV⟩ : ∃ V, V = ((w6.setCell ⟨w.heap.size, 0, none⟩ (.slice (some ⟨ng, 0, none⟩) ps.length nc)).setCell ⟨w.heap.size, 1, none⟩ (.slice VA rs.length vc)) := ⟨_, rfl⟩
      rw [← hV] at R7 own7 ownA7 b7 S7 hHeld ⊢
      clear hV R6 own6 ownA6 b6 S6
      refine wpAnyH_ready (rs := [6]) (by kernel_rfl) (by simp) ?_
      refine AllReadyH.cons (o := ⟨some 16, _, _, _, _, _⟩) rfl (fun K hK => ?_) AllReadyH.nil
      go_simp
      refine hK.out _ _ ?_ (fun hHeld => ?_)
      · exact ⟨cell_under (below1 V _) S7.1, cell_under (below1 V _) S7.2⟩
      clear hK K
      try simp only [Act.put, List.setIfInBounds_toArray, List.set_cons_zero, List.set_cons_succ]
      have S8 : (V.alloc (.cells #[.int .i64 (1 + s5), .int .i64 x, .int .i64 8, .int .i64 9] 3)).cell? ⟨yb, 0, none⟩ = some (.slice (some ⟨ng, 0, none⟩) ps.length nc) ∧ (V.alloc (.cells #[.int .i64 (1 + s5), .int .i64 x, .int .i64 8, .int .i64 9] 3)).cell? ⟨yb, 1, none⟩ = some (.slice VA rs.length vc) := ⟨cell_under (below1 V _) S7.1, cell_under (below1 V _) S7.2⟩
      have R8 := R7.alloc (.cells #[.int .i64 (1 + s5), .int .i64 x, .int .i64 8, .int .i64 9] 3)
      have own8 := own7.alloc (.cells #[.int .i64 (1 + s5), .int .i64 x, .int .i64 8, .int .i64 9] 3)
      have ownA8 := ownA7.alloc (.cells #[.int .i64 (1 + s5), .int .i64 x, .int .i64 8, .int .i64 9] 3)
      have b8 := b7.trans ((below1 V (.cells #[.int .i64 (1 + s5), .int .i64 x, .int .i64 8, .int .i64 9] 3)).mono b7.size)
      have hzc := laid_cell V [1 + s5, x, 8, 9] 3 (i := q) (by simp; omega)
      obtain ⟨z, hz⟩ : ∃ z, z = zg [1 + s5, x, 8, 9] q := ⟨_, rfl⟩
      have HZ64 : Hid (In64 z) := Lib.hid (by rw [hz]; rcases (show q = 0 ∨ q = 1 ∨ q = 2 ∨ q = 3 by omega) with r | r | r | r <;> subst r <;> refine ⟨?_, ?_⟩ <;> simp [zg] <;> omega)
      replace hz : (V.alloc (.cells #[.int .i64 (1 + s5), .int .i64 x, .int .i64 8, .int .i64 9] 3)).cell? ⟨V.heap.size, q, none⟩ = some (.int .i64 z) := by rw [hz]; exact hzc
      refine anyH_monoF (S' := fun w' => (w'.cell? ⟨yb, 0, none⟩ = some (.slice (some ⟨ng, 0, none⟩) ps.length nc) ∧ w'.cell? ⟨yb, 1, none⟩ = some (.slice VA rs.length vc)) ∧ w'.cell? ⟨V.heap.size, q, none⟩ = some (.int .i64 z)) (fun _ h => h.1) _ _ _ _ ?_
      replace hHeld : ((V.alloc (.cells #[.int .i64 (1 + s5), .int .i64 x, .int .i64 8, .int .i64 9] 3)).cell? ⟨yb, 0, none⟩ = some (.slice (some ⟨ng, 0, none⟩) ps.length nc) ∧ (V.alloc (.cells #[.int .i64 (1 + s5), .int .i64 x, .int .i64 8, .int .i64 9] 3)).cell? ⟨yb, 1, none⟩ = some (.slice VA rs.length vc)) ∧ (V.alloc (.cells #[.int .i64 (1 + s5), .int .i64 x, .int .i64 8, .int .i64 9] 3)).cell? ⟨V.heap.size, q, none⟩ = some (.int .i64 z) := ⟨S8, hz⟩
      refine wpAnyH_take (i := 9) (oi := ⟨some 19, _, _, _, _, _⟩) (v := .pointer (some ⟨V.heap.size, q, none⟩)) rfl (by kernel_rfl) (by kernel_rfl) (by kernel_rfl) (fun _ _ _ h => h) (Or.inl ⟨by rfl, fun w' hw => ?hy⟩) hHeld ?_
      case hy => (try dsimp only at hw); go_simp
      simp only [Act.put, List.setIfInBounds_toArray, List.set_cons_zero, List.set_cons_succ]
      refine wpAnyH_take (i := 10) (oi := ⟨some 20, _, _, _, _, _⟩) (v := .int .i64 z) rfl (by kernel_rfl) (by kernel_rfl) (by kernel_rfl) (fun _ _ _ h => h) (Or.inl ⟨by rfl, fun w' hw => ?hy⟩) hHeld ?_
      case hy => (try dsimp only at hw); go_simp
      simp only [Act.put, List.setIfInBounds_toArray, List.set_cons_zero, List.set_cons_succ]
      refine wpAnyH_take (i := 12) (oi := ⟨some 3, _, _, _, _, _⟩) (v := .int .i64 z) rfl (by kernel_rfl) (by kernel_rfl) (by kernel_rfl) (fun _ _ _ h => h) (Or.inl ⟨by rfl, fun w' hw => ?hy⟩) hHeld ?_
      case hy => (try dsimp only at hw); go_simp
      simp only [Act.put, List.setIfInBounds_toArray, List.set_cons_zero, List.set_cons_succ]
      refine wpAnyH_done (by kernel_rfl) ?_ _
      obtain ⟨u0, u1, -, -⟩ := R8.cells
      clear hHeld
      go_wp2
      exact bodyPost_ret (v := .tuple #[.agg #[.slice (some ⟨ng, 0, none⟩) ps.length nc, .slice VA rs.length vc], .int .i64 z]) (by simp [results, Try.results44, go_sem, u0, u1]) rfl
        ⟨_, _, _, _, ps, rs, z, rfl, h2, h21, h100, HZ64.out, OwnSl.ptsD own8, arcsD ownA8, b8⟩
    exact AllReadyH.nil
  exact AllReadyH.nil

end Go.Proofs.Ytbmfjfglkjhlnaa
