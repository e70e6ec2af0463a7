/-
  What spec.DrawMarkPot leaves: some network, a number, some numbers.
-/
import Derived.Test.YtbmfjfglkjhlnaaDrawFar
import Derived.Test.YtbmfjfglkjhlnaaMarkSp
namespace Go.Proofs.Ytbmfjfglkjhlnaa
open Go.RowKit Go.Deep

def SomeNetMarks (w : World) (e : Ending) (w' : World) : Prop :=
  ∃ (ad : Addr) (B C : Option Addr) (ca cb cc : Nat) (ps : List (Int × Int)) (rs : List A3) (s : Int) (zs : List Int), e = .returned (.tuple #[.agg #[.slice (some ad) ps.length ca, .slice B rs.length cb], .int .i64 s, .slice C zs.length cc]) ∧ 2 ≤ ps.length ∧ ps.length ≤ 21 ∧ rs.length ≤ 100 ∧ zs.length ≤ 100 ∧ IsPts w' (some ad) ps ∧ IsArcs w' B rs ∧ IsInts w' C zs ∧ Below w.heap.size w w'
theorem ints_of_own {w : World} {base n : Nat} {A : Option Addr} {c : Nat} {zs : List Int} (hn : zs.length = n) (h : w.ownsRow base 3 1 (.slice A n c) n (zs.map (Value.int .i64))) : IsInts w A zs := by
  subst hn
  obtain ⟨A', c', e, -, h'⟩ := ownSl_of_own h
  injection e with e1
  subst e1
  exact OwnSl.ints h'

set_option maxRecDepth 100000 in
set_option maxHeartbeats 4000000 in
theorem drawMarkPot_any (w : World) (A : Option Addr) (len cap : Nat) (hc : CodeIn w A len) (hl : len ≤ 1048576) : Calls Try.prog 40 #[.slice A len cap] w (SomeNetMarks w) := by
  have R := Pair.new w 34 (.slice none 0 0) (.slice none 0 0)
  have b0 := below1 w (.cells #[.slice none 0 0, .slice none 0 0] 34)
  go_enter Try.func40, Try.ntmps40
  go_wp2_with fail
  refine (open_any _ A len cap (hc.below b0) hl).mono ?_
  rintro e w1 ⟨rfl, k1, b1, -⟩
  rw [World.size_alloc] at k1
  replace R := R.below b1
  replace b0 := b0.trans (b1.mono b0.size)
  have hc1 := k1.lt
  clear b1
  go_wp2_with fail
  refine (anyNet_any w1 (w.heap.size + 1) A len cap 0 (by omega) k1).mono ?_
  rintro e w2 ⟨NV, V, ps, rs, rfl, h2, h21, h100, own, ownA, k2, g2⟩
  replace R := R.grown' g2 (fun g e => by injection e with e; omega)
  have hc2 := k2.lt
  have b2 := below_only b0 g2 (by omega)
  clear g2 b0 k1
  obtain ⟨NA, nc, rfl, -, hNA⟩ := ownP_is own
  obtain ⟨VA, vc, rfl, -, -, -⟩ := ownA_is ownA
  obtain ⟨ng, rfl, -, -⟩ := hNA (by omega)
  clear hNA
  have Y := Pair.new w2 34 (.slice (some ⟨ng, 0, none⟩) ps.length nc) (.slice VA rs.length vc)
  have kb := below1 w2 (.cells #[.slice (some ⟨ng, 0, none⟩) ps.length nc, .slice VA rs.length vc] 34)
  replace R := R.below kb
  have IP : IsPts (w2.alloc (.cells #[.slice (some ⟨ng, 0, none⟩) ps.length nc, .slice VA rs.length vc] 34)) (some ⟨ng, 0, none⟩) ps := (OwnSl.ptsD own).below kb
  have IA : IsArcs (w2.alloc (.cells #[.slice (some ⟨ng, 0, none⟩) ps.length nc, .slice VA rs.length vc] 34)) VA rs := (arcsD ownA).below kb
  clear IP IA
  have hyl : w2.heap.size < (w2.alloc (.cells #[.slice (some ⟨ng, 0, none⟩) ps.length nc, .slice VA rs.length vc] 34)).heap.size := Y.lt
  have kc := k2.alloc (.cells #[.slice (some ⟨ng, 0, none⟩) ps.length nc, .slice VA rs.length vc] 34)
  have own' := own.alloc (.cells #[.slice (some ⟨ng, 0, none⟩) ps.length nc, .slice VA rs.length vc] 34)
  have ownA' := ownA.alloc (.cells #[.slice (some ⟨ng, 0, none⟩) ps.length nc, .slice VA rs.length vc] 34)
  replace b2 := b2.trans (kb.mono b2.size)
  obtain ⟨yb, hyb⟩ : ∃ yb, yb = w2.heap.size := ⟨_, rfl⟩
  obtain ⟨W3, hW3⟩ : ∃ W3, W3 = w2.alloc (.cells #[.slice (some ⟨ng, 0, none⟩) ps.length nc, .slice VA rs.length vc] 34) := ⟨_, rfl⟩
  rw [← hyb] at Y hyl hc2
  rw [← hW3] at Y R kc own' ownA' b2 hyl
  have HYB := Lib.hid hyb
  have HW3 := Lib.hid hW3
  clear own ownA kb k2 hyb hW3
  have HNL1 : Hid (∀ g, Value.ownBlock (.slice (some ⟨ng, 0, none⟩) ps.length nc) = some g → g < yb + 1) := Lib.hid (fun g e => by have h := (World.ownsRow.lt own' g e).2; rw [HW3.out, World.size_alloc, ← HYB.out] at h; exact h)
  have HNL2 : Hid (∀ g, Value.ownBlock (.slice VA rs.length vc) = some g → g < yb + 1) := Lib.hid (fun g e => by have h := (World.ownsRow.lt ownA' g e).2; rw [HW3.out, World.size_alloc, ← HYB.out] at h; exact h)
  have HYC := Lib.hid hc2
  have HYW : Hid (w.heap.size ≤ yb) := Lib.hid (by omega)
  have kl := below1 W3 (.cells #[] 3)
  have ownM := World.ownsRow_made (base := W3.heap.size) (size := 1) (e := 3) W3 #[] 0 (Nat.le_refl _) (by decide) rfl
  replace Y := Y.below kl
  replace R := R.below kl
  replace kc := kc.alloc (.cells #[] 3)
  have own := ownsRow_below own' kl
  have ownA := ownsRow_below ownA' kl
  have b := b2.trans (kl.mono b2.size)
  have hL3 : W3.heap.size = yb + 1 := by rw [HW3.out, World.size_alloc, ← HYB.out]
  rw [hL3] at ownM
  obtain ⟨W4, hW4⟩ : ∃ W4, W4 = W3.alloc (.cells #[] 3) := ⟨_, rfl⟩
  have hs4 : yb + 1 < W4.heap.size := by rw [hW4, World.size_alloc]; omega
  have HW4 := Lib.hid hW4
  rw [← hW4] at ownM
  rw [← hW4] at Y R kc own ownA b
  clear hL3 hW4 own' ownA' b2 kl hyl
  go_wp2_with fail
  rw [← HYB.out, ← HW3.out, ← HW4.out]
  clear HYB HW3 HW4
  refine (pick_any _ (w.heap.size + 1) A len cap _ 4 (by omega) kc (by omega)).mono ?_; rintro e w5 ⟨k0, rfl, hk0, hk1, -, kc5, g5, -⟩
  have hk2 : k0 < 4 := hk1 (by omega)
  have HNP := Lib.hid (fun g (e : Value.ownBlock (.slice (some ⟨ng, 0, none⟩) ps.length nc) = some g) => HNL1.out g e)
  have Y5 : Pair w5 yb 34 (.slice (some ⟨ng, 0, none⟩) ps.length nc) (.slice VA rs.length vc) := Pair.grown' Y g5 (fun g e => by injection e with e; omega)
  have R5 : Pair w5 w.heap.size 34 (.slice none 0 0) (.slice none 0 0) := Pair.grown' R g5 (fun g e => by injection e with e; omega)
  have own5 := ownsRow_only own g5 (by omega)
  have ownA5 := ownsRow_only ownA g5 (by omega)
  have ownM5 := ownsRow_only ownM g5 (by omega)
  have b5 := below_only b g5 (by omega)
  have hsz5 : (yb + 1) < w5.heap.size := by have := g5.size; omega
  obtain ⟨K0, rfl⟩ : ∃ K0 : Nat, k0 = (K0 : Int) := ⟨k0.toNat, by omega⟩
  clear Y R own ownA ownM b g5 kc hk1 hs4
  go_wp2
  go_loopw [7, 8] (fun vm vk wr => ∃ (k mm : Nat) (zs : List Int), vk = .int .i64 k ∧ k ≤ 3 ∧ zs.length + k ≤ 3 ∧ mm ≤ 400000 + 3 * zs.length ∧ CurAt wr (w.heap.size + 1) A len cap mm ∧ wr.ownsRow (yb + 1) 3 1 vm zs.length (zs.map (Value.int .i64)) ∧ (yb + 1) < wr.heap.size ∧ Pair wr w.heap.size 34 (.slice none 0 0) (.slice none 0 0) ∧ Pair wr yb 34 (.slice (some ⟨ng, 0, none⟩) ps.length nc) (.slice VA rs.length vc) ∧ wr.ownsRow w1.heap.size 104 2 (.slice (some ⟨ng, 0, none⟩) ps.length nc) ps.length (cellsP ps) ∧ wr.ownsRow w1.heap.size 80 3 (.slice VA rs.length vc) rs.length (cellsA rs) ∧ Below w.heap.size w wr) (fun _ k _ => (intOf k).toNat)
  case atStart => exact ⟨K0, _, [], rfl, by omega, by simp; omega, by simp, kc5, ownM5, hsz5, R5, Y5, own5, ownA5, b5⟩
  case round =>
    clear kc5 ownM5 hsz5 R5 Y5 own5 ownA5 b5
    obtain ⟨k, mm, zs, rfl, hk3, hzk, hmm, kc, ownM, hL, R, Y, own, ownA, b⟩ := hrel
    obtain ⟨VM, cm, rfl⟩ := own_formF ownM
    have hcl := kc.lt
    by_cases hk : 0 < k
    · have hki : (k : Int) > 0 := by omega
      obtain ⟨y0, y1, -, -⟩ := Y.cells
      go_wp2_with fail
      refine (node_any _ (w.heap.size + 1) A len cap mm (some ⟨ng, 0, none⟩) VA ps.length nc rs.length vc (by omega) h2 (by omega) kc).mono ?_; rintro e w6 ⟨s, rfl, hs0, hs1, k6, g6⟩
      have R6 : Pair w6 w.heap.size 34 (.slice none 0 0) (.slice none 0 0) := Pair.grown' R g6 (fun g e => by injection e with e; omega)
      have Y6 : Pair w6 yb 34 (.slice (some ⟨ng, 0, none⟩) ps.length nc) (.slice VA rs.length vc) := Pair.grown' Y g6 (fun g e => by injection e with e; omega)
      have own6 := ownsRow_only own g6 (by omega)
      have ownA6 := ownsRow_only ownA g6 (by omega)
      have ownM6 := ownsRow_only ownM g6 (by omega)
      have b6 := below_only b g6 (by omega)
      have hL6 : (yb + 1) < w6.heap.size := by have := g6.size; omega
      have kx := below1 w6 (.cells #[.int .i64 s] 3)
      obtain ⟨v1, w7, hr1, p1, g1⟩ := run_append_intF (w := w6) 27 (yb + 1) _ zs.length _ ownM6 s (by omega) (by omega)
      have hbk := World.ownsRow.lt ownM6
      have R7 := (R6.below kx).grownUp g1 (fun g e => by have := (hbk g e).1; omega)
      have Y7 := (Y6.below kx).grownUp g1 (fun g e => by have := (hbk g e).1; omega)
      have p1' : w7.ownsRow (yb + 1) 3 1 v1 (zs ++ [s]).length ((zs ++ [s]).map (Value.int .i64)) := by rw [List.length_append, List.map_append]; exact p1
      have own7 : w7.ownsRow w1.heap.size 104 2 (.slice (some ⟨ng, 0, none⟩) ps.length nc) ps.length (cellsP ps) := World.ownsRow.kept (ownsRow_below own6 kx) g1 (.inr (fun e => by have := HNL1.out ng rfl; have := hbk ng e.symm; omega))
      have ownA7 : w7.ownsRow w1.heap.size 80 3 (.slice VA rs.length vc) rs.length (cellsA rs) := by
        refine World.ownsRow.kept (ownsRow_below ownA6 kx) g1 ?_
        cases hv : Value.ownBlock (.slice VA rs.length vc) with
        | none => exact .inl rfl
        | some g => exact .inr (fun e => by have := HNL2.out g hv; have := hbk g e.symm; omega)
      have b7 := (b6.trans (kx.mono b6.size)).grown g1 (by have := b6.size; rw [World.size_alloc]; omega) (fun g e => by have := (hbk g e).1; have := HYW.out; omega)
      have kc7 := (k6.alloc (.cells #[.int .i64 s] 3)).later g1 (fun g e => by have := (hbk g e).1; have := HYC.out; omega)
      have hL7 : (yb + 1) < w7.heap.size := by have := g1.size; rw [World.size_alloc] at this; omega
      have hmm2 : mm + 3 ≤ 400000 + 3 * (zs ++ [s]).length := by rw [List.length_append]; simp; omega
      have hzk2 : (zs ++ [s]).length + (k - 1) ≤ 3 := by rw [List.length_append]; simp; omega
      clear R Y own ownA ownM b kc k6 g6 R6 Y6 own6 ownA6 ownM6 b6 hL hL6 y0 y1 g1
      go_wp2_with (at_builtin; refine Lib.wpList_append_run _ rfl _ _ _ _ rfl _ _ rfl rfl _ _ hr1 ?_)
      go_roundw
      case rel => exact ⟨k - 1, mm + 3, zs ++ [s], by go_num, by omega, hzk2, hmm2, kc7, p1', hL7, R7, Y7, own7, ownA7, b7⟩
      case measure => simp [intOf]; omega
    · have hki : ¬ (k : Int) > 0 := by omega
      go_wp2_with fail
      refine wp_region_held_drew (S := (fun w' => w'.cell? ⟨yb, 0, none⟩ = some (.slice (some ⟨ng, 0, none⟩) ps.length nc) ∧ w'.cell? ⟨yb, 1, none⟩ = some (.slice VA rs.length vc))) (by kernel_rfl) ?_ (fun hHeld => ?_)
      · exact ⟨Y.cells.1, Y.cells.2.1⟩
      refine wpAnyH_take (i := 0) (oi := ⟨some 26, _, _, _, _, _⟩) (v := .agg #[.slice (some ⟨ng, 0, none⟩) ps.length nc, .slice VA rs.length vc]) rfl (by kernel_rfl) (by kernel_rfl) (by kernel_rfl) (fun _ _ _ h => h) (Or.inl ⟨by rfl, fun w' hw => ?hy⟩) hHeld ?_
      case hy => (try dsimp only at hw); go_simp
      simp only [Act.put, List.setIfInBounds_toArray, List.set_cons_zero, List.set_cons_succ]
      refine wpAnyH_take (i := 1) (oi := ⟨some 27, _, _, _, _, _⟩) (v := .pointer (some ⟨w.heap.size + 1, 0, none⟩)) rfl (by kernel_rfl) (by kernel_rfl) (by kernel_rfl) (fun _ _ _ h => h) (Or.inl ⟨by rfl, fun w' hw => ?hy⟩) hHeld ?_
      case hy => (try dsimp only at hw); go_simp
      simp only [Act.put, List.setIfInBounds_toArray, List.set_cons_zero, List.set_cons_succ]
      refine wpAnyH_take (i := 2) (oi := ⟨some 28, _, _, _, _, _⟩) (v := .agg #[.slice (some ⟨ng, 0, none⟩) ps.length nc, .slice VA rs.length vc]) rfl (by kernel_rfl) (by kernel_rfl) (by kernel_rfl) (fun _ _ _ h => h) (Or.inl ⟨by rfl, fun w' hw => ?hy⟩) hHeld ?_
      case hy => (try dsimp only at hw); go_simp
      simp only [Act.put, List.setIfInBounds_toArray, List.set_cons_zero, List.set_cons_succ]
      refine wpAnyH_take (i := 4) (oi := ⟨some 30, _, _, _, _, _⟩) (v := .slice VM zs.length cm) rfl (by kernel_rfl) (by kernel_rfl) (by kernel_rfl) (fun _ _ _ h => h) (Or.inl ⟨by rfl, fun w' hw => ?hy⟩) hHeld ?_
      case hy => (try dsimp only at hw); go_simp
      simp only [Act.put, List.setIfInBounds_toArray, List.set_cons_zero, List.set_cons_succ]
      refine wpAnyH_ready (rs := [3]) (by kernel_rfl) (by simp) ?_
      refine AllReadyH.cons (o := ⟨some 29, _, _, _, _, _⟩) rfl (fun K hK => ?_) AllReadyH.nil
      go_simp
      refine (node_any _ (w.heap.size + 1) A len cap mm (some ⟨ng, 0, none⟩) VA ps.length nc rs.length vc (by omega) h2 (by omega) (kc.drew)).mono ?_; rintro e w6 ⟨s, rfl, hs0, hs1, k6, g6⟩
      have R6 : Pair w6 w.heap.size 34 (.slice none 0 0) (.slice none 0 0) := Pair.grown' (w := wr.drew) R g6 (fun g e => by injection e with e; omega)
      have Y6 : Pair w6 yb 34 (.slice (some ⟨ng, 0, none⟩) ps.length nc) (.slice VA rs.length vc) := Pair.grown' (w := wr.drew) Y g6 (fun g e => by injection e with e; omega)
      have own6 := ownsRow_only (w := wr.drew) own g6 (by omega)
      have ownA6 := ownsRow_only (w := wr.drew) ownA g6 (by omega)
      have ownM6 := ownsRow_only (w := wr.drew) ownM g6 (by omega)
      have b6 := below_only b.drew g6 (by omega)
      go_wp2_with fail
      refine hK.out _ _ ?_ (fun hHeld => ?_)
      · exact ⟨Y6.cells.1, Y6.cells.2.1⟩
      clear hK K
      try simp only [Act.put, List.setIfInBounds_toArray, List.set_cons_zero, List.set_cons_succ]
      obtain ⟨r0, r1, r2, r3⟩ := R6.cells
      refine wpAnyH_ready (rs := [5]) (by kernel_rfl) (by simp) ?_
      refine AllReadyH.cons (o := ⟨none, _, _, _, _, _⟩) rfl (fun K hK => ?_) AllReadyH.nil
      go_simp
      refine hK.out _ _ ?_ (fun hHeld => ?_)
      · refine ⟨?_, ?_⟩ <;> (rw [World.cell?_setCell_far _ _ _ _ (by simp; omega), World.cell?_setCell_far _ _ _ _ (by simp; omega)]); exact Y6.cells.1; exact Y6.cells.2.1
      clear hK K
      try simp only [Act.put, List.setIfInBounds_toArray, List.set_cons_zero, List.set_cons_succ]
      refine wpAnyH_take (i := 6) (oi := ⟨some 3, _, _, _, _, _⟩) (v := .int .i64 s) rfl (by kernel_rfl) (by kernel_rfl) (by kernel_rfl) (fun _ _ _ h => h) (Or.inl ⟨by rfl, fun w' hw => ?hy⟩) hHeld ?_
      case hy => (try dsimp only at hw); go_simp
      simp only [Act.put, List.setIfInBounds_toArray, List.set_cons_zero, List.set_cons_succ]
      refine wpAnyH_take (i := 7) (oi := ⟨some 4, _, _, _, _, _⟩) (v := .slice VM zs.length cm) rfl (by kernel_rfl) (by kernel_rfl) (by kernel_rfl) (fun _ _ _ h => h) (Or.inl ⟨by rfl, fun w' hw => ?hy⟩) hHeld ?_
      case hy => (try dsimp only at hw); go_simp
      simp only [Act.put, List.setIfInBounds_toArray, List.set_cons_zero, List.set_cons_succ]
      refine wpAnyH_done (by kernel_rfl) ?_ _
      obtain ⟨u0, u1, -, -⟩ := ((R6.set0 (.slice (some ⟨ng, 0, none⟩) ps.length nc)).set1 (.slice VA rs.length vc)).cells
      clear hHeld r0 r1 r2 r3
      go_wp2
      exact bodyPost_ret (v := .tuple #[.agg #[.slice (some ⟨ng, 0, none⟩) ps.length nc, .slice VA rs.length vc], .int .i64 s, .slice VM zs.length cm]) (by simp [results, Try.results40, go_sem, u0, u1]) rfl
        ⟨_, _, _, _, _, _, ps, rs, s, zs, rfl, h2, h21, h100, by omega, OwnSl.ptsD (ownsRow_far (c := w.heap.size) (ownsRow_far (c := w.heap.size) own6 (by omega) 0 (.slice (some ⟨ng, 0, none⟩) ps.length nc)) (by omega) 1 (.slice VA rs.length vc)), arcsD (ownsRow_far (c := w.heap.size) (ownsRow_far (c := w.heap.size) ownA6 (by omega) 0 (.slice (some ⟨ng, 0, none⟩) ps.length nc)) (by omega) 1 (.slice VA rs.length vc)), ints_of_own rfl (ownsRow_far (c := w.heap.size) (ownsRow_far (c := w.heap.size) ownM6 (by omega) 0 (.slice (some ⟨ng, 0, none⟩) ps.length nc)) (by omega) 1 (.slice VA rs.length vc)), (b6.setCell (by simp) _).setCell (by simp) _⟩

end Go.Proofs.Ytbmfjfglkjhlnaa
