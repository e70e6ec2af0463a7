/-
  What spec.DrawQueuePut leaves: some list of items and an item.
-/
import Derived.Test.YtdobiapnkdgjoaaDrawQueue
namespace Go.Proofs.Ytdobiapnkdgjoaa
open Go.RowKit Go.Deep

theorem anyH_mono {P : Program} {ops : Array Oper} {Q : Exit → Act → World → Prop} {md : Region.Mode} {S S' : World → Prop} (h : ∀ w, S' w → S w) :
    ∀ (fuel : Nat) (listed : Array Bool) (a : Act) (w : World), wpAnyH P md ops Q S' fuel listed a w → wpAnyH P md ops Q S fuel listed a w
  | 0, _, _, _, k => k
  | fuel + 1, _, _, _, k => ⟨k.1, fun i hi => wpOp_mono (fun a' w' k' => ⟨h w' k'.1, anyH_mono h fuel _ a' w' k'.2⟩) (k.2 i hi)⟩

theorem store_below {w W : World} (b : Below w.heap.size w W) (z d : Int) : Below w.heap.size w ((W.setCell ⟨w.heap.size, 0, none⟩ (.int .i64 z)).setCell ⟨w.heap.size, 1, none⟩ (.int .i64 d)) := (b.setCell (by simp) _).setCell (by simp) _
/-- Some list of at most eight items and some item. -/
def SomeQueueItem (w : World) (e : Ending) (w' : World) : Prop :=
  ∃ (V : Value) (q : List (Int × Int)) (x y : Int), e = .returned (.tuple #[V, .agg #[.int .i64 x, .int .i64 y]]) ∧ q.length ≤ 8 ∧ (∀ p ∈ q, In64 p.2) ∧ In64 x ∧ In64 y ∧ w'.ownsRow w.heap.size 45 2 V q.length (cellsP q) ∧ Below w.heap.size w w'
theorem lit_two (L : Nat) {x r i : Int} (hx : In64 x) (hr : In64 r) (h0 : 0 ≤ i) (h2 : i < 2) : ∃ z, In64 z ∧ ∀ W, Pair W L 3 (.int .i64 x) (.int .i64 r) → W.cell? ⟨L, i.toNat, none⟩ = some (.int .i64 z) := by
  rcases (show i = 0 ∨ i = 1 by omega) with rfl | rfl
  · exact ⟨x, hx, fun W P => P.cells.1⟩
  · exact ⟨r, hr, fun W P => P.cells.2.1⟩

set_option maxRecDepth 100000 in
set_option maxHeartbeats 8000000 in
theorem drawQueuePut_any (w : World) (A : Option Addr) (len cap : Nat) (hc : CodeIn w A len) (hl : len ≤ 1048576) : Calls Try.prog 30 #[.slice A len cap] w (SomeQueueItem w) := by
  have R := Pair.new w 45 (.int .i64 0) (.int .i64 0)
  have b0 := below1 w (.cells #[.int .i64 0, .int .i64 0] 45)
  go_enter Try.func30, Try.ntmps30
  go_wp2_with fail
  refine (open_any _ A len cap (hc.below b0) hl).mono ?_
  rintro e w1 ⟨rfl, k1, b1, -⟩
  rw [World.size_alloc] at k1
  replace R := R.below b1
  replace b0 := b0.trans (b1.mono b0.size)
  have hc1 := k1.lt
  clear b1
  go_wp2_with fail
  refine (queue_any w1 (w.heap.size + 1) A len cap 0 (by omega) k1).mono ?_
  rintro e w2 ⟨V0, q, rfl, hq8, h64, own, k, g2⟩
  replace R := R.grown' g2 (fun g e => by injection e with e; omega)
  replace b0 := below_only b0 g2 (by omega)
  have HQ := Lib.hid h64
  clear g2 k1 h64
  go_wp2_with fail
  replace R := R.below (Below.refl _ _).drew
  replace b0 := b0.drew
  replace k := k.drew
  replace own := ownsRow_below own (Below.refl _ _).drew
  refine wp_region_held_drew (S := fun _ => True) (by kernel_rfl) trivial (fun hHeld => ?_)
  refine wpAnyH_take (i := 0) (oi := ⟨some 10, _, _, _, _, _⟩) (v := V0) rfl (by kernel_rfl) (by kernel_rfl) (by kernel_rfl) (fun _ _ _ h => h) (Or.inl ⟨by rfl, fun w' hw => ?hy⟩) hHeld ?_
  case hy => (try dsimp only at hw); go_simp
  simp only [Act.put, List.setIfInBounds_toArray, List.set_cons_zero, List.set_cons_succ]
  refine wpAnyH_take (i := 1) (oi := ⟨some 11, _, _, _, _, _⟩) (v := .pointer (some ⟨w.heap.size + 1, 0, none⟩)) rfl (by kernel_rfl) (by kernel_rfl) (by kernel_rfl) (fun _ _ _ h => h) (Or.inl ⟨by rfl, fun w' hw => ?hy⟩) hHeld ?_
  case hy => (try dsimp only at hw); go_simp
  simp only [Act.put, List.setIfInBounds_toArray, List.set_cons_zero, List.set_cons_succ]
  refine wpAnyH_take (i := 3) (oi := ⟨some 13, _, _, _, _, _⟩) (v := .pointer (some ⟨w.heap.size + 1, 0, none⟩)) rfl (by kernel_rfl) (by kernel_rfl) (by kernel_rfl) (fun _ _ _ h => h) (Or.inl ⟨by rfl, fun w' hw => ?hy⟩) hHeld ?_
  case hy => (try dsimp only at hw); go_simp
  simp only [Act.put, List.setIfInBounds_toArray, List.set_cons_zero, List.set_cons_succ]
  refine wpAnyH_take (i := 6) (oi := ⟨some 16, _, _, _, _, _⟩) (v := .pointer (some ⟨w.heap.size + 1, 0, none⟩)) rfl (by kernel_rfl) (by kernel_rfl) (by kernel_rfl) (fun _ _ _ h => h) (Or.inl ⟨by rfl, fun w' hw => ?hy⟩) hHeld ?_
  case hy => (try dsimp only at hw); go_simp
  simp only [Act.put, List.setIfInBounds_toArray, List.set_cons_zero, List.set_cons_succ]
  refine wpAnyH_take (i := 10) (oi := ⟨some 20, _, _, _, _, _⟩) (v := .pointer (some ⟨w.heap.size + 1, 0, none⟩)) rfl (by kernel_rfl) (by kernel_rfl) (by kernel_rfl) (fun _ _ _ h => h) (Or.inl ⟨by rfl, fun w' hw => ?hy⟩) hHeld ?_
  case hy => (try dsimp only at hw); go_simp
  simp only [Act.put, List.setIfInBounds_toArray, List.set_cons_zero, List.set_cons_succ]
  refine wpAnyH_ready (rs := [2]) (by kernel_rfl) (by simp) ?_
  refine AllReadyH.cons (o := ⟨some 12, _, _, _, _, _⟩) rfl (fun K hK => ?_) ?_
  · go_simp
    refine (pick_any _ (w.heap.size + 1) A len cap _ 20 (by omega) k (by omega)).mono ?_
    rintro e ux ⟨x, rfl, hx0, hx1, -, k, g, -⟩
    have hx2 := hx1 (by omega)
    clear hx1
    replace own := ownsRow_only own g (by omega)
    replace R := R.grown' g (fun g e => by injection e with e; omega)
    replace b0 := below_only b0 g (by omega)
    clear g
    have hx64 : In64 x := in64_small hx0 hx2 (by omega)
    refine hK.out _ _ ?_ (fun hHeld => ?_)
    · trivial
    clear hK K
    try simp only [Act.put, List.setIfInBounds_toArray, List.set_cons_zero, List.set_cons_succ]
    refine wpAnyH_ready (rs := [4]) (by kernel_rfl) (by simp) ?_
    refine AllReadyH.cons (o := ⟨some 14, _, _, _, _, _⟩) rfl (fun K hK => ?_) ?_
    · go_simp
      refine (raw_any _ (w.heap.size + 1) A len cap _ (by omega) k).mono ?_
      rintro e ur ⟨r, rfl, hr0, hr1, k, g⟩
      have hr64 : In64 r := ⟨hr0, hr1⟩
      replace own := ownsRow_only own g (by omega)
      replace R := R.grown' g (fun g e => by injection e with e; omega)
      replace b0 := below_only b0 g (by omega)
      clear g
      refine hK.out _ _ ?_ (fun hHeld => ?_)
      · trivial
      clear hK K
      try simp only [Act.put, List.setIfInBounds_toArray, List.set_cons_zero, List.set_cons_succ]
      refine wpAnyH_ready (rs := [5, 7]) (by kernel_rfl) (by simp) ?_
      refine AllReadyH.cons (o := ⟨some 15, _, _, _, _, _⟩) rfl (fun K hK => ?_) ?_
      · go_simp
        have hLl := k.lt
        have P := Pair.new ur 3 (.int .i64 x) (.int .i64 r)
        replace k := k.alloc (.cells #[.int .i64 x, .int .i64 r] 3)
        replace own := own.alloc (.cells #[.int .i64 x, .int .i64 r] 3)
        replace R := R.alloc (.cells #[.int .i64 x, .int .i64 r] 3)
        replace b0 := b0.alloc b0.size (.cells #[.int .i64 x, .int .i64 r] 3)
        obtain ⟨L, hL⟩ : ∃ L, L = ur.heap.size := ⟨_, rfl⟩
        rw [← hL] at P hLl ⊢
        clear hL
        generalize World.alloc _ _ = V at k own R b0 P ⊢
        refine hK.out _ _ ?_ (fun hHeld => ?_)
        · trivial
        clear hK K
        try simp only [Act.put, List.setIfInBounds_toArray, List.set_cons_zero, List.set_cons_succ]
        refine wpAnyH_ready (rs := [7]) (by kernel_rfl) (by simp) ?_
        refine AllReadyH.cons (o := ⟨some 17, _, _, _, _, _⟩) rfl (fun K hK => ?_) ?_
        · go_simp
          refine (pick_any _ (w.heap.size + 1) A len cap _ 2 (by omega) k (by omega)).mono ?_
          rintro e ui ⟨i, rfl, hi0, hi1, -, k, g, -⟩
          have hi2 := hi1 (by omega)
          clear hi1
          replace own := ownsRow_only own g (by omega)
          replace R := R.grown' g (fun g e => by injection e with e; omega)
          replace b0 := below_only b0 g (by omega)
          replace P := P.grown' g (fun g e => by injection e with e; omega)
          clear g
          refine hK.out _ _ ?_ (fun hHeld => ?_)
          · trivial
          clear hK K
          try simp only [Act.put, List.setIfInBounds_toArray, List.set_cons_zero, List.set_cons_succ]
          obtain ⟨z, hz64, hzk⟩ := lit_two L hx64 hr64 hi0 hi2
          refine anyH_mono (S' := fun w' => w'.cell? ⟨L, i.toNat, none⟩ = some (.int .i64 z)) (fun _ _ => trivial) _ _ _ _ ?_
          replace hHeld := hzk _ P
          refine wpAnyH_take (i := 8) (oi := ⟨some 18, _, _, _, _, _⟩) (v := .pointer (some ⟨L, i.toNat, none⟩)) rfl (by kernel_rfl) (by kernel_rfl) (by kernel_rfl) (fun _ _ _ h => h) (Or.inl ⟨by rfl, fun w' hw => ?hy⟩) hHeld ?_
          case hy => (try dsimp only at hw); go_simp
          simp only [Act.put, List.setIfInBounds_toArray, List.set_cons_zero, List.set_cons_succ]
          refine wpAnyH_take (i := 9) (oi := ⟨some 19, _, _, _, _, _⟩) (v := .int .i64 z) rfl (by kernel_rfl) (by kernel_rfl) (by kernel_rfl) (fun _ _ _ h => h) (Or.inl ⟨by rfl, fun w' hw => ?hy⟩) hHeld ?_
          case hy => (try dsimp only at hw); go_simp
          simp only [Act.put, List.setIfInBounds_toArray, List.set_cons_zero, List.set_cons_succ]
          refine wpAnyH_ready (rs := [11]) (by kernel_rfl) (by simp) ?_
          refine AllReadyH.cons (o := ⟨some 21, _, _, _, _, _⟩) rfl (fun K hK => ?_) ?_
          · go_simp
            refine (pick_any _ (w.heap.size + 1) A len cap _ 9 (by omega) k (by omega)).mono ?_
            rintro e ud ⟨d, rfl, hd0, hd1, -, k, g, -⟩
            have hd2 := hd1 (by omega)
            clear hd1
            replace own := ownsRow_only own g (by omega)
            replace R := R.grown' g (fun g e => by injection e with e; omega)
            replace b0 := below_only b0 g (by omega)
            replace P := P.grown' g (fun g e => by injection e with e; omega)
            clear g
            refine hK.out _ _ ?_ (fun hHeld => ?_)
            · exact hzk _ P
            clear hK K
            try simp only [Act.put, List.setIfInBounds_toArray, List.set_cons_zero, List.set_cons_succ]
            refine wpAnyH_take (i := 12) (oi := ⟨some 22, _, _, _, _, _⟩) (v := .agg #[.int .i64 z, .int .i64 d]) rfl (by kernel_rfl) (by kernel_rfl) (by kernel_rfl) (fun _ _ _ h => h) (Or.inl ⟨by rfl, fun w' hw => ?hy⟩) hHeld ?_
            case hy => (try dsimp only at hw); go_simp
            simp only [Act.put, List.setIfInBounds_toArray, List.set_cons_zero, List.set_cons_succ]
            refine wpAnyH_take (i := 13) (oi := ⟨some 2, _, _, _, _, _⟩) (v := V0) rfl (by kernel_rfl) (by kernel_rfl) (by kernel_rfl) (fun _ _ _ h => h) (Or.inl ⟨by rfl, fun w' hw => ?hy⟩) hHeld ?_
            case hy => (try dsimp only at hw); go_simp
            simp only [Act.put, List.setIfInBounds_toArray, List.set_cons_zero, List.set_cons_succ]
            refine wpAnyH_ready (rs := [14]) (by kernel_rfl) (by simp) ?_
            refine AllReadyH.cons (o := ⟨none, _, _, _, _, _⟩) rfl (fun K hK => ?_) ?_
            · obtain ⟨q0, q1, q2, q3⟩ := R.cells
              go_simp
              clear q0 q1 q2 q3
              refine hK.out _ _ ?_ (fun hHeld => ?_)
              · rw [World.cell?_setCell_far _ _ _ _ (by simp; omega), World.cell?_setCell_far _ _ _ _ (by simp; omega)]; exact hHeld
              clear hK K
              try simp only [Act.put, List.setIfInBounds_toArray, List.set_cons_zero, List.set_cons_succ]
              refine wpAnyH_done (by kernel_rfl) ?_ _
              clear hHeld hzk P
              have own2 := ownsRow_far (c := w.heap.size) (ownsRow_far (c := w.heap.size) own (by omega) 0 (.int .i64 z)) (by omega) 1 (.int .i64 d)
              have R2 := (R.set0 (.int .i64 z)).set1 (.int .i64 d)
              have b2 := store_below b0 z d
              clear own R b0 k
              generalize World.setCell (World.setCell _ _ _) _ _ = VV at own2 R2 b2 ⊢
              obtain ⟨r0, r1, -, -⟩ := R2.cells
              go_wp2
              exact bodyPost_ret (v := .tuple #[V0, .agg #[.int .i64 z, .int .i64 d]]) (by simp [results, Try.results30, go_sem, r0, r1]) rfl ⟨V0, q, z, d, rfl, hq8, HQ.out, hz64, in64_small hd0 hd2 (by omega), ownsRow_base own2 (by omega), b2⟩
            exact AllReadyH.nil
          exact AllReadyH.nil
        exact AllReadyH.nil
      refine AllReadyH.cons (o := ⟨some 17, _, _, _, _, _⟩) rfl (fun K hK => ?_) ?_
      · go_simp
        refine (pick_any _ (w.heap.size + 1) A len cap _ 2 (by omega) k (by omega)).mono ?_
        rintro e ui ⟨i, rfl, hi0, hi1, -, k, g, -⟩
        have hi2 := hi1 (by omega)
        clear hi1
        replace own := ownsRow_only own g (by omega)
        replace R := R.grown' g (fun g e => by injection e with e; omega)
        replace b0 := below_only b0 g (by omega)
        clear g
        refine hK.out _ _ ?_ (fun hHeld => ?_)
        · trivial
        clear hK K
        try simp only [Act.put, List.setIfInBounds_toArray, List.set_cons_zero, List.set_cons_succ]
        refine wpAnyH_ready (rs := [5, 11]) (by kernel_rfl) (by simp) ?_
        refine AllReadyH.cons (o := ⟨some 15, _, _, _, _, _⟩) rfl (fun K hK => ?_) ?_
        · go_simp
          have hLl := k.lt
          have P := Pair.new ui 3 (.int .i64 x) (.int .i64 r)
          replace k := k.alloc (.cells #[.int .i64 x, .int .i64 r] 3)
          replace own := own.alloc (.cells #[.int .i64 x, .int .i64 r] 3)
          replace R := R.alloc (.cells #[.int .i64 x, .int .i64 r] 3)
          replace b0 := b0.alloc b0.size (.cells #[.int .i64 x, .int .i64 r] 3)
          obtain ⟨L, hL⟩ : ∃ L, L = ui.heap.size := ⟨_, rfl⟩
          rw [← hL] at P hLl ⊢
          clear hL
          generalize World.alloc _ _ = V at k own R b0 P ⊢
          refine hK.out _ _ ?_ (fun hHeld => ?_)
          · trivial
          clear hK K
          try simp only [Act.put, List.setIfInBounds_toArray, List.set_cons_zero, List.set_cons_succ]
          obtain ⟨z, hz64, hzk⟩ := lit_two L hx64 hr64 hi0 hi2
          refine anyH_mono (S' := fun w' => w'.cell? ⟨L, i.toNat, none⟩ = some (.int .i64 z)) (fun _ _ => trivial) _ _ _ _ ?_
          replace hHeld := hzk _ P
          refine wpAnyH_take (i := 8) (oi := ⟨some 18, _, _, _, _, _⟩) (v := .pointer (some ⟨L, i.toNat, none⟩)) rfl (by kernel_rfl) (by kernel_rfl) (by kernel_rfl) (fun _ _ _ h => h) (Or.inl ⟨by rfl, fun w' hw => ?hy⟩) hHeld ?_
          case hy => (try dsimp only at hw); go_simp
          simp only [Act.put, List.setIfInBounds_toArray, List.set_cons_zero, List.set_cons_succ]
          refine wpAnyH_take (i := 9) (oi := ⟨some 19, _, _, _, _, _⟩) (v := .int .i64 z) rfl (by kernel_rfl) (by kernel_rfl) (by kernel_rfl) (fun _ _ _ h => h) (Or.inl ⟨by rfl, fun w' hw => ?hy⟩) hHeld ?_
          case hy => (try dsimp only at hw); go_simp
          simp only [Act.put, List.setIfInBounds_toArray, List.set_cons_zero, List.set_cons_succ]
          refine wpAnyH_ready (rs := [11]) (by kernel_rfl) (by simp) ?_
          refine AllReadyH.cons (o := ⟨some 21, _, _, _, _, _⟩) rfl (fun K hK => ?_) ?_
          · go_simp
            refine (pick_any _ (w.heap.size + 1) A len cap _ 9 (by omega) k (by omega)).mono ?_
            rintro e ud ⟨d, rfl, hd0, hd1, -, k, g, -⟩
            have hd2 := hd1 (by omega)
            clear hd1
            replace own := ownsRow_only own g (by omega)
            replace R := R.grown' g (fun g e => by injection e with e; omega)
            replace b0 := below_only b0 g (by omega)
            replace P := P.grown' g (fun g e => by injection e with e; omega)
            clear g
            refine hK.out _ _ ?_ (fun hHeld => ?_)
            · exact hzk _ P
            clear hK K
            try simp only [Act.put, List.setIfInBounds_toArray, List.set_cons_zero, List.set_cons_succ]
            refine wpAnyH_take (i := 12) (oi := ⟨some 22, _, _, _, _, _⟩) (v := .agg #[.int .i64 z, .int .i64 d]) rfl (by kernel_rfl) (by kernel_rfl) (by kernel_rfl) (fun _ _ _ h => h) (Or.inl ⟨by rfl, fun w' hw => ?hy⟩) hHeld ?_
            case hy => (try dsimp only at hw); go_simp
            simp only [Act.put, List.setIfInBounds_toArray, List.set_cons_zero, List.set_cons_succ]
            refine wpAnyH_take (i := 13) (oi := ⟨some 2, _, _, _, _, _⟩) (v := V0) rfl (by kernel_rfl) (by kernel_rfl) (by kernel_rfl) (fun _ _ _ h => h) (Or.inl ⟨by rfl, fun w' hw => ?hy⟩) hHeld ?_
            case hy => (try dsimp only at hw); go_simp
            simp only [Act.put, List.setIfInBounds_toArray, List.set_cons_zero, List.set_cons_succ]
            refine wpAnyH_ready (rs := [14]) (by kernel_rfl) (by simp) ?_
            refine AllReadyH.cons (o := ⟨none, _, _, _, _, _⟩) rfl (fun K hK => ?_) ?_
            · obtain ⟨q0, q1, q2, q3⟩ := R.cells
              go_simp
              clear q0 q1 q2 q3
              refine hK.out _ _ ?_ (fun hHeld => ?_)
              · rw [World.cell?_setCell_far _ _ _ _ (by simp; omega), World.cell?_setCell_far _ _ _ _ (by simp; omega)]; exact hHeld
              clear hK K
              try simp only [Act.put, List.setIfInBounds_toArray, List.set_cons_zero, List.set_cons_succ]
              refine wpAnyH_done (by kernel_rfl) ?_ _
              clear hHeld hzk P
              have own2 := ownsRow_far (c := w.heap.size) (ownsRow_far (c := w.heap.size) own (by omega) 0 (.int .i64 z)) (by omega) 1 (.int .i64 d)
              have R2 := (R.set0 (.int .i64 z)).set1 (.int .i64 d)
              have b2 := store_below b0 z d
              clear own R b0 k
              generalize World.setCell (World.setCell _ _ _) _ _ = VV at own2 R2 b2 ⊢
              obtain ⟨r0, r1, -, -⟩ := R2.cells
              go_wp2
              exact bodyPost_ret (v := .tuple #[V0, .agg #[.int .i64 z, .int .i64 d]]) (by simp [results, Try.results30, go_sem, r0, r1]) rfl ⟨V0, q, z, d, rfl, hq8, HQ.out, hz64, in64_small hd0 hd2 (by omega), ownsRow_base own2 (by omega), b2⟩
            exact AllReadyH.nil
          exact AllReadyH.nil
        refine AllReadyH.cons (o := ⟨some 21, _, _, _, _, _⟩) rfl (fun K hK => ?_) ?_
        · go_simp
          refine (pick_any _ (w.heap.size + 1) A len cap _ 9 (by omega) k (by omega)).mono ?_
          rintro e ud ⟨d, rfl, hd0, hd1, -, k, g, -⟩
          have hd2 := hd1 (by omega)
          clear hd1
          replace own := ownsRow_only own g (by omega)
          replace R := R.grown' g (fun g e => by injection e with e; omega)
          replace b0 := below_only b0 g (by omega)
          clear g
          refine hK.out _ _ ?_ (fun hHeld => ?_)
          · trivial
          clear hK K
          try simp only [Act.put, List.setIfInBounds_toArray, List.set_cons_zero, List.set_cons_succ]
          refine wpAnyH_take (i := 13) (oi := ⟨some 2, _, _, _, _, _⟩) (v := V0) rfl (by kernel_rfl) (by kernel_rfl) (by kernel_rfl) (fun _ _ _ h => h) (Or.inl ⟨by rfl, fun w' hw => ?hy⟩) hHeld ?_
          case hy => (try dsimp only at hw); go_simp
          simp only [Act.put, List.setIfInBounds_toArray, List.set_cons_zero, List.set_cons_succ]
          refine wpAnyH_ready (rs := [5]) (by kernel_rfl) (by simp) ?_
          refine AllReadyH.cons (o := ⟨some 15, _, _, _, _, _⟩) rfl (fun K hK => ?_) ?_
          · go_simp
            have hLl := k.lt
            have P := Pair.new ud 3 (.int .i64 x) (.int .i64 r)
            replace k := k.alloc (.cells #[.int .i64 x, .int .i64 r] 3)
            replace own := own.alloc (.cells #[.int .i64 x, .int .i64 r] 3)
            replace R := R.alloc (.cells #[.int .i64 x, .int .i64 r] 3)
            replace b0 := b0.alloc b0.size (.cells #[.int .i64 x, .int .i64 r] 3)
            obtain ⟨L, hL⟩ : ∃ L, L = ud.heap.size := ⟨_, rfl⟩
            rw [← hL] at P hLl ⊢
            clear hL
            generalize World.alloc _ _ = V at k own R b0 P ⊢
            refine hK.out _ _ ?_ (fun hHeld => ?_)
            · trivial
            clear hK K
            try simp only [Act.put, List.setIfInBounds_toArray, List.set_cons_zero, List.set_cons_succ]
            obtain ⟨z, hz64, hzk⟩ := lit_two L hx64 hr64 hi0 hi2
            refine anyH_mono (S' := fun w' => w'.cell? ⟨L, i.toNat, none⟩ = some (.int .i64 z)) (fun _ _ => trivial) _ _ _ _ ?_
            replace hHeld := hzk _ P
            refine wpAnyH_take (i := 8) (oi := ⟨some 18, _, _, _, _, _⟩) (v := .pointer (some ⟨L, i.toNat, none⟩)) rfl (by kernel_rfl) (by kernel_rfl) (by kernel_rfl) (fun _ _ _ h => h) (Or.inl ⟨by rfl, fun w' hw => ?hy⟩) hHeld ?_
            case hy => (try dsimp only at hw); go_simp
            simp only [Act.put, List.setIfInBounds_toArray, List.set_cons_zero, List.set_cons_succ]
            refine wpAnyH_take (i := 9) (oi := ⟨some 19, _, _, _, _, _⟩) (v := .int .i64 z) rfl (by kernel_rfl) (by kernel_rfl) (by kernel_rfl) (fun _ _ _ h => h) (Or.inl ⟨by rfl, fun w' hw => ?hy⟩) hHeld ?_
            case hy => (try dsimp only at hw); go_simp
            simp only [Act.put, List.setIfInBounds_toArray, List.set_cons_zero, List.set_cons_succ]
            refine wpAnyH_take (i := 12) (oi := ⟨some 22, _, _, _, _, _⟩) (v := .agg #[.int .i64 z, .int .i64 d]) rfl (by kernel_rfl) (by kernel_rfl) (by kernel_rfl) (fun _ _ _ h => h) (Or.inl ⟨by rfl, fun w' hw => ?hy⟩) hHeld ?_
            case hy => (try dsimp only at hw); go_simp
            simp only [Act.put, List.setIfInBounds_toArray, List.set_cons_zero, List.set_cons_succ]
            refine wpAnyH_ready (rs := [14]) (by kernel_rfl) (by simp) ?_
            refine AllReadyH.cons (o := ⟨none, _, _, _, _, _⟩) rfl (fun K hK => ?_) ?_
            · obtain ⟨q0, q1, q2, q3⟩ := R.cells
              go_simp
              clear q0 q1 q2 q3
              refine hK.out _ _ ?_ (fun hHeld => ?_)
              · rw [World.cell?_setCell_far _ _ _ _ (by simp; omega), World.cell?_setCell_far _ _ _ _ (by simp; omega)]; exact hHeld
              clear hK K
              try simp only [Act.put, List.setIfInBounds_toArray, List.set_cons_zero, List.set_cons_succ]
              refine wpAnyH_done (by kernel_rfl) ?_ _
              clear hHeld hzk P
              have own2 := ownsRow_far (c := w.heap.size) (ownsRow_far (c := w.heap.size) own (by omega) 0 (.int .i64 z)) (by omega) 1 (.int .i64 d)
              have R2 := (R.set0 (.int .i64 z)).set1 (.int .i64 d)
              have b2 := store_below b0 z d
              clear own R b0 k
              generalize World.setCell (World.setCell _ _ _) _ _ = VV at own2 R2 b2 ⊢
              obtain ⟨r0, r1, -, -⟩ := R2.cells
              go_wp2
              exact bodyPost_ret (v := .tuple #[V0, .agg #[.int .i64 z, .int .i64 d]]) (by simp [results, Try.results30, go_sem, r0, r1]) rfl ⟨V0, q, z, d, rfl, hq8, HQ.out, hz64, in64_small hd0 hd2 (by omega), ownsRow_base own2 (by omega), b2⟩
            exact AllReadyH.nil
          exact AllReadyH.nil
        exact AllReadyH.nil
      exact AllReadyH.nil
    exact AllReadyH.nil
  exact AllReadyH.nil

end Go.Proofs.Ytdobiapnkdgjoaa
