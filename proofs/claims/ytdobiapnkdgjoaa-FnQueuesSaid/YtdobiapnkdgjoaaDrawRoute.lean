/-
  What (*l01Cur).route and spec.DrawRouteOk leave: some list of numbers; some network and some list of numbers.
-/
import Derived.Test.YtdobiapnkdgjoaaDrawDist
import Derived.Test.YtdobiapnkdgjoaaTurnLaw
import Derived.Test.YtdobiapnkdgjoaaLinked
namespace Go.Proofs.Ytdobiapnkdgjoaa
open Go.RowKit Go.Deep

/-- Some list of one to eight numbers, in memory of the call's own; the cursor; all else as it was. -/
def RouteDrawn (w : World) (c : Nat) (C : Option Addr) (len cap m : Nat) (e : Ending) (w' : World) : Prop :=
  ∃ (V : Value) (zs : List Int), e = .returned V ∧ 1 ≤ zs.length ∧ zs.length ≤ 8 ∧ w'.ownsRow w.heap.size 3 1 V zs.length (zs.map (Value.int .i64)) ∧ CurAt w' c C len cap m ∧ w.grownBy w' (some c)

theorem own_one (w : World) (base : Nat) (v : Int) (hb : base ≤ w.heap.size) : (w.alloc (.cells #[.int .i64 v] 3)).ownsRow base 3 1 (.slice (some ⟨w.heap.size, 0, none⟩) 1 1) 1 [.int .i64 v] :=
  ⟨rfl, .inr ⟨w.heap.size, 1, _, rfl, hb, heap_alloc_new w _, Nat.le_refl _, by decide, rfl, rfl⟩⟩

theorem below_grown {w w1 w2 : World} {c : Nat} (G : w.grownBy w1 (some c)) (b : Below w1.heap.size w1 w2) : w.grownBy w2 (some c) :=
  ⟨b.os.trans G.os, b.tape.trans G.tape, b.output.trans G.output, Nat.le_trans G.size b.size, fun k hk hne => (b.block k (Nat.lt_of_lt_of_le hk G.size)).trans (G.block k hk hne)⟩

/-- An append to a row of the call's own turns nothing that was there. -/
theorem grown_own {w w1 w2 : World} {c base : Nat} {e : TypeId} {size : Nat} {v : Value} {n : Nat} {xs : List Value} (G : w.grownBy w1 (some c)) (own : w1.ownsRow base e size v n xs) (hb : w.heap.size ≤ base) (g : w1.grownBy w2 v.ownBlock) : w.grownBy w2 (some c) :=
  ⟨g.os.trans G.os, g.tape.trans G.tape, g.output.trans G.output, Nat.le_trans G.size g.size, fun k hk hne => (g.block k (Nat.lt_of_lt_of_le hk G.size) (fun e' => by have := (World.ownsRow.lt own k e'.symm).1; omega)).trans (G.block k hk hne)⟩

/-- What is at hand at the loop's head. -/
def RoR (w : World) (c : Nat) (C : Option Addr) (len cap m : Nat) (u v : Value) (x5 x6 : Value) (wr : World) : Prop :=
  ∃ (zs : List Int) (k : Int), x6 = .int .i64 k ∧ 0 ≤ k ∧ 1 ≤ zs.length ∧ (zs.length : Int) + k ≤ 7 ∧ wr.ownsRow (w.heap.size + 1) 3 1 x5 zs.length (zs.map (Value.int .i64)) ∧ Pair wr w.heap.size 27 u v ∧ CurAt wr c C len cap (m + 4 + zs.length) ∧ w.grownBy wr (some c)

/-- The box of a network and one more cell. -/
abbrev BoxS (x : Nat) (u v : Value) (b o : Nat) (z : Value) (w : World) : Prop := w.cell? ⟨x, 0, none⟩ = some u ∧ w.cell? ⟨x, 1, none⟩ = some v ∧ w.cell? ⟨b, o, none⟩ = some z
theorem BoxS.under {w w' : World} {x : Nat} {u v : Value} {b o : Nat} {z : Value} (hb : Below w.heap.size w w') (h : BoxS x u v b o z w) : BoxS x u v b o z w' := ⟨cell_under hb h.1, cell_under hb h.2.1, cell_under hb h.2.2⟩
theorem BoxS.drew {w : World} {x : Nat} {u v : Value} {b o : Nat} {z : Value} (h : BoxS x u v b o z w) : BoxS x u v b o z w.drew := h
/-- The box of a network, its arcs and a list of numbers. -/
abbrev ListS (x : Nat) (u v : Value) (B : Option Addr) (rs : List A3) (L : Option Addr) (ls : List Int) (w : World) : Prop := (w.cell? ⟨x, 0, none⟩ = some u ∧ w.cell? ⟨x, 1, none⟩ = some v) ∧ IsArcs w B rs ∧ IsInts w L ls
theorem ListS.under {w w' : World} {x : Nat} {u v : Value} {B : Option Addr} {rs : List A3} {L : Option Addr} {ls : List Int} (hb : Below w.heap.size w w') (h : ListS x u v B rs L ls w) : ListS x u v B rs L ls w' := ⟨⟨cell_under hb h.1.1, cell_under hb h.1.2⟩, h.2.1.below hb, h.2.2.below hb⟩

theorem last_at {w : World} {base : Nat} {V : Value} {zs : List Int} (own : w.ownsRow base 3 1 V zs.length (zs.map (Value.int .i64))) {j : Nat} (hj : j < zs.length) : ∃ g cap, V = .slice (some ⟨g, 0, none⟩) zs.length cap ∧ zs.length ≤ cap ∧ base ≤ g ∧ g < w.heap.size ∧ w.cell? ⟨g, j, none⟩ = some (.int .i64 (zg zs j)) := by
  rcases own.2 with ⟨h1, h2⟩ | ⟨g, cap, cur, h1, h2, h3, h4, h5, h6, h7⟩
  · omega
  · have I := (isInts_own (h1 ▸ own)).2.2
    obtain ⟨b, off, e, hb, hc⟩ := I.at_ hj
    cases e
    rw [Nat.zero_add] at hc
    exact ⟨g, cap, h1, h4, h2, hb, hc⟩

theorem row_one (w : World) (v : Int) : IsInts (w.alloc (.cells #[.int .i64 v] 3)) (some ⟨w.heap.size, 0, none⟩) [v] := fun _ => ⟨w.heap.size, 0, rfl, by simp, fun i hi => by
  obtain rfl : i = 0 := by simp at hi; omega
  rw [cell_of_block (heap_alloc_new w _)]; rfl⟩

set_option maxRecDepth 100000 in
set_option maxHeartbeats 4000000 in
theorem route_any (w : World) (c : Nat) (C : Option Addr) (len cap m : Nat) (A B : Option Addr) (ca cb : Nat) (ps : List (Int × Int)) (rs : List A3) (base : Nat) (hm : m ≤ 100000) (h2 : 2 ≤ ps.length) (h21 : ps.length ≤ 21) (h100 : rs.length ≤ 100) (hcb : c < base)
    (hP : w.ownsRow base 130 2 (.slice A ps.length ca) ps.length (cellsP ps)) (hR : w.ownsRow base 92 3 (.slice B rs.length cb) rs.length (cellsA rs)) (h : CurAt w c C len cap m) :
    Calls Try.prog 70 #[.pointer (some ⟨c, 0, none⟩), .agg #[.slice A ps.length ca, .slice B rs.length cb]] w (RouteDrawn w c C len cap (m + 20)) := by
  have hcl := h.lt
  have X := Pair.new w 27 (.slice A ps.length ca) (.slice B rs.length cb)
  have k0 := h.alloc (.cells #[.slice A ps.length ca, .slice B rs.length cb] 27)
  have G := only_alloc (World.grownBy.refl w (some c)) (.cells #[.slice A ps.length ca, .slice B rs.length cb] 27)
  have HP := Lib.hid (fun (W : World) (g : w.grownBy W (some c)) => OwnSl.ptsD (ownsRow_only hP g hcb))
  have HR := Lib.hid (fun (W : World) (g : w.grownBy W (some c)) => arcsD (ownsRow_only hR g hcb))
  clear hP hR
  go_enter Try.func70, Try.ntmps70
  obtain ⟨x0, x1, -, -⟩ := X.cells
  go_wp2_with fail
  clear x0 x1
  refine (node_any _ c C len cap m A B ps.length ca rs.length cb (by omega) h2 (by omega) k0).mono ?_
  rintro e w1 ⟨v1, rfl, -, -, k1, g1⟩
  replace X := X.grown' g1 (fun g e => by injection e with e; omega)
  replace G := only_trans G g1
  have hs1 : w.heap.size + 1 ≤ w1.heap.size := by have := g1.size; simp at this; omega
  clear g1 k0
  have O1 := own_one w1 (w.heap.size + 1) v1 hs1
  have G1 := only_alloc G (.cells #[.int .i64 v1] 3)
  have k2 := k1.alloc (.cells #[.int .i64 v1] 3)
  have X2 := X.alloc (.cells #[.int .i64 v1] 3)
  obtain ⟨W2, hW2⟩ : ∃ W2, W2 = w1.alloc (.cells #[.int .i64 v1] 3) := ⟨_, rfl⟩
  rw [← hW2] at O1 G1 k2 X2
  have HW2 := Lib.hid hW2
  clear hW2 k1 X G hs1
  go_wp2_with fail
  rw [← HW2.out]
  clear HW2
  refine (pick_any _ c C len cap _ 6 (by omega) k2 (by omega)).mono ?_
  rintro e w3 ⟨v3, rfl, hv0, hv1, -, k3, g3, -⟩
  have hv2 := hv1 (by omega)
  have O3 := ownsRow_only O1 g3 (by omega)
  have G3 := only_trans G1 g3
  have X3 := X2.grown' g3 (fun g e => by injection e with e; omega)
  clear g3 O1 G1 X2 k2 hv1
  go_wp2_with fail
  go_loopw [5, 6] (fun x5 x6 wr => RoR w c C len cap m (.slice A ps.length ca) (.slice B rs.length cb) x5 x6 wr) (fun _ x6 _ => (intOf x6).toNat)
  case atStart => exact ⟨[v1], v3, rfl, hv0, by simp, by simp; omega, O3, X3, k3.more (by simp), G3⟩
  case round =>
    obtain ⟨zs, k, rfl, hk0, hz1, hzk, hO, X, hC, hG⟩ := hrel
    clear O3 X3 k3 G3
    have hGs := hG.size
    by_cases hk : 0 < k
    rotate_left
    · have hkd : decide (k > 0) = false := decide_eq_false hk
      go_wp2_with fail
      refine (once_any _ c C len cap _ 8 (by omega) hC (by omega) (by omega)).mono ?_
      rintro e w8 ⟨bo, rfl, k8, g8⟩
      have own8 := ownsRow_only hO g8 (by omega)
      have G8 := only_trans hG g8
      replace X := X.grown' g8 (fun g e => by injection e with e; omega)
      clear g8 hC hO hG
      cases bo with
      | false =>
        go_wp2
        go_ret
        exact ⟨_, zs, rfl, by omega, by omega, ownsRow_base own8 (by omega), k8.more (by omega), G8⟩
      | true =>
        obtain ⟨x0, x1, -, -⟩ := X.cells
        go_wp2_with fail
        clear x0 x1
        refine (node_any _ c C len cap _ A B ps.length ca rs.length cb (by omega) h2 (by omega) k8).mono ?_
        rintro e w9 ⟨v9, rfl, -, -, k9, g9⟩
        have own9 := ownsRow_only own8 g9 (by omega)
        have G9 := only_trans G8 g9
        clear g9 own8 G8 k8 X
        have hs9 := G9.size
        have nw := (row_one w9 v9)
        have kb := below1 w9 (.cells #[.int .i64 v9] 3)
        obtain ⟨v', w', hr, own', g'⟩ := run_append_ints (ty := 30) _ _ _ _ (ownsRow_below own9 kb) (some ⟨w9.heap.size, 0, none⟩) 1 1 [v9] rfl nw (by omega) (by simp; omega)
        have G' := grown_own (below_grown G9 kb) (ownsRow_below own9 kb) (by omega) g'
        have k' : CurAt w' c C len cap (m + 20) := ((k9.alloc _).later g' (fun g e => by have := (World.ownsRow.lt own9 g e).1; omega)).more (by omega)
        have own2 : w'.ownsRow (w.heap.size + 1) 3 1 v' (zs ++ [v9]).length ((zs ++ [v9]).map (Value.int .i64)) := by rw [List.length_append, List.map_append]; exact own'
        have hl2 : 1 ≤ (zs ++ [v9]).length ∧ (zs ++ [v9]).length ≤ 8 := by rw [List.length_append]; simp; omega
        clear own' g' own9 nw kb k9 G9
        generalize zs ++ [v9] = ys at own2 hl2
        go_wp2_with (at_builtin; refine Lib.wpList_append_run _ rfl _ _ _ _ rfl _ _ rfl rfl _ _ hr ?_)
        go_ret
        exact ⟨_, ys, rfl, hl2.1, hl2.2, ownsRow_base own2 (by omega), k', G'⟩
    have hkd : decide (k > 0) = true := decide_eq_true hk
    obtain ⟨j, hj⟩ : ∃ j, zs.length = j + 1 := ⟨zs.length - 1, by omega⟩
    obtain ⟨g, gc, rfl, hgc, hgb, hgl, hz⟩ := last_at hO (j := j) (by omega)
    have hjl : j < zs.length := by omega
    have hji : (j : Int) < zs.length := by omega
    have hw1 : IntKind.i64.wrap ((zs.length : Int) - 1) = j := by rw [IntWalk.i64_in _ (by omega)]; omega
    have HJ := Lib.hid hj
    clear hj
    obtain ⟨x0, x1, -, -⟩ := X.cells
    have T : BoxS w.heap.size (.slice A ps.length ca) (.slice B rs.length cb) g j (.int .i64 (zg zs j)) wr := ⟨x0, x1, hz⟩
    have HOU := Lib.hid (fun (W : World) (g : w.grownBy W (some c)) => specOuts_any A B ca cb ps rs (zg zs j) W (by omega) (by omega) (HP.out W g) (HR.out W g))
    have HOL : Hid (∀ i, i < (outs ps rs (zg zs j)).length → ∃ q : Nat, q < rs.length ∧ zg (outs ps rs (zg zs j)) i = q) := Lib.hid (fun i hi => by
      unfold outs at hi ⊢
      split at hi
      · rename_i hok
        rw [if_pos hok]
        obtain ⟨q, h1, h2, -⟩ := outL_at hi
        exact ⟨q, h1, h2⟩
      · simp at hi)
    have hol : (outs ps rs (zg zs j)).length ≤ 100 := by
      unfold outs; split
      · have := outL_len rs (zg zs j) rs.length; omega
      · simp
    generalize outs ps rs (zg zs j) = ls at HOU HOL hol
    generalize zg zs j = z at HOU hz T
    have HG := Lib.hid hG
    clear x0 x1 hz
    go_wp2_with fail
    go_region_held3 (fun w' => BoxS w.heap.size (.slice A ps.length ca) (.slice B rs.length cb) g j (.int .i64 z) w')
      (first | exact BoxS.drew T | (refine BoxS.under (by assumption) ?_; assumption))
      ((go_at_call 115; refine (HOU.out _ (grown_drewN HG.out 1)).mono ?_; rintro e w5 ⟨L, lc, rfl, hlc, OL, b5⟩))
    rename_i hT
    have hO5 := ownsRow_below (w := wr.drew) hO b5
    have hC5 := CurAt.below (w := wr.drew) hC b5
    have hG5 := below_grown (grown_drewN HG.out 1) b5
    have X5 := Pair.below (w := wr.drew) X b5
    have hs5 : wr.heap.size ≤ w5.heap.size := b5.size
    clear hT T b5 X hO hC hG HG HOU
    rcases Nat.eq_zero_or_pos ls.length with h0 | hp
    · have hO := hO5
      have hC := hC5
      have hG := hG5
      have X := X5
      obtain rfl := List.eq_nil_of_length_eq_zero h0
      clear h0 hO5 hC5 hG5 X5
      go_wp2_with fail
      refine (once_any _ c C len cap _ 8 (by omega) hC (by omega) (by omega)).mono ?_
      rintro e w8 ⟨bo, rfl, k8, g8⟩
      have own8 := ownsRow_only hO g8 (by omega)
      have G8 := only_trans hG g8
      replace X := X.grown' g8 (fun g e => by injection e with e; omega)
      clear g8 hC hO hG
      cases bo with
      | false =>
        go_wp2
        go_ret
        exact ⟨_, zs, rfl, by omega, by omega, ownsRow_base own8 (by omega), k8.more (by omega), G8⟩
      | true =>
        obtain ⟨x0, x1, -, -⟩ := X.cells
        go_wp2_with fail
        clear x0 x1
        refine (node_any _ c C len cap _ A B ps.length ca rs.length cb (by omega) h2 (by omega) k8).mono ?_
        rintro e w9 ⟨v9, rfl, -, -, k9, g9⟩
        have own9 := ownsRow_only own8 g9 (by omega)
        have G9 := only_trans G8 g9
        clear g9 own8 G8 k8 X
        have hs9 := G9.size
        have nw := (row_one w9 v9)
        have kb := below1 w9 (.cells #[.int .i64 v9] 3)
        obtain ⟨v', w', hr, own', g'⟩ := run_append_ints (ty := 30) _ _ _ _ (ownsRow_below own9 kb) (some ⟨w9.heap.size, 0, none⟩) 1 1 [v9] rfl nw (by omega) (by simp; omega)
        have G' := grown_own (below_grown G9 kb) (ownsRow_below own9 kb) (by omega) g'
        have k' : CurAt w' c C len cap (m + 20) := ((k9.alloc _).later g' (fun g e => by have := (World.ownsRow.lt own9 g e).1; omega)).more (by omega)
        have own2 : w'.ownsRow (w.heap.size + 1) 3 1 v' (zs ++ [v9]).length ((zs ++ [v9]).map (Value.int .i64)) := by rw [List.length_append, List.map_append]; exact own'
        have hl2 : 1 ≤ (zs ++ [v9]).length ∧ (zs ++ [v9]).length ≤ 8 := by rw [List.length_append]; simp; omega
        clear own' g' own9 nw kb k9 G9
        generalize zs ++ [v9] = ys at own2 hl2
        go_wp2_with (at_builtin; refine Lib.wpList_append_run _ rfl _ _ _ _ rfl _ _ rfl rfl _ _ hr ?_)
        go_ret
        exact ⟨_, ys, rfl, hl2.1, hl2.2, ownsRow_base own2 (by omega), k', G'⟩
    have hl0 : ((ls.length : Int) == 0) = false := beq_false_of_ne (by omega)
    obtain ⟨lb, lo, rfl, hlb, hLo⟩ := OL hp
    have hlb' : wr.heap.size ≤ lb := hlb
    have hla := hLo.lt
    have IL : IsInts w5 (some ⟨lb, lo, none⟩) ls := OwnSl.ints OL
    have T : ListS w.heap.size (.slice A ps.length ca) (.slice B rs.length cb) B rs (some ⟨lb, lo, none⟩) ls w5 := ⟨⟨X5.cells.1, X5.cells.2.1⟩, HR.out _ hG5, IL⟩
    clear OL hLo IL
    go_wp2_with fail
    refine wp_region_held_drew (S := (fun w' => ListS w.heap.size (.slice A ps.length ca) (.slice B rs.length cb) B rs (some ⟨lb, lo, none⟩) ls w')) (by kernel_rfl) ?_ (fun hHeld => ?_)
    · exact T
    clear T
    refine wpAnyH_take (i := 0) (oi := ⟨some 29, _, _, _, _, _⟩) (v := .slice (some ⟨g, 0, none⟩) zs.length gc) rfl (by kernel_rfl) (by kernel_rfl) (by kernel_rfl) (fun _ _ _ h => h) (Or.inl ⟨by rfl, fun w' hw => ?hy⟩) hHeld ?_
    case hy => (try dsimp only at hw); go_simp
    simp only [Act.put, List.setIfInBounds_toArray, List.set_cons_zero, List.set_cons_succ]
    refine wpAnyH_take (i := 1) (oi := ⟨some 30, _, _, _, _, _⟩) (v := .pointer (some ⟨w.heap.size, 1, none⟩)) rfl (by kernel_rfl) (by kernel_rfl) (by kernel_rfl) (fun _ _ _ h => h) (Or.inl ⟨by rfl, fun w' hw => ?hy⟩) hHeld ?_
    case hy => (try dsimp only at hw); go_simp
    simp only [Act.put, List.setIfInBounds_toArray, List.set_cons_zero, List.set_cons_succ]
    refine wpAnyH_take (i := 2) (oi := ⟨some 31, _, _, _, _, _⟩) (v := .slice B rs.length cb) rfl (by kernel_rfl) (by kernel_rfl) (by kernel_rfl) (fun _ _ _ h => h) (Or.inl ⟨by rfl, fun w' hw => ?hy⟩) hHeld ?_
    case hy => (try dsimp only at hw); have hx := hw.1.2; clear hw; go_simp
    simp only [Act.put, List.setIfInBounds_toArray, List.set_cons_zero, List.set_cons_succ]
    refine wpAnyH_take (i := 3) (oi := ⟨some 32, _, _, _, _, _⟩) (v := .slice (some ⟨lb, lo, none⟩) ls.length lc) rfl (by kernel_rfl) (by kernel_rfl) (by kernel_rfl) (fun _ _ _ h => h) (Or.inl ⟨by rfl, fun w' hw => ?hy⟩) hHeld ?_
    case hy => (try dsimp only at hw); go_simp
    simp only [Act.put, List.setIfInBounds_toArray, List.set_cons_zero, List.set_cons_succ]
    refine wpAnyH_take (i := 4) (oi := ⟨some 33, _, _, _, _, _⟩) (v := .pointer (some ⟨c, 0, none⟩)) rfl (by kernel_rfl) (by kernel_rfl) (by kernel_rfl) (fun _ _ _ h => h) (Or.inl ⟨by rfl, fun w' hw => ?hy⟩) hHeld ?_
    case hy => (try dsimp only at hw); go_simp
    simp only [Act.put, List.setIfInBounds_toArray, List.set_cons_zero, List.set_cons_succ]
    refine wpAnyH_take (i := 5) (oi := ⟨some 34, _, _, _, _, _⟩) (v := .slice (some ⟨lb, lo, none⟩) ls.length lc) rfl (by kernel_rfl) (by kernel_rfl) (by kernel_rfl) (fun _ _ _ h => h) (Or.inl ⟨by rfl, fun w' hw => ?hy⟩) hHeld ?_
    case hy => (try dsimp only at hw); go_simp
    simp only [Act.put, List.setIfInBounds_toArray, List.set_cons_zero, List.set_cons_succ]
    refine wpAnyH_take (i := 6) (oi := ⟨some 35, _, _, _, _, _⟩) (v := .int .i64 (ls.length : Int)) rfl (by kernel_rfl) (by kernel_rfl) (by kernel_rfl) (fun _ _ _ h => h) (Or.inl ⟨by rfl, fun w' hw => ?hy⟩) hHeld ?_
    case hy => (try dsimp only at hw); go_simp
    simp only [Act.put, List.setIfInBounds_toArray, List.set_cons_zero, List.set_cons_succ]
    refine wpAnyH_ready (rs := [7]) (by kernel_rfl) (by simp) ?_
    refine AllReadyH.cons (o := ⟨some 36, _, _, _, _, _⟩) rfl (fun K hK => ?_) AllReadyH.nil
    go_simp
    refine (pick_any _ c C len cap _ (ls.length : Int) (by omega) hC5.drew (by omega)).mono ?_; rintro e w6 ⟨v6, rfl, hu0, hu1, hu2, k6, g6, hs6⟩
    go_wp2_with fail
    refine hK.out _ _ ?_ (fun hHeld => ?_)
    · exact ⟨⟨cell_only (w := w5.drew) g6 hHeld.1.1 (by intro e; injection e with e; omega), cell_only (w := w5.drew) g6 hHeld.1.2 (by intro e; injection e with e; omega)⟩, HR.out _ (only_trans (grown_drewN hG5 1) g6), fun hp' => by
        obtain ⟨b', o', e', hb', hc'⟩ := hHeld.2.2 hp'
        cases e'
        exact ⟨lb, lo, rfl, Nat.lt_of_lt_of_le hb' g6.size, fun i hi => cell_only (w := w5.drew) g6 (hc' i hi) (by intro e; injection e with e; omega)⟩⟩
    clear hK K
    try simp only [Act.put, List.setIfInBounds_toArray, List.set_cons_zero, List.set_cons_succ]
    have hvl : v6 < (ls.length : Int) := by
      rcases Int.lt_or_le (ls.length : Int) 2 with h | h
      · have := hu2 h; omega
      · exact hu1 h
    obtain ⟨i6, rfl⟩ : ∃ i6 : Nat, v6 = i6 := ⟨v6.toNat, by omega⟩
    have hi6 : i6 < ls.length := by omega
    obtain ⟨q, hq, hqe⟩ := HOL.out i6 hi6
    have hqi : (q : Int) < rs.length := by omega
    obtain ⟨ab, ao, rfl, hab, -⟩ := hHeld.2.1.at_ hq
    have hO6 := ownsRow_only (w := w5.drew) hO5 g6 (by omega)
    have hG6 := only_trans (grown_drewN hG5 1) g6
    have X6 := Pair.grown' (w := w5.drew) X5 g6 (fun g e => by injection e with e; omega)
    have HQE := Lib.hid hqe
    clear hO5 hC5 hG5 X5 g6 hs6 hu1 hu2 hqe
    refine wpAnyH_take (i := 8) (oi := ⟨some 37, _, _, _, _, _⟩) (v := .pointer (some ⟨lb, lo + i6, none⟩)) rfl (by kernel_rfl) (by kernel_rfl) (by kernel_rfl) (fun _ _ _ h => h) (Or.inl ⟨by rfl, fun w' hw => ?hy⟩) hHeld ?_
    case hy => (try dsimp only at hw); go_simp
    simp only [Act.put, List.setIfInBounds_toArray, List.set_cons_zero, List.set_cons_succ]
    refine wpAnyH_take (i := 9) (oi := ⟨some 38, _, _, _, _, _⟩) (v := .int .i64 (q : Int)) rfl (by kernel_rfl) (by kernel_rfl) (by kernel_rfl) (fun _ _ _ h => h) (Or.inl ⟨by rfl, fun w' hw => ?hy⟩) hHeld ?_
    case hy => (try dsimp only at hw); obtain ⟨b', o', e', -, hx⟩ := hw.2.2.at_ hi6; cases e'; rw [HQE.out] at hx; clear hw; go_simp
    simp only [Act.put, List.setIfInBounds_toArray, List.set_cons_zero, List.set_cons_succ]
    refine wpAnyH_take (i := 10) (oi := ⟨some 39, _, _, _, _, _⟩) (v := .pointer (some ⟨ab, ao + q * 3, none⟩)) rfl (by kernel_rfl) (by kernel_rfl) (by kernel_rfl) (fun _ _ _ h => h) (Or.inl ⟨by rfl, fun w' hw => ?hy⟩) hHeld ?_
    case hy => (try dsimp only at hw); go_simp
    simp only [Act.put, List.setIfInBounds_toArray, List.set_cons_zero, List.set_cons_succ]
    refine wpAnyH_take (i := 11) (oi := ⟨some 40, _, _, _, _, _⟩) (v := .pointer (some ⟨ab, ao + q * 3 + 1, none⟩)) rfl (by kernel_rfl) (by kernel_rfl) (by kernel_rfl) (fun _ _ _ h => h) (Or.inl ⟨by rfl, fun w' hw => ?hy⟩) hHeld ?_
    case hy => (try dsimp only at hw); go_simp
    simp only [Act.put, List.setIfInBounds_toArray, List.set_cons_zero, List.set_cons_succ]
    refine wpAnyH_take (i := 12) (oi := ⟨some 41, _, _, _, _, _⟩) (v := .int .i64 (arg rs q).2.1) rfl (by kernel_rfl) (by kernel_rfl) (by kernel_rfl) (fun _ _ _ h => h) (Or.inl ⟨by rfl, fun w' hw => ?hy⟩) hHeld ?_
    case hy => (try dsimp only at hw); obtain ⟨b', o', e', -, -, hx, -⟩ := hw.2.1.at_ hq; cases e'; clear hw; go_simp
    simp only [Act.put, List.setIfInBounds_toArray, List.set_cons_zero, List.set_cons_succ]
    generalize (arg rs q).2.1 = y
    have kb := below1 w6 (.cells #[.int .i64 y] 3)
    have hs6 := hG6.size
    have hx6 := X6.lt
    obtain ⟨v', w', hr, own', g'⟩ := run_append_ints (ty := 30) _ _ _ _ (ownsRow_below hO6 kb) (some ⟨w6.heap.size, 0, none⟩) 1 1 [y] rfl (row_one w6 y) (by omega) (by have := kb.size; omega)
    have G' := grown_own (below_grown hG6 kb) (ownsRow_below hO6 kb) (by omega) g'
    have k' : CurAt w' c C len cap (m + 4 + (zs.length + 1)) := ((k6.alloc _).later g' (fun g e => by have := (World.ownsRow.lt hO6 g e).1; omega)).more (by omega)
    have own2 : w'.ownsRow (w.heap.size + 1) 3 1 v' (zs ++ [y]).length ((zs ++ [y]).map (Value.int .i64)) := by rw [List.length_append, List.map_append]; exact own'
    have X' := (X6.alloc (.cells #[.int .i64 y] 3)).grown' g' (fun g e => by have := (World.ownsRow.lt hO6 g e).1; omega)
    refine wpAnyH_ready (rs := [13]) (by kernel_rfl) (by simp) ?_
    refine AllReadyH.cons (o := ⟨some 42, _, _, _, _, _⟩) rfl (fun K hK => ?_) AllReadyH.nil
    go_simp
    refine hK.out _ _ ?_ (fun hHeld => ?_)
    · exact ListS.under (below1 w6 (.cells #[.int .i64 y] 3)) hHeld
    clear hK K
    try simp only [Act.put, List.setIfInBounds_toArray, List.set_cons_zero, List.set_cons_succ]
    refine wpAnyH_ready (rs := [14]) (by kernel_rfl) (by simp) ?_
    refine AllReadyH.cons (o := ⟨some 43, _, _, _, _, _⟩) rfl (fun K hK => ?_) AllReadyH.nil
    refine step_append_run rfl (.tmp 29) (.tmp 42) _ _ rfl _ _ rfl rfl _ _ hr ?_
    refine hK.out _ _ ?_ (fun hHeld => ?_)
    · refine ⟨⟨X'.cells.1, X'.cells.2.1⟩, HR.out _ G', fun hp' => ?_⟩
      obtain ⟨b', o', e', hb', hc'⟩ := hHeld.2.2 hp'
      cases e'
      refine ⟨lb, lo, rfl, Nat.lt_of_lt_of_le hb' g'.size, fun i hi => cell_only g' (hc' i hi) (fun e => ?_)⟩
      have := World.ownsRow.lt hO6 lb e
      have hgx : Value.ownBlock (.slice (some ⟨g, 0, none⟩) zs.length gc) = some g := rfl
      rw [hgx] at e
      injection e with e
      omega
    clear hK K
    try simp only [Act.put, List.setIfInBounds_toArray, List.set_cons_zero, List.set_cons_succ]
    refine wpAnyH_take (i := 15) (oi := ⟨some 5, _, _, _, _, _⟩) (v := v') rfl (by kernel_rfl) (by kernel_rfl) (by kernel_rfl) (fun _ _ _ h => h) (Or.inl ⟨by rfl, fun w' hw => ?hy⟩) hHeld ?_
    case hy => (try dsimp only at hw); go_simp
    simp only [Act.put, List.setIfInBounds_toArray, List.set_cons_zero, List.set_cons_succ]
    refine wpAnyH_done (by kernel_rfl) ?_ _
    clear hHeld
    go_wp2
    go_roundw
    case rel => exact ⟨zs ++ [y], k - 1, rfl, by omega, by rw [List.length_append]; omega, by rw [List.length_append]; simp; omega, own2, X', by rw [List.length_append]; exact k', G'⟩
    case measure => simp [intOf]; omega

/-- Some network and some list of numbers; nothing that was there has turned. -/
def SomeNetRoute (w : World) (e : Ending) (w' : World) : Prop :=
  ∃ (ad : Addr) (B : Option Addr) (ca cb : Nat) (ps : List (Int × Int)) (rs : List A3) (D : Option Addr) (cd : Nat) (zs : List Int), e = .returned (.tuple #[.agg #[.slice (some ad) ps.length ca, .slice B rs.length cb], .slice D zs.length cd]) ∧ 2 ≤ ps.length ∧ ps.length ≤ 21 ∧ rs.length ≤ 100 ∧ 1 ≤ zs.length ∧ zs.length ≤ 8 ∧ zs.length ≤ cd ∧ IsPts w' (some ad) ps ∧ IsArcs w' B rs ∧ IsInts w' D zs ∧ Below w.heap.size w w'

set_option maxHeartbeats 1000000 in
theorem drawRouteOk_any (w : World) (A : Option Addr) (len cap : Nat) (hc : CodeIn w A len) (hl : len ≤ 1048576) : Calls Try.prog 28 #[.slice A len cap] w (SomeNetRoute w) := by
  have R := Pair.new w 27 (.slice none 0 0) (.slice none 0 0)
  have b0 := below1 w (.cells #[.slice none 0 0, .slice none 0 0] 27)
  go_enter Try.func28, Try.ntmps28
  go_wp2_with fail
  refine (open_any _ A len cap (hc.below b0) hl).mono ?_
  rintro e w1 ⟨rfl, k1, b1, -⟩
  rw [World.size_alloc] at k1
  replace R := R.below b1
  replace b0 := b0.trans (b1.mono b0.size)
  have hc1 := k1.lt
  clear b1
  go_wp2_with fail
  refine (anyNet_any w1 (w.heap.size + 1) A len cap 0 (by omega) k1).mono ?_
  rintro e w2 ⟨NV, V, ps, rs, rfl, h2, h21, h100, own, ownA, k2, g2⟩
  replace R := R.grown' g2 (fun g e => by injection e with e; omega)
  have hc2 := k2.lt
  have b2 := below_only b0 g2 (by omega)
  clear g2 b0 k1
  obtain ⟨NA, nc, rfl, -, hNA⟩ := ownP_is own
  obtain ⟨VA, vc, rfl, -, -, -⟩ := ownA_is ownA
  obtain ⟨ng, rfl, -, -⟩ := hNA (by omega)
  clear hNA
  have Y := Pair.new w2 27 (.slice (some ⟨ng, 0, none⟩) ps.length nc) (.slice VA rs.length vc)
  have kb := below1 w2 (.cells #[.slice (some ⟨ng, 0, none⟩) ps.length nc, .slice VA rs.length vc] 27)
  replace R := R.below kb
  have IP : IsPts (w2.alloc (.cells #[.slice (some ⟨ng, 0, none⟩) ps.length nc, .slice VA rs.length vc] 27)) (some ⟨ng, 0, none⟩) ps := (OwnSl.ptsD own).below kb
  have IA : IsArcs (w2.alloc (.cells #[.slice (some ⟨ng, 0, none⟩) ps.length nc, .slice VA rs.length vc] 27)) VA rs := (arcsD ownA).below kb
  clear IP IA
  have hyl : w2.heap.size < (w2.alloc (.cells #[.slice (some ⟨ng, 0, none⟩) ps.length nc, .slice VA rs.length vc] 27)).heap.size := Y.lt
  have kc := k2.alloc (.cells #[.slice (some ⟨ng, 0, none⟩) ps.length nc, .slice VA rs.length vc] 27)
  have own' := own.alloc (.cells #[.slice (some ⟨ng, 0, none⟩) ps.length nc, .slice VA rs.length vc] 27)
  have ownA' := ownA.alloc (.cells #[.slice (some ⟨ng, 0, none⟩) ps.length nc, .slice VA rs.length vc] 27)
  replace b2 := b2.trans (kb.mono b2.size)
  obtain ⟨yb, hyb⟩ : ∃ yb, yb = w2.heap.size := ⟨_, rfl⟩
  obtain ⟨W3, hW3⟩ : ∃ W3, W3 = w2.alloc (.cells #[.slice (some ⟨ng, 0, none⟩) ps.length nc, .slice VA rs.length vc] 27) := ⟨_, rfl⟩
  rw [← hyb] at Y hyl hc2
  rw [← hW3] at Y R kc own' ownA' b2 hyl
  have HYB := Lib.hid hyb
  have HW3 := Lib.hid hW3
  clear own ownA kb k2 hyb hW3
  go_wp2_with fail
  rw [← HYB.out, ← HW3.out]
  clear HYB HW3
  have S0 : W3.cell? ⟨yb, 0, none⟩ = some (.slice (some ⟨ng, 0, none⟩) ps.length nc) ∧ W3.cell? ⟨yb, 1, none⟩ = some (.slice VA rs.length vc) := ⟨Y.cells.1, Y.cells.2.1⟩
  go_region_held3 (fun w' => w'.cell? ⟨yb, 0, none⟩ = some (.slice (some ⟨ng, 0, none⟩) ps.length nc) ∧ w'.cell? ⟨yb, 1, none⟩ = some (.slice VA rs.length vc))
    (first | exact S0 | exact S3 | (refine ⟨?_, ?_⟩ <;> (rw [World.cell?_setCell_far _ _ _ _ (by simp; omega), World.cell?_setCell_far _ _ _ _ (by simp; omega)]; first | exact S3.1 | exact S3.2)))
    ((go_at_call 70; refine (route_any _ (w.heap.size + 1) A len cap _ (some ⟨ng, 0, none⟩) VA nc vc ps rs _ (by omega) h2 h21 h100 hc1 (show W3.drew.ownsRow _ _ _ _ _ _ from own') (show W3.drew.ownsRow _ _ _ _ _ _ from ownA') kc.drew).mono ?_; rintro e w3 ⟨V, zs, rfl, hz1, hz8, oV, -, g3⟩; have S3 : w3.cell? ⟨yb, 0, none⟩ = some (.slice (some ⟨ng, 0, none⟩) ps.length nc) ∧ w3.cell? ⟨yb, 1, none⟩ = some (.slice VA rs.length vc) := ⟨cell_only g3 S0.1 (by intro e; injection e with e; omega), cell_only g3 S0.2 (by intro e; injection e with e; omega)⟩; have R3 : Pair w3 w.heap.size 27 (.slice none 0 0) (.slice none 0 0) := Pair.grown' (w := W3.drew) R g3 (fun g e => by injection e with e; omega); obtain ⟨r0, r1, r2, r3⟩ := R3.cells))
  have own3 := ownsRow_only (w := W3.drew) own' g3 (by omega)
  have ownA3 := ownsRow_only (w := W3.drew) ownA' g3 (by omega)
  have b3 := below_only b2.drew g3 (by omega)
  have oV2 : w3.ownsRow (w.heap.size + 1) 3 1 V zs.length (zs.map (Value.int .i64)) := ownsRow_base oV (show w.heap.size + 1 ≤ W3.heap.size by omega)
  obtain ⟨D, cd, rfl, hcd, -⟩ := ownSl_of_own oV2
  clear own' ownA' g3 kc R Y S0 S3 R3 oV
  go_wp2
  exact bodyPost_ret (v := .tuple #[.agg #[.slice (some ⟨ng, 0, none⟩) ps.length nc, .slice VA rs.length vc], .slice D zs.length cd]) (by simp [results, Try.results28, go_sem, r0, r1]) rfl
    ⟨_, _, _, _, ps, rs, D, cd, zs, rfl, h2, h21, h100, hz1, hz8, hcd, OwnSl.ptsD (ownsRow_far (c := w.heap.size) (ownsRow_far (c := w.heap.size) own3 (by omega) 0 _) (by omega) 1 _), arcsD (ownsRow_far (c := w.heap.size) (ownsRow_far (c := w.heap.size) ownA3 (by omega) 0 _) (by omega) 1 _), (isInts_own (ownsRow_far (c := w.heap.size) (ownsRow_far (c := w.heap.size) oV2 (by omega) 0 _) (by omega) 1 _)).2.2, (b3.setCell (by simp) _).setCell (by simp) _⟩

end Go.Proofs.Ytdobiapnkdgjoaa
