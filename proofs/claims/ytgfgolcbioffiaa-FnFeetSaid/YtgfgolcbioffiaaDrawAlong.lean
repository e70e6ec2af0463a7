/-
  What spec.DrawAlong answers: three points and a number, all of numbers of 64 bits.
-/
import Derived.Test.YtgfgolcbioffiaaDrawPt
import Derived.Deep.RegionHeld3
namespace Go.Proofs.Ytgfgolcbioffiaa
open Go.RowKit Go.Deep

/-- Three points and a length, of numbers of 64 bits; nothing that was there has turned. -/
def ThreePts (w : World) (e : Ending) (w' : World) : Prop :=
  ∃ ax ay bx by_ px py l : Int, e = .returned (.tuple #[.agg #[.int .i64 ax, .int .i64 ay], .agg #[.int .i64 bx, .int .i64 by_], .agg #[.int .i64 px, .int .i64 py], .int .i64 l]) ∧
    (In64 ax ∧ In64 ay ∧ In64 bx ∧ In64 by_ ∧ In64 px ∧ In64 py ∧ In64 l) ∧ Below w.heap.size w w'

/-- What lies in DrawAlong's own memory ahead of its last line: its three results, three drawn points. -/
def AlR (base : World) (c q0 q2 : Nat) (ax ay bx by_ px py a0 a1 b0 b1 c0 c1 : Int) (w : World) : Prop :=
  (base.heap.size + 2 < c ∧ c < q0 ∧ q0 + 1 < q2) ∧ BlockIs w base.heap.size a0 a1 ∧ BlockIs w (base.heap.size + 1) b0 b1 ∧ BlockIs w (base.heap.size + 2) c0 c1 ∧ BlockIs w q0 ax ay ∧ BlockIs w (q0 + 1) bx by_ ∧ BlockIs w q2 px py ∧ Below base.heap.size base w
section
variable {base : World} {c q0 q2 : Nat} {ax ay bx by_ px py a0 a1 b0 b1 c0 c1 : Int} {w w' : World}
theorem AlR.grown (h : AlR base c q0 q2 ax ay bx by_ px py a0 a1 b0 b1 c0 c1 w) (hg : w.grownBy w' (some c)) : AlR base c q0 q2 ax ay bx by_ px py a0 a1 b0 b1 c0 c1 w' := by
  obtain ⟨⟨l0, l1, l2⟩, h0, h1, h2, h3, h4, h5, h6⟩ := h
  exact ⟨⟨l0, l1, l2⟩, h0.grown hg (by omega), h1.grown hg (by omega), h2.grown hg (by omega), h3.grown hg (by omega), h4.grown hg (by omega), h5.grown hg (by omega), below_only h6 hg (by omega)⟩
theorem AlR.alloc (h : AlR base c q0 q2 ax ay bx by_ px py a0 a1 b0 b1 c0 c1 w) (o : Obj) : AlR base c q0 q2 ax ay bx by_ px py a0 a1 b0 b1 c0 c1 (w.alloc o) := by
  obtain ⟨l, h0, h1, h2, h3, h4, h5, h6⟩ := h
  exact ⟨l, h0.alloc _, h1.alloc _, h2.alloc _, h3.alloc _, h4.alloc _, h5.alloc _, h6.alloc h6.size _⟩
theorem AlR.drew (h : AlR base c q0 q2 ax ay bx by_ px py a0 a1 b0 b1 c0 c1 w) : AlR base c q0 q2 ax ay bx by_ px py a0 a1 b0 b1 c0 c1 w.drew := by
  obtain ⟨l, h0, h1, h2, h3, h4, h5, h6⟩ := h
  exact ⟨l, h0, h1, h2, h3, h4, h5, h6.drew⟩
/-- The cells of the three drawn points. -/
abbrev Six (q0 q2 : Nat) (ax ay bx by_ px py : Int) (w : World) : Prop :=
  w.cell? ⟨q0, 0, none⟩ = some (.int .i64 ax) ∧ w.cell? ⟨q0, 1, none⟩ = some (.int .i64 ay) ∧ w.cell? ⟨q0 + 1, 0, none⟩ = some (.int .i64 bx) ∧ w.cell? ⟨q0 + 1, 1, none⟩ = some (.int .i64 by_) ∧
  w.cell? ⟨q2, 0, none⟩ = some (.int .i64 px) ∧ w.cell? ⟨q2, 1, none⟩ = some (.int .i64 py)
theorem AlR.six (h : AlR base c q0 q2 ax ay bx by_ px py a0 a1 b0 b1 c0 c1 w) : Six q0 q2 ax ay bx by_ px py w := by
  obtain ⟨l, h0, h1, h2, h3, h4, h5, h6⟩ := h
  exact ⟨h3.cells.1, h3.cells.2.1, h4.cells.1, h4.cells.2.1, h5.cells.1, h5.cells.2.1⟩
theorem BlockIs.put {b : Nat} {x y : Int} (h : BlockIs w b x y) (x' y' : Int) : BlockIs ((w.setCell ⟨b, 0, none⟩ (.int .i64 x')).setCell ⟨b, 1, none⟩ (.int .i64 y')) b x' y' := by
  have h1 := block_set (i := 0) (Value.int .i64 x') h
  have h2 := block_set (i := 1) (Value.int .i64 y') h1
  exact h2
theorem BlockIs.stay {b b' : Nat} {x y : Int} {u v : Value} (h : BlockIs w b x y) (hb : b ≠ b') : BlockIs ((w.setCell ⟨b', 0, none⟩ u).setCell ⟨b', 1, none⟩ v) b x y := (h.set hb).set hb
theorem AlR.put0 (h : AlR base c q0 q2 ax ay bx by_ px py a0 a1 b0 b1 c0 c1 w) (x y : Int) : AlR base c q0 q2 ax ay bx by_ px py x y b0 b1 c0 c1 ((w.setCell ⟨base.heap.size, 0, none⟩ (.int .i64 x)).setCell ⟨base.heap.size, 1, none⟩ (.int .i64 y)) := by
  obtain ⟨l, h0, h1, h2, h3, h4, h5, h6⟩ := h
  exact ⟨l, h0.put x y, h1.stay (by omega), h2.stay (by omega), h3.stay (by omega), h4.stay (by omega), h5.stay (by omega), (h6.setCell (by simp) _).setCell (by simp) _⟩
theorem AlR.put1 (h : AlR base c q0 q2 ax ay bx by_ px py a0 a1 b0 b1 c0 c1 w) (x y : Int) : AlR base c q0 q2 ax ay bx by_ px py a0 a1 x y c0 c1 ((w.setCell ⟨base.heap.size + 1, 0, none⟩ (.int .i64 x)).setCell ⟨base.heap.size + 1, 1, none⟩ (.int .i64 y)) := by
  obtain ⟨l, h0, h1, h2, h3, h4, h5, h6⟩ := h
  exact ⟨l, h0.stay (by omega), h1.put x y, h2.stay (by omega), h3.stay (by omega), h4.stay (by omega), h5.stay (by omega), (h6.setCell (by simp) _).setCell (by simp) _⟩
theorem AlR.put2 (h : AlR base c q0 q2 ax ay bx by_ px py a0 a1 b0 b1 c0 c1 w) (x y : Int) : AlR base c q0 q2 ax ay bx by_ px py a0 a1 b0 b1 x y ((w.setCell ⟨base.heap.size + 2, 0, none⟩ (.int .i64 x)).setCell ⟨base.heap.size + 2, 1, none⟩ (.int .i64 y)) := by
  obtain ⟨l, h0, h1, h2, h3, h4, h5, h6⟩ := h
  exact ⟨l, h0.stay (by omega), h1.stay (by omega), h2.put x y, h3.stay (by omega), h4.stay (by omega), h5.stay (by omega), (h6.setCell (by simp) _).setCell (by simp) _⟩
/-- A result's own cells: read and written. -/
theorem AlR.own0 (h : AlR base c q0 q2 ax ay bx by_ px py a0 a1 b0 b1 c0 c1 w) : w.cell? ⟨base.heap.size, 0, none⟩ = some (.int .i64 a0) ∧ w.cell? ⟨base.heap.size, 1, none⟩ = some (.int .i64 a1) ∧ w.frozen? ⟨base.heap.size, 0, none⟩ = false ∧ w.frozen? ⟨base.heap.size, 1, none⟩ = false := h.2.1.cells
theorem AlR.own1 (h : AlR base c q0 q2 ax ay bx by_ px py a0 a1 b0 b1 c0 c1 w) : w.cell? ⟨base.heap.size + 1, 0, none⟩ = some (.int .i64 b0) ∧ w.cell? ⟨base.heap.size + 1, 1, none⟩ = some (.int .i64 b1) ∧ w.frozen? ⟨base.heap.size + 1, 0, none⟩ = false ∧ w.frozen? ⟨base.heap.size + 1, 1, none⟩ = false := h.2.2.1.cells
theorem AlR.own2 (h : AlR base c q0 q2 ax ay bx by_ px py a0 a1 b0 b1 c0 c1 w) : w.cell? ⟨base.heap.size + 2, 0, none⟩ = some (.int .i64 c0) ∧ w.cell? ⟨base.heap.size + 2, 1, none⟩ = some (.int .i64 c1) ∧ w.frozen? ⟨base.heap.size + 2, 0, none⟩ = false ∧ w.frozen? ⟨base.heap.size + 2, 1, none⟩ = false := h.2.2.2.1.cells
theorem AlR.lt (h : AlR base c q0 q2 ax ay bx by_ px py a0 a1 b0 b1 c0 c1 w) : base.heap.size + 2 < w.heap.size := h.2.2.2.1.lt
/-- A number far from what is written stays. -/
theorem lit_stay {L k b : Nat} {z : Int} {u v : Value} (h : w.cell? ⟨L, k, none⟩ = some (.int .i64 z)) (hb : b ≠ L) : ((w.setCell ⟨b, 0, none⟩ u).setCell ⟨b, 1, none⟩ v).cell? ⟨L, k, none⟩ = some (.int .i64 z) := by
  rw [World.cell?_setCell_far _ _ _ _ (by simpa using hb), World.cell?_setCell_far _ _ _ _ (by simpa using hb)]; exact h
end

theorem wpAnyH_mono {P : Program} {ops : Array Oper} {Q : Exit → Act → World → Prop} {md : Region.Mode} {S S' : World → Prop} (h : ∀ w, S' w → S w) :
    ∀ (fuel : Nat) (listed : Array Bool) (a : Act) (w : World), wpAnyH P md ops Q S' fuel listed a w → wpAnyH P md ops Q S fuel listed a w
  | 0, _, _, _, k => k
  | fuel + 1, _, _, _, k => ⟨k.1, fun i hi => wpOp_mono (fun a' w' k' => ⟨h w' k'.1, wpAnyH_mono h fuel _ a' w' k'.2⟩) (k.2 i hi)⟩

set_option maxHeartbeats 4000000 in
theorem drawAlong_any (w : World) (A : Option Addr) (len cap : Nat) (hc : CodeIn w A len) (hl : len ≤ 1048576) : Calls Try.prog 11 #[.slice A len cap] w (ThreePts w) := by
  obtain ⟨W, hW⟩ : ∃ W, W = ((w.alloc (.cells #[.int .i64 0, .int .i64 0] 25)).alloc (.cells #[.int .i64 0, .int .i64 0] 25)).alloc (.cells #[.int .i64 0, .int .i64 0] 25) := ⟨_, rfl⟩
  have R0 : BlockIs W w.heap.size 0 0 := by rw [hW]; exact ((BlockIs.new w 0 0).alloc _).alloc _
  have R1 : BlockIs W (w.heap.size + 1) 0 0 := by rw [hW]; have := (BlockIs.new (w.alloc (.cells #[.int .i64 0, .int .i64 0] 25)) 0 0).alloc (.cells #[.int .i64 0, .int .i64 0] 25); simpa using this
  have R2 : BlockIs W (w.heap.size + 2) 0 0 := by rw [hW]; have := BlockIs.new ((w.alloc (.cells #[.int .i64 0, .int .i64 0] 25)).alloc (.cells #[.int .i64 0, .int .i64 0] 25)) 0 0; simpa using this
  have B : Below w.heap.size w W := by rw [hW]; exact below3 _ _ _ _
  have C : CodeIn W A len := by rw [hW]; exact ((hc.alloc _).alloc _).alloc _
  have HW := Lib.hid hW
  clear hW hc
  go_enter Try.func11, Try.ntmps11
  go_wp2_with fail
  rw [← HW.out]
  refine (open_any W A len cap C hl).mono ?_
  rintro e w1 ⟨rfl, k1, b1, -⟩
  have hz := R2.lt
  replace R0 := R0.below b1
  replace R1 := R1.below b1
  replace R2 := R2.below b1
  replace B := B.trans (b1.mono B.size)
  clear b1 C
  go_wp2_with fail
  refine (pt_any w1 W.heap.size A len cap 0 (by omega) k1).mono ?_
  rintro e w2 ⟨ax, ay, rfl, hax, hay, k2, g2⟩
  replace R0 := R0.grown g2 (by omega)
  replace R1 := R1.grown g2 (by omega)
  replace R2 := R2.grown g2 (by omega)
  replace B := below_only B g2 (by omega)
  clear g2 k1
  go_wp2_with fail
  refine (pt_any w2 W.heap.size A len cap _ (by omega) k2).mono ?_
  rintro e w3 ⟨bx, by_, rfl, hbx, hby, k3, g3⟩
  replace R0 := R0.grown g3 (by omega)
  replace R1 := R1.grown g3 (by omega)
  replace R2 := R2.grown g3 (by omega)
  replace B := below_only B g3 (by omega)
  clear g3 k2
  have h3 := k3.lt
  have h3' := R2.lt
  obtain ⟨W4, hW4⟩ : ∃ W4, W4 = (w3.alloc (.cells #[.int .i64 ax, .int .i64 ay] 25)).alloc (.cells #[.int .i64 bx, .int .i64 by_] 25) := ⟨_, rfl⟩
  have P0 : BlockIs W4 w3.heap.size ax ay := by rw [hW4]; exact (BlockIs.new w3 ax ay).alloc _
  have P1 : BlockIs W4 (w3.heap.size + 1) bx by_ := by rw [hW4]; have := BlockIs.new (w3.alloc (.cells #[.int .i64 ax, .int .i64 ay] 25)) bx by_; simpa using this
  have k4 : CurAt W4 W.heap.size A len cap (0 + 6 + 6) := by rw [hW4]; exact (k3.alloc _).alloc _
  replace R0 : BlockIs W4 w.heap.size 0 0 := by rw [hW4]; exact (R0.alloc _).alloc _
  replace R1 : BlockIs W4 (w.heap.size + 1) 0 0 := by rw [hW4]; exact (R1.alloc _).alloc _
  replace R2 : BlockIs W4 (w.heap.size + 2) 0 0 := by rw [hW4]; exact (R2.alloc _).alloc _
  replace B : Below w.heap.size w W4 := by rw [hW4]; exact (B.alloc B.size _).alloc (by have := B.size; simp; omega) _
  have HW4 := Lib.hid hW4
  clear hW4 k3
  go_wp2_with fail
  rw [← HW4.out]
  refine (pt_any W4 W.heap.size A len cap _ (by omega) k4).mono ?_
  rintro e w5 ⟨px, py, rfl, hpx, hpy, k5, g5⟩
  have h4 := P1.lt
  replace R0 := R0.grown g5 (by omega)
  replace R1 := R1.grown g5 (by omega)
  replace R2 := R2.grown g5 (by omega)
  replace P0 := P0.grown g5 (by omega)
  replace P1 := P1.grown g5 (by omega)
  replace B := below_only B g5 (by omega)
  have h5 := P1.lt
  clear g5 k4
  obtain ⟨W6, hW6⟩ : ∃ W6, W6 = w5.alloc (.cells #[.int .i64 px, .int .i64 py] 25) := ⟨_, rfl⟩
  have P2 : BlockIs W6 w5.heap.size px py := by rw [hW6]; exact BlockIs.new w5 px py
  have k6 : CurAt W6 W.heap.size A len cap (0 + 6 + 6 + 6) := by rw [hW6]; exact k5.alloc _
  replace R0 : BlockIs W6 w.heap.size 0 0 := by rw [hW6]; exact R0.alloc _
  replace R1 : BlockIs W6 (w.heap.size + 1) 0 0 := by rw [hW6]; exact R1.alloc _
  replace R2 : BlockIs W6 (w.heap.size + 2) 0 0 := by rw [hW6]; exact R2.alloc _
  replace P0 : BlockIs W6 w3.heap.size ax ay := by rw [hW6]; exact P0.alloc _
  replace P1 : BlockIs W6 (w3.heap.size + 1) bx by_ := by rw [hW6]; exact P1.alloc _
  replace B : Below w.heap.size w W6 := by rw [hW6]; exact B.alloc B.size _
  have HW6 := Lib.hid hW6
  clear hW6 k5
  go_wp2_with fail
  rw [← HW6.out]
  have S : AlR w W.heap.size w3.heap.size w5.heap.size ax ay bx by_ px py 0 0 0 0 0 0 W6.drew := AlR.drew ⟨⟨hz, h3, h5⟩, R0, R1, R2, P0, P1, P2, B⟩
  replace k6 := k6.drew
  have H64 := Lib.hid (show In64 ax ∧ In64 ay ∧ In64 bx ∧ In64 by_ ∧ In64 px ∧ In64 py from ⟨hax, hay, hbx, hby, hpx, hpy⟩)
  clear R0 R1 R2 P0 P1 P2 B HW HW4 HW6 h3' h4 hax hay hbx hby hpx hpy hl hz h3 h5
  refine wp_region_held_drew (S := fun w' => Six w3.heap.size w5.heap.size ax ay bx by_ px py w') (by kernel_rfl) S.six (fun hHeld => ?_)
  refine wpAnyH_take (i := 3) (oi := ⟨some 21, _, _, _, _, _⟩) (v := .pointer (some ⟨W.heap.size, 0, none⟩)) rfl (by kernel_rfl) (by kernel_rfl) (by kernel_rfl) (fun _ _ _ h => h) (Or.inl ⟨by rfl, fun w' hw => ?hy⟩) hHeld ?_
  case hy => (try dsimp only at hw); go_simp
  simp only [Act.put, List.setIfInBounds_toArray, List.set_cons_zero, List.set_cons_succ]
  refine wpAnyH_take (i := 5) (oi := ⟨some 23, _, _, _, _, _⟩) (v := .pointer (some ⟨W.heap.size, 0, none⟩)) rfl (by kernel_rfl) (by kernel_rfl) (by kernel_rfl) (fun _ _ _ h => h) (Or.inl ⟨by rfl, fun w' hw => ?hy⟩) hHeld ?_
  case hy => (try dsimp only at hw); go_simp
  simp only [Act.put, List.setIfInBounds_toArray, List.set_cons_zero, List.set_cons_succ]
  refine wpAnyH_take (i := 8) (oi := ⟨some 26, _, _, _, _, _⟩) (v := .pointer (some ⟨W.heap.size, 0, none⟩)) rfl (by kernel_rfl) (by kernel_rfl) (by kernel_rfl) (fun _ _ _ h => h) (Or.inl ⟨by rfl, fun w' hw => ?hy⟩) hHeld ?_
  case hy => (try dsimp only at hw); go_simp
  simp only [Act.put, List.setIfInBounds_toArray, List.set_cons_zero, List.set_cons_succ]
  refine wpAnyH_take (i := 0) (oi := ⟨some 18, _, _, _, _, _⟩) (v := .agg #[.int .i64 ax, .int .i64 ay]) rfl (by kernel_rfl) (by kernel_rfl) (by kernel_rfl) (fun _ _ _ h => h) (Or.inl ⟨by rfl, fun w' hw => ?hy⟩) hHeld ?_
  case hy => (try dsimp only at hw); go_simp
  simp only [Act.put, List.setIfInBounds_toArray, List.set_cons_zero, List.set_cons_succ]
  refine wpAnyH_take (i := 1) (oi := ⟨some 19, _, _, _, _, _⟩) (v := .agg #[.int .i64 bx, .int .i64 by_]) rfl (by kernel_rfl) (by kernel_rfl) (by kernel_rfl) (fun _ _ _ h => h) (Or.inl ⟨by rfl, fun w' hw => ?hy⟩) hHeld ?_
  case hy => (try dsimp only at hw); go_simp
  simp only [Act.put, List.setIfInBounds_toArray, List.set_cons_zero, List.set_cons_succ]
  refine wpAnyH_take (i := 2) (oi := ⟨some 20, _, _, _, _, _⟩) (v := .agg #[.int .i64 px, .int .i64 py]) rfl (by kernel_rfl) (by kernel_rfl) (by kernel_rfl) (fun _ _ _ h => h) (Or.inl ⟨by rfl, fun w' hw => ?hy⟩) hHeld ?_
  case hy => (try dsimp only at hw); go_simp
  simp only [Act.put, List.setIfInBounds_toArray, List.set_cons_zero, List.set_cons_succ]
  refine wpAnyH_ready (rs := [4]) (by kernel_rfl) (by simp) ?_
  refine AllReadyH.cons (o := ⟨some 22, _, _, _, _, _⟩) rfl (fun K hK => ?_) ?_
  · go_simp
    refine (pick_at _ W.heap.size A len cap _ 256 k6 (by omega) (by omega)).mono ?_
    rintro e w7 ⟨v, rfl, hv0, hv1, -, k7, g7, -⟩
    have hv2 := hv1 (by omega)
    replace S := S.grown g7
    clear g7 hv1 k6 hHeld
    go_wp2_with fail
    refine hK.out _ _ ?_ (fun hHeld => ?_)
    · exact S.six
    clear hK K
    try simp only [Act.put, List.setIfInBounds_toArray, List.set_cons_zero, List.set_cons_succ]
    refine wpAnyH_ready (rs := [6]) (by kernel_rfl) (by simp) ?_
    refine AllReadyH.cons (o := ⟨some 24, _, _, _, _, _⟩) rfl (fun K hK => ?_) ?_
    · go_simp
      refine (raw_any _ W.heap.size A len cap _ (by omega) k7).mono ?_
      rintro e w8 ⟨r, rfl, hr0, hr1, k8, g8⟩
      replace S := S.grown g8
      clear g8 k7 hHeld
      go_wp2_with fail
      refine hK.out _ _ ?_ (fun hHeld => ?_)
      · exact S.six
      clear hK K
      try simp only [Act.put, List.setIfInBounds_toArray, List.set_cons_zero, List.set_cons_succ]
      refine wpAnyH_ready (rs := [7, 9]) (by kernel_rfl) (by simp) ?_
      refine AllReadyH.cons (o := ⟨some 25, _, _, _, _, _⟩) rfl (fun K hK => ?_) ?_
      · go_simp
        have hlt := S.lt
        replace S := S.alloc (.cells #[.int .i64 v, .int .i64 1000000, .int .i64 r] 3)
        refine hK.out _ _ ?_ (fun hHeld => ?_)
        · exact S.six
        clear hK K
        try simp only [Act.put, List.setIfInBounds_toArray, List.set_cons_zero, List.set_cons_succ]
        refine wpAnyH_ready (rs := [9]) (by kernel_rfl) (by simp) ?_
        refine AllReadyH.cons (o := ⟨some 27, _, _, _, _, _⟩) rfl (fun K hK => ?_) ?_
        · go_simp
          refine (pick_at _ W.heap.size A len cap _ 3 (k8.alloc _) (by omega) (by omega)).mono ?_
          rintro e w9 ⟨i, rfl, hi0, hi1, -, k9, g9, -⟩
          have hi2 := hi1 (by omega)
          have hu := laid_cell_later (zs := [v, 1000000, r]) k8.lt g9 (i := i.toNat) (by simp; omega)
          replace S := S.grown g9
          clear g9 hi1 k8 hHeld
          have hzz : In64 (zg [v, 1000000, r] i.toNat) := zg_in (by
            intro z hz
            simp only [List.mem_cons, List.not_mem_nil, or_false] at hz
            rcases hz with rfl | rfl | rfl <;> exact ⟨by omega, by omega⟩) _
          obtain ⟨z, Hz⟩ : ∃ z, z = zg [v, 1000000, r] i.toNat := ⟨_, rfl⟩
          rw [← Hz] at hzz
          rw [← Hz] at hu
          clear Hz k9
          obtain ⟨L, hL⟩ : ∃ L, L = w8.heap.size := ⟨_, rfl⟩
          rw [← hL] at hu hlt
          go_wp2_with fail
          try rw [← hL]
          clear hL
          refine hK.out _ _ ?_ (fun hHeld => ?_)
          · exact S.six
          clear hK K
          try simp only [Act.put, List.setIfInBounds_toArray, List.set_cons_zero, List.set_cons_succ]
          refine wpAnyH_mono (S' := fun w' => Six w3.heap.size w5.heap.size ax ay bx by_ px py w' ∧ w'.cell? ⟨L, i.toNat, none⟩ = some (.int .i64 z)) (fun _ h => h.1) _ _ _ _ ?_
          replace hHeld : Six w3.heap.size w5.heap.size ax ay bx by_ px py _ ∧ _ := ⟨hHeld, hu⟩
          refine wpAnyH_take (i := 10) (oi := ⟨some 28, _, _, _, _, _⟩) (v := .pointer (some ⟨L, i.toNat, none⟩)) rfl (by kernel_rfl) (by kernel_rfl) (by kernel_rfl) (fun _ _ _ h => h) (Or.inl ⟨by rfl, fun w' hw => ?hy⟩) hHeld ?_
          case hy => (try dsimp only at hw); go_simp
          simp only [Act.put, List.setIfInBounds_toArray, List.set_cons_zero, List.set_cons_succ]
          refine wpAnyH_take (i := 11) (oi := ⟨some 29, _, _, _, _, _⟩) (v := .int .i64 z) rfl (by kernel_rfl) (by kernel_rfl) (by kernel_rfl) (fun _ _ _ h => h) (Or.inl ⟨by rfl, fun w' hw => ?hy⟩) hHeld ?_
          case hy => (try dsimp only at hw); go_simp
          simp only [Act.put, List.setIfInBounds_toArray, List.set_cons_zero, List.set_cons_succ]
          refine wpAnyH_ready (rs := [12]) (by kernel_rfl) (by simp) ?_
          refine AllReadyH.cons (o := ⟨none, _, _, _, _, _⟩) rfl (fun K hK => ?_) ?_
          · obtain ⟨r0, r1, r2, r3⟩ := S.own0
            go_simp
            clear r0 r1 r2 r3
            replace S := S.put0 ax ay
            replace hu := lit_stay (b := w.heap.size) (u := .int .i64 ax) (v := .int .i64 ay) hu (by omega)
            generalize World.setCell (World.setCell _ _ _) _ _ = V0 at S hu ⊢
            refine hK.out _ _ ?_ (fun hHeld => ?_)
            · exact ⟨S.six, hu⟩
            clear hK K
            try simp only [Act.put, List.setIfInBounds_toArray, List.set_cons_zero, List.set_cons_succ]
            refine wpAnyH_ready (rs := [13]) (by kernel_rfl) (by simp) ?_
            refine AllReadyH.cons (o := ⟨none, _, _, _, _, _⟩) rfl (fun K hK => ?_) ?_
            · obtain ⟨r0, r1, r2, r3⟩ := S.own1
              go_simp
              clear r0 r1 r2 r3
              replace S := S.put1 bx by_
              replace hu := lit_stay (b := w.heap.size + 1) (u := .int .i64 bx) (v := .int .i64 by_) hu (by omega)
              generalize World.setCell (World.setCell _ _ _) _ _ = V1 at S hu ⊢
              refine hK.out _ _ ?_ (fun hHeld => ?_)
              · exact ⟨S.six, hu⟩
              clear hK K
              try simp only [Act.put, List.setIfInBounds_toArray, List.set_cons_zero, List.set_cons_succ]
              refine wpAnyH_ready (rs := [14]) (by kernel_rfl) (by simp) ?_
              refine AllReadyH.cons (o := ⟨none, _, _, _, _, _⟩) rfl (fun K hK => ?_) ?_
              · obtain ⟨r0, r1, r2, r3⟩ := S.own2
                go_simp
                clear r0 r1 r2 r3
                replace S := S.put2 px py
                replace hu := lit_stay (b := w.heap.size + 2) (u := .int .i64 px) (v := .int .i64 py) hu (by omega)
                generalize World.setCell (World.setCell _ _ _) _ _ = V2 at S hu ⊢
                refine hK.out _ _ ?_ (fun hHeld => ?_)
                · exact ⟨S.six, hu⟩
                clear hK K
                try simp only [Act.put, List.setIfInBounds_toArray, List.set_cons_zero, List.set_cons_succ]
                refine wpAnyH_ready (rs := [15]) (by kernel_rfl) (by simp) ?_
                refine AllReadyH.cons (o := ⟨some 5, _, _, _, _, _⟩) rfl (fun K hK => ?_) ?_
                · go_simp
                  refine hK.out _ _ ?_ (fun hHeld => ?_)
                  · exact hHeld
                  clear hK K
                  try simp only [Act.put, List.setIfInBounds_toArray, List.set_cons_zero, List.set_cons_succ]
                  refine wpAnyH_done (by kernel_rfl) ?_ _
                  obtain ⟨r0, r1, -, -⟩ := S.own0
                  obtain ⟨r2, r3, -, -⟩ := S.own1
                  obtain ⟨r4, r5, -, -⟩ := S.own2
                  go_wp2
                  exact bodyPost_ret (v := .tuple #[.agg #[.int .i64 ax, .int .i64 ay], .agg #[.int .i64 bx, .int .i64 by_], .agg #[.int .i64 px, .int .i64 py], .int .i64 z]) (by simp [results, Try.results11, go_sem, r0, r1, r2, r3, r4, r5]) rfl
                    ⟨_, _, _, _, _, _, _, rfl, ⟨H64.out.1, H64.out.2.1, H64.out.2.2.1, H64.out.2.2.2.1, H64.out.2.2.2.2.1, H64.out.2.2.2.2.2, hzz⟩, S.2.2.2.2.2.2.2⟩
                exact AllReadyH.nil
              exact AllReadyH.nil
            exact AllReadyH.nil
          exact AllReadyH.nil
        exact AllReadyH.nil
      refine AllReadyH.cons (o := ⟨some 27, _, _, _, _, _⟩) rfl (fun K hK => ?_) ?_
      · go_simp
        refine (pick_at _ W.heap.size A len cap _ 3 k8 (by omega) (by omega)).mono ?_
        rintro e w9 ⟨i, rfl, hi0, hi1, -, k9, g9, -⟩
        have hi2 := hi1 (by omega)
        replace S := S.grown g9
        clear g9 hi1 k8 hHeld k9
        have hzz : In64 (zg [v, 1000000, r] i.toNat) := zg_in (by
          intro z hz
          simp only [List.mem_cons, List.not_mem_nil, or_false] at hz
          rcases hz with rfl | rfl | rfl <;> exact ⟨by omega, by omega⟩) _
        obtain ⟨z, Hz⟩ : ∃ z, z = zg [v, 1000000, r] i.toNat := ⟨_, rfl⟩
        rw [← Hz] at hzz
        replace Hz := Lib.hid Hz
        go_wp2_with fail
        refine hK.out _ _ ?_ (fun hHeld => ?_)
        · exact S.six
        clear hK K
        try simp only [Act.put, List.setIfInBounds_toArray, List.set_cons_zero, List.set_cons_succ]
        refine wpAnyH_ready (rs := [7, 12]) (by kernel_rfl) (by simp) ?_
        refine AllReadyH.cons (o := ⟨some 25, _, _, _, _, _⟩) rfl (fun K hK => ?_) ?_
        · go_simp
          have hu := laid_cell w9 [v, 1000000, r] 3 (i := i.toNat) (by simp; omega)
          have hlt := S.lt
          replace S := S.alloc (.cells #[.int .i64 v, .int .i64 1000000, .int .i64 r] 3)
          rw [← Hz.out] at hu
          obtain ⟨L, hL⟩ : ∃ L, L = w9.heap.size := ⟨_, rfl⟩
          rw [← hL] at hu hlt ⊢
          replace hu : (w9.alloc (.cells #[.int .i64 v, .int .i64 1000000, .int .i64 r] 3)).cell? ⟨L, i.toNat, none⟩ = some (.int .i64 z) := hu
          clear hL
          generalize World.alloc _ _ = V at S hu ⊢
          refine hK.out _ _ ?_ (fun hHeld => ?_)
          · exact S.six
          clear hK K
          try simp only [Act.put, List.setIfInBounds_toArray, List.set_cons_zero, List.set_cons_succ]
          refine wpAnyH_mono (S' := fun w' => Six w3.heap.size w5.heap.size ax ay bx by_ px py w' ∧ w'.cell? ⟨L, i.toNat, none⟩ = some (.int .i64 z)) (fun _ h => h.1) _ _ _ _ ?_
          replace hHeld : Six w3.heap.size w5.heap.size ax ay bx by_ px py _ ∧ _ := ⟨hHeld, hu⟩
          refine wpAnyH_take (i := 10) (oi := ⟨some 28, _, _, _, _, _⟩) (v := .pointer (some ⟨L, i.toNat, none⟩)) rfl (by kernel_rfl) (by kernel_rfl) (by kernel_rfl) (fun _ _ _ h => h) (Or.inl ⟨by rfl, fun w' hw => ?hy⟩) hHeld ?_
          case hy => (try dsimp only at hw); go_simp
          simp only [Act.put, List.setIfInBounds_toArray, List.set_cons_zero, List.set_cons_succ]
          refine wpAnyH_take (i := 11) (oi := ⟨some 29, _, _, _, _, _⟩) (v := .int .i64 z) rfl (by kernel_rfl) (by kernel_rfl) (by kernel_rfl) (fun _ _ _ h => h) (Or.inl ⟨by rfl, fun w' hw => ?hy⟩) hHeld ?_
          case hy => (try dsimp only at hw); go_simp
          simp only [Act.put, List.setIfInBounds_toArray, List.set_cons_zero, List.set_cons_succ]
          refine wpAnyH_ready (rs := [12]) (by kernel_rfl) (by simp) ?_
          refine AllReadyH.cons (o := ⟨none, _, _, _, _, _⟩) rfl (fun K hK => ?_) ?_
          · obtain ⟨r0, r1, r2, r3⟩ := S.own0
            go_simp
            clear r0 r1 r2 r3
            replace S := S.put0 ax ay
            replace hu := lit_stay (b := w.heap.size) (u := .int .i64 ax) (v := .int .i64 ay) hu (by omega)
            generalize World.setCell (World.setCell _ _ _) _ _ = V0 at S hu ⊢
            refine hK.out _ _ ?_ (fun hHeld => ?_)
            · exact ⟨S.six, hu⟩
            clear hK K
            try simp only [Act.put, List.setIfInBounds_toArray, List.set_cons_zero, List.set_cons_succ]
            refine wpAnyH_ready (rs := [13]) (by kernel_rfl) (by simp) ?_
            refine AllReadyH.cons (o := ⟨none, _, _, _, _, _⟩) rfl (fun K hK => ?_) ?_
            · obtain ⟨r0, r1, r2, r3⟩ := S.own1
              go_simp
              clear r0 r1 r2 r3
              replace S := S.put1 bx by_
              replace hu := lit_stay (b := w.heap.size + 1) (u := .int .i64 bx) (v := .int .i64 by_) hu (by omega)
              generalize World.setCell (World.setCell _ _ _) _ _ = V1 at S hu ⊢
              refine hK.out _ _ ?_ (fun hHeld => ?_)
              · exact ⟨S.six, hu⟩
              clear hK K
              try simp only [Act.put, List.setIfInBounds_toArray, List.set_cons_zero, List.set_cons_succ]
              refine wpAnyH_ready (rs := [14]) (by kernel_rfl) (by simp) ?_
              refine AllReadyH.cons (o := ⟨none, _, _, _, _, _⟩) rfl (fun K hK => ?_) ?_
              · obtain ⟨r0, r1, r2, r3⟩ := S.own2
                go_simp
                clear r0 r1 r2 r3
                replace S := S.put2 px py
                replace hu := lit_stay (b := w.heap.size + 2) (u := .int .i64 px) (v := .int .i64 py) hu (by omega)
                generalize World.setCell (World.setCell _ _ _) _ _ = V2 at S hu ⊢
                refine hK.out _ _ ?_ (fun hHeld => ?_)
                · exact ⟨S.six, hu⟩
                clear hK K
                try simp only [Act.put, List.setIfInBounds_toArray, List.set_cons_zero, List.set_cons_succ]
                refine wpAnyH_ready (rs := [15]) (by kernel_rfl) (by simp) ?_
                refine AllReadyH.cons (o := ⟨some 5, _, _, _, _, _⟩) rfl (fun K hK => ?_) ?_
                · go_simp
                  refine hK.out _ _ ?_ (fun hHeld => ?_)
                  · exact hHeld
                  clear hK K
                  try simp only [Act.put, List.setIfInBounds_toArray, List.set_cons_zero, List.set_cons_succ]
                  refine wpAnyH_done (by kernel_rfl) ?_ _
                  obtain ⟨r0, r1, -, -⟩ := S.own0
                  obtain ⟨r2, r3, -, -⟩ := S.own1
                  obtain ⟨r4, r5, -, -⟩ := S.own2
                  go_wp2
                  exact bodyPost_ret (v := .tuple #[.agg #[.int .i64 ax, .int .i64 ay], .agg #[.int .i64 bx, .int .i64 by_], .agg #[.int .i64 px, .int .i64 py], .int .i64 z]) (by simp [results, Try.results11, go_sem, r0, r1, r2, r3, r4, r5]) rfl
                    ⟨_, _, _, _, _, _, _, rfl, ⟨H64.out.1, H64.out.2.1, H64.out.2.2.1, H64.out.2.2.2.1, H64.out.2.2.2.2.1, H64.out.2.2.2.2.2, hzz⟩, S.2.2.2.2.2.2.2⟩
                exact AllReadyH.nil
              exact AllReadyH.nil
            exact AllReadyH.nil
          exact AllReadyH.nil
        refine AllReadyH.cons (o := ⟨none, _, _, _, _, _⟩) rfl (fun K hK => ?_) ?_
        · obtain ⟨r0, r1, r2, r3⟩ := S.own0
          go_simp
          clear r0 r1 r2 r3
          replace S := S.put0 ax ay
          generalize World.setCell (World.setCell _ _ _) _ _ = V0 at S ⊢
          refine hK.out _ _ ?_ (fun hHeld => ?_)
          · exact S.six
          clear hK K
          try simp only [Act.put, List.setIfInBounds_toArray, List.set_cons_zero, List.set_cons_succ]
          refine wpAnyH_ready (rs := [7, 13]) (by kernel_rfl) (by simp) ?_
          refine AllReadyH.cons (o := ⟨some 25, _, _, _, _, _⟩) rfl (fun K hK => ?_) ?_
          · go_simp
            have hu := laid_cell V0 [v, 1000000, r] 3 (i := i.toNat) (by simp; omega)
            have hlt := S.lt
            replace S := S.alloc (.cells #[.int .i64 v, .int .i64 1000000, .int .i64 r] 3)
            rw [← Hz.out] at hu
            obtain ⟨L, hL⟩ : ∃ L, L = V0.heap.size := ⟨_, rfl⟩
            rw [← hL] at hu hlt ⊢
            replace hu : (V0.alloc (.cells #[.int .i64 v, .int .i64 1000000, .int .i64 r] 3)).cell? ⟨L, i.toNat, none⟩ = some (.int .i64 z) := hu
            clear hL
            generalize World.alloc _ _ = V at S hu ⊢
            refine hK.out _ _ ?_ (fun hHeld => ?_)
            · exact S.six
            clear hK K
            try simp only [Act.put, List.setIfInBounds_toArray, List.set_cons_zero, List.set_cons_succ]
            refine wpAnyH_mono (S' := fun w' => Six w3.heap.size w5.heap.size ax ay bx by_ px py w' ∧ w'.cell? ⟨L, i.toNat, none⟩ = some (.int .i64 z)) (fun _ h => h.1) _ _ _ _ ?_
            replace hHeld : Six w3.heap.size w5.heap.size ax ay bx by_ px py _ ∧ _ := ⟨hHeld, hu⟩
            refine wpAnyH_take (i := 10) (oi := ⟨some 28, _, _, _, _, _⟩) (v := .pointer (some ⟨L, i.toNat, none⟩)) rfl (by kernel_rfl) (by kernel_rfl) (by kernel_rfl) (fun _ _ _ h => h) (Or.inl ⟨by rfl, fun w' hw => ?hy⟩) hHeld ?_
            case hy => (try dsimp only at hw); go_simp
            simp only [Act.put, List.setIfInBounds_toArray, List.set_cons_zero, List.set_cons_succ]
            refine wpAnyH_take (i := 11) (oi := ⟨some 29, _, _, _, _, _⟩) (v := .int .i64 z) rfl (by kernel_rfl) (by kernel_rfl) (by kernel_rfl) (fun _ _ _ h => h) (Or.inl ⟨by rfl, fun w' hw => ?hy⟩) hHeld ?_
            case hy => (try dsimp only at hw); go_simp
            simp only [Act.put, List.setIfInBounds_toArray, List.set_cons_zero, List.set_cons_succ]
            refine wpAnyH_ready (rs := [13]) (by kernel_rfl) (by simp) ?_
            refine AllReadyH.cons (o := ⟨none, _, _, _, _, _⟩) rfl (fun K hK => ?_) ?_
            · obtain ⟨r0, r1, r2, r3⟩ := S.own1
              go_simp
              clear r0 r1 r2 r3
              replace S := S.put1 bx by_
              replace hu := lit_stay (b := w.heap.size + 1) (u := .int .i64 bx) (v := .int .i64 by_) hu (by omega)
              generalize World.setCell (World.setCell _ _ _) _ _ = V1 at S hu ⊢
              refine hK.out _ _ ?_ (fun hHeld => ?_)
              · exact ⟨S.six, hu⟩
              clear hK K
              try simp only [Act.put, List.setIfInBounds_toArray, List.set_cons_zero, List.set_cons_succ]
              refine wpAnyH_ready (rs := [14]) (by kernel_rfl) (by simp) ?_
              refine AllReadyH.cons (o := ⟨none, _, _, _, _, _⟩) rfl (fun K hK => ?_) ?_
              · obtain ⟨r0, r1, r2, r3⟩ := S.own2
                go_simp
                clear r0 r1 r2 r3
                replace S := S.put2 px py
                replace hu := lit_stay (b := w.heap.size + 2) (u := .int .i64 px) (v := .int .i64 py) hu (by omega)
                generalize World.setCell (World.setCell _ _ _) _ _ = V2 at S hu ⊢
                refine hK.out _ _ ?_ (fun hHeld => ?_)
                · exact ⟨S.six, hu⟩
                clear hK K
                try simp only [Act.put, List.setIfInBounds_toArray, List.set_cons_zero, List.set_cons_succ]
                refine wpAnyH_ready (rs := [15]) (by kernel_rfl) (by simp) ?_
                refine AllReadyH.cons (o := ⟨some 5, _, _, _, _, _⟩) rfl (fun K hK => ?_) ?_
                · go_simp
                  refine hK.out _ _ ?_ (fun hHeld => ?_)
                  · exact hHeld
                  clear hK K
                  try simp only [Act.put, List.setIfInBounds_toArray, List.set_cons_zero, List.set_cons_succ]
                  refine wpAnyH_done (by kernel_rfl) ?_ _
                  obtain ⟨r0, r1, -, -⟩ := S.own0
                  obtain ⟨r2, r3, -, -⟩ := S.own1
                  obtain ⟨r4, r5, -, -⟩ := S.own2
                  go_wp2
                  exact bodyPost_ret (v := .tuple #[.agg #[.int .i64 ax, .int .i64 ay], .agg #[.int .i64 bx, .int .i64 by_], .agg #[.int .i64 px, .int .i64 py], .int .i64 z]) (by simp [results, Try.results11, go_sem, r0, r1, r2, r3, r4, r5]) rfl
                    ⟨_, _, _, _, _, _, _, rfl, ⟨H64.out.1, H64.out.2.1, H64.out.2.2.1, H64.out.2.2.2.1, H64.out.2.2.2.2.1, H64.out.2.2.2.2.2, hzz⟩, S.2.2.2.2.2.2.2⟩
                exact AllReadyH.nil
              exact AllReadyH.nil
            exact AllReadyH.nil
          refine AllReadyH.cons (o := ⟨none, _, _, _, _, _⟩) rfl (fun K hK => ?_) ?_
          · obtain ⟨r0, r1, r2, r3⟩ := S.own1
            go_simp
            clear r0 r1 r2 r3
            replace S := S.put1 bx by_
            generalize World.setCell (World.setCell _ _ _) _ _ = V1 at S ⊢
            refine hK.out _ _ ?_ (fun hHeld => ?_)
            · exact S.six
            clear hK K
            try simp only [Act.put, List.setIfInBounds_toArray, List.set_cons_zero, List.set_cons_succ]
            refine wpAnyH_ready (rs := [7, 14]) (by kernel_rfl) (by simp) ?_
            refine AllReadyH.cons (o := ⟨some 25, _, _, _, _, _⟩) rfl (fun K hK => ?_) ?_
            · go_simp
              have hu := laid_cell V1 [v, 1000000, r] 3 (i := i.toNat) (by simp; omega)
              have hlt := S.lt
              replace S := S.alloc (.cells #[.int .i64 v, .int .i64 1000000, .int .i64 r] 3)
              rw [← Hz.out] at hu
              obtain ⟨L, hL⟩ : ∃ L, L = V1.heap.size := ⟨_, rfl⟩
              rw [← hL] at hu hlt ⊢
              replace hu : (V1.alloc (.cells #[.int .i64 v, .int .i64 1000000, .int .i64 r] 3)).cell? ⟨L, i.toNat, none⟩ = some (.int .i64 z) := hu
              clear hL
              generalize World.alloc _ _ = V at S hu ⊢
              refine hK.out _ _ ?_ (fun hHeld => ?_)
              · exact S.six
              clear hK K
              try simp only [Act.put, List.setIfInBounds_toArray, List.set_cons_zero, List.set_cons_succ]
              refine wpAnyH_mono (S' := fun w' => Six w3.heap.size w5.heap.size ax ay bx by_ px py w' ∧ w'.cell? ⟨L, i.toNat, none⟩ = some (.int .i64 z)) (fun _ h => h.1) _ _ _ _ ?_
              replace hHeld : Six w3.heap.size w5.heap.size ax ay bx by_ px py _ ∧ _ := ⟨hHeld, hu⟩
              refine wpAnyH_take (i := 10) (oi := ⟨some 28, _, _, _, _, _⟩) (v := .pointer (some ⟨L, i.toNat, none⟩)) rfl (by kernel_rfl) (by kernel_rfl) (by kernel_rfl) (fun _ _ _ h => h) (Or.inl ⟨by rfl, fun w' hw => ?hy⟩) hHeld ?_
              case hy => (try dsimp only at hw); go_simp
              simp only [Act.put, List.setIfInBounds_toArray, List.set_cons_zero, List.set_cons_succ]
              refine wpAnyH_take (i := 11) (oi := ⟨some 29, _, _, _, _, _⟩) (v := .int .i64 z) rfl (by kernel_rfl) (by kernel_rfl) (by kernel_rfl) (fun _ _ _ h => h) (Or.inl ⟨by rfl, fun w' hw => ?hy⟩) hHeld ?_
              case hy => (try dsimp only at hw); go_simp
              simp only [Act.put, List.setIfInBounds_toArray, List.set_cons_zero, List.set_cons_succ]
              refine wpAnyH_ready (rs := [14]) (by kernel_rfl) (by simp) ?_
              refine AllReadyH.cons (o := ⟨none, _, _, _, _, _⟩) rfl (fun K hK => ?_) ?_
              · obtain ⟨r0, r1, r2, r3⟩ := S.own2
                go_simp
                clear r0 r1 r2 r3
                replace S := S.put2 px py
                replace hu := lit_stay (b := w.heap.size + 2) (u := .int .i64 px) (v := .int .i64 py) hu (by omega)
                generalize World.setCell (World.setCell _ _ _) _ _ = V2 at S hu ⊢
                refine hK.out _ _ ?_ (fun hHeld => ?_)
                · exact ⟨S.six, hu⟩
                clear hK K
                try simp only [Act.put, List.setIfInBounds_toArray, List.set_cons_zero, List.set_cons_succ]
                refine wpAnyH_ready (rs := [15]) (by kernel_rfl) (by simp) ?_
                refine AllReadyH.cons (o := ⟨some 5, _, _, _, _, _⟩) rfl (fun K hK => ?_) ?_
                · go_simp
                  refine hK.out _ _ ?_ (fun hHeld => ?_)
                  · exact hHeld
                  clear hK K
                  try simp only [Act.put, List.setIfInBounds_toArray, List.set_cons_zero, List.set_cons_succ]
                  refine wpAnyH_done (by kernel_rfl) ?_ _
                  obtain ⟨r0, r1, -, -⟩ := S.own0
                  obtain ⟨r2, r3, -, -⟩ := S.own1
                  obtain ⟨r4, r5, -, -⟩ := S.own2
                  go_wp2
                  exact bodyPost_ret (v := .tuple #[.agg #[.int .i64 ax, .int .i64 ay], .agg #[.int .i64 bx, .int .i64 by_], .agg #[.int .i64 px, .int .i64 py], .int .i64 z]) (by simp [results, Try.results11, go_sem, r0, r1, r2, r3, r4, r5]) rfl
                    ⟨_, _, _, _, _, _, _, rfl, ⟨H64.out.1, H64.out.2.1, H64.out.2.2.1, H64.out.2.2.2.1, H64.out.2.2.2.2.1, H64.out.2.2.2.2.2, hzz⟩, S.2.2.2.2.2.2.2⟩
                exact AllReadyH.nil
              exact AllReadyH.nil
            refine AllReadyH.cons (o := ⟨none, _, _, _, _, _⟩) rfl (fun K hK => ?_) ?_
            · obtain ⟨r0, r1, r2, r3⟩ := S.own2
              go_simp
              clear r0 r1 r2 r3
              replace S := S.put2 px py
              generalize World.setCell (World.setCell _ _ _) _ _ = V2 at S ⊢
              refine hK.out _ _ ?_ (fun hHeld => ?_)
              · exact S.six
              clear hK K
              try simp only [Act.put, List.setIfInBounds_toArray, List.set_cons_zero, List.set_cons_succ]
              refine wpAnyH_ready (rs := [7]) (by kernel_rfl) (by simp) ?_
              refine AllReadyH.cons (o := ⟨some 25, _, _, _, _, _⟩) rfl (fun K hK => ?_) ?_
              · go_simp
                have hu := laid_cell V2 [v, 1000000, r] 3 (i := i.toNat) (by simp; omega)
                have hlt := S.lt
                replace S := S.alloc (.cells #[.int .i64 v, .int .i64 1000000, .int .i64 r] 3)
                rw [← Hz.out] at hu
                obtain ⟨L, hL⟩ : ∃ L, L = V2.heap.size := ⟨_, rfl⟩
                rw [← hL] at hu hlt ⊢
                replace hu : (V2.alloc (.cells #[.int .i64 v, .int .i64 1000000, .int .i64 r] 3)).cell? ⟨L, i.toNat, none⟩ = some (.int .i64 z) := hu
                clear hL
                generalize World.alloc _ _ = V at S hu ⊢
                refine hK.out _ _ ?_ (fun hHeld => ?_)
                · exact S.six
                clear hK K
                try simp only [Act.put, List.setIfInBounds_toArray, List.set_cons_zero, List.set_cons_succ]
                refine wpAnyH_mono (S' := fun w' => Six w3.heap.size w5.heap.size ax ay bx by_ px py w' ∧ w'.cell? ⟨L, i.toNat, none⟩ = some (.int .i64 z)) (fun _ h => h.1) _ _ _ _ ?_
                replace hHeld : Six w3.heap.size w5.heap.size ax ay bx by_ px py _ ∧ _ := ⟨hHeld, hu⟩
                refine wpAnyH_take (i := 10) (oi := ⟨some 28, _, _, _, _, _⟩) (v := .pointer (some ⟨L, i.toNat, none⟩)) rfl (by kernel_rfl) (by kernel_rfl) (by kernel_rfl) (fun _ _ _ h => h) (Or.inl ⟨by rfl, fun w' hw => ?hy⟩) hHeld ?_
                case hy => (try dsimp only at hw); go_simp
                simp only [Act.put, List.setIfInBounds_toArray, List.set_cons_zero, List.set_cons_succ]
                refine wpAnyH_take (i := 11) (oi := ⟨some 29, _, _, _, _, _⟩) (v := .int .i64 z) rfl (by kernel_rfl) (by kernel_rfl) (by kernel_rfl) (fun _ _ _ h => h) (Or.inl ⟨by rfl, fun w' hw => ?hy⟩) hHeld ?_
                case hy => (try dsimp only at hw); go_simp
                simp only [Act.put, List.setIfInBounds_toArray, List.set_cons_zero, List.set_cons_succ]
                refine wpAnyH_ready (rs := [15]) (by kernel_rfl) (by simp) ?_
                refine AllReadyH.cons (o := ⟨some 5, _, _, _, _, _⟩) rfl (fun K hK => ?_) ?_
                · go_simp
                  refine hK.out _ _ ?_ (fun hHeld => ?_)
                  · exact hHeld
                  clear hK K
                  try simp only [Act.put, List.setIfInBounds_toArray, List.set_cons_zero, List.set_cons_succ]
                  refine wpAnyH_done (by kernel_rfl) ?_ _
                  obtain ⟨r0, r1, -, -⟩ := S.own0
                  obtain ⟨r2, r3, -, -⟩ := S.own1
                  obtain ⟨r4, r5, -, -⟩ := S.own2
                  go_wp2
                  exact bodyPost_ret (v := .tuple #[.agg #[.int .i64 ax, .int .i64 ay], .agg #[.int .i64 bx, .int .i64 by_], .agg #[.int .i64 px, .int .i64 py], .int .i64 z]) (by simp [results, Try.results11, go_sem, r0, r1, r2, r3, r4, r5]) rfl
                    ⟨_, _, _, _, _, _, _, rfl, ⟨H64.out.1, H64.out.2.1, H64.out.2.2.1, H64.out.2.2.2.1, H64.out.2.2.2.2.1, H64.out.2.2.2.2.2, hzz⟩, S.2.2.2.2.2.2.2⟩
                exact AllReadyH.nil
              exact AllReadyH.nil
            exact AllReadyH.nil
          exact AllReadyH.nil
        exact AllReadyH.nil
      exact AllReadyH.nil
    exact AllReadyH.nil
  exact AllReadyH.nil

end Go.Proofs.Ytgfgolcbioffiaa
