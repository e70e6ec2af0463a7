/-
  What impl.Net.arcsAlong gives, and what impl.RouteOk computes.
-/
import Derived.Test.YtdobiapnkdgjoaaArcsSeq
import Derived.Test.YtdobiapnkdgjoaaRouteSp
namespace Go.Proofs.Ytdobiapnkdgjoaa
open Go.RowKit Go.Deep

attribute [local go_sem] Oper.semAt_some noPanic_normal noPanic_ret

theorem arcsAlong_any (A B R : Option Addr) (n m k ca cb cr : Nat) (w : World) :
    Calls Try.prog 68 #[.agg #[.slice A n ca, .slice B m cb], .slice R k cr] w fun e w' => e = .returned (.func (.func 112) #[] #[.pointer (some ⟨w.heap.size + 1, 0, none⟩), .pointer (some ⟨w.heap.size, 0, none⟩)]) ∧ w' = (w.alloc (.cells #[.slice A n ca, .slice B m cb] 27)).alloc (.cells #[.slice R k cr] 30) := by
  have hmf : ∀ (fn : Fn) (first cap : Array Value) (w : World), (Instr.makeFunc fn first cap).run Try.prog w = .ok (.func fn first cap) w := fun _ _ _ _ => rfl
  go_enter Try.func68, Try.ntmps68
  go_wp2
  go_ret
  exact ⟨rfl, rfl⟩

/-- The iterator, where the loop's variable lies in block Bx and holds no row. -/
theorem along_stops {α : Type} (f : Nat → α) (enc : α → Int) (n bn br : Nat) (A B : Option Addr) (ca cb : Nat) (R : Option Addr) (cr : Nat) (ps : List (Int × Int)) (rs : List (Int × Int × Int)) (zs : List Int)
    (hn : ps.length ≤ 1048576) (hm : rs.length ≤ 1048576) (hz : zs.length ≤ 1048576) (henc : ∀ k, k + 1 < zs.length → enc (f k) = arcAt ps rs (zg zs k) (zg zs (k + 1)))
    (Bx : Nat) (w0 w : World) (h0 : Below w0.heap.size w0 w) (hB : w0.heap.size ≤ Bx) (hBw : Bx < w.heap.size) (hrow : ∀ u v, Boxed w Bx u v → v.ownBlock = none) (hbn : bn ≠ Bx) (hbr : br ≠ Bx)
    (c0 : w.cell? ⟨bn, 0, none⟩ = some (.slice A ps.length ca)) (c1 : w.cell? ⟨bn, 1, none⟩ = some (.slice B rs.length cb)) (c2 : w.cell? ⟨br, 0, none⟩ = some (.slice R zs.length cr)) (ha : IsPts w0 A ps) (hb : IsArcs w0 B rs) (hi : IsInts w0 R zs) :
    SeqStopsK Fence.wide n Try.prog 112 #[.pointer (some ⟨br, 0, none⟩), .pointer (some ⟨bn, 0, none⟩)] (fun x => #[Value.int .i64 (enc x)]) (Kpt Bx) (fun ys => ys = upto f (zs.length - 1)) (fun pre => ∃ k, k ≤ zs.length - 1 ∧ pre = upto f k) (zs.length - 1) w :=
  fun l J Jx W hW hJ _ hY hJ0 => by
  have hrW : RowFrom Bx W.heap.size W := fun u v k e ek => by rw [hrow u v (boxed_same (hW.block Bx hBw) e)] at ek; cases ek
  have h0W : Below w0.heap.size w0 W := h0.trans (hW.mono h0.size)
  have hlt : ∀ {b i : Nat} {v : Value}, w.cell? ⟨b, i, none⟩ = some v → b < W.heap.size := fun h => by
    have := World.block_lt_of_cell? w _ h
    have := hW.size
    simp at *
    omega
  exact along1 f enc n l bn br A B ca cb R cr ps rs zs hn hm hz henc (Kpt Bx) J Jx W hJ (Kpt Bx W)
    (fun X hX => ⟨⟨hX.cell (Nat.le_refl _) hrW (hlt c0) hbn (cell_under hW c0), hX.cell (Nat.le_refl _) hrW (hlt c1) hbn (cell_under hW c1), hX.cell (Nat.le_refl _) hrW (hlt c2) hbr (cell_under hW c2)⟩, hX.pts (Nat.le_refl _) hrW h0W hB h0W.size ha, hX.arcs (Nat.le_refl _) hrW h0W hB h0W.size hb, hX.ints (Nat.le_refl _) hrW h0W hB h0W.size hi⟩)
    (fun X Y hX hb => hX.trans (Kpt.of_below hb (by have := hX.size; have := hW.size; omega))) (fun X Y hX hk => hX.trans hk) (Kpt.refl _ _) hY hJ0

theorem upto_along (rs : List A3) (zs : List Int) : upto (arcK rs zs) (zs.length - 1) = alongL rs zs := rfl
theorem arcAt_net {ps : List (Int × Int)} {rs : List A3} (h : netB ps rs = true) (u v : Int) : arcAt ps rs u v = findA rs u v := by unfold arcAt; rw [if_pos h]

/-- The same, and the variable of the result beside. -/
abbrev NtF (base : World) (xb fb : Nat) (u v : Value) (w : World) : Prop := NtS base xb u v w ∧ Boxed w fb 4 (.bool false)
abbrev RtF (base : World) (xb fb : Nat) (u v : Value) (b i0 : Nat) (z0 : Int) (i1 : Nat) (z1 : Int) (w : World) : Prop := RtS base xb u v b i0 z0 i1 z1 w ∧ Boxed w fb 4 (.bool false)
section
variable {base w w' : World} {xb fb : Nat} {u v : Value} {b i0 i1 : Nat} {z0 z1 : Int}
theorem boxed_below {t : TypeId} {x : Value} (hb : Below w.heap.size w w') (h : Boxed w fb t x) : Boxed w' fb t x := (hb.block fb h.lt).trans h
theorem NtF.under (hb : Below w.heap.size w w') (h : NtF base xb fb u v w) : NtF base xb fb u v w' := ⟨NtS.under hb h.1, boxed_below hb h.2⟩
theorem NtF.drew (h : NtF base xb fb u v w) : NtF base xb fb u v w.drew := ⟨NtS.drew h.1, h.2⟩
theorem NtF.bel (h : NtF base xb fb u v w) : Below base.heap.size base w := h.1.2.2
theorem RtF.under (hb : Below w.heap.size w w') (h : RtF base xb fb u v b i0 z0 i1 z1 w) : RtF base xb fb u v b i0 z0 i1 z1 w' := ⟨RtS.under hb h.1, boxed_below hb h.2⟩
theorem RtF.drew (h : RtF base xb fb u v b i0 z0 i1 z1 w) : RtF base xb fb u v b i0 z0 i1 z1 w.drew := ⟨RtS.drew h.1, h.2⟩
theorem RtF.bel (h : RtF base xb fb u v b i0 z0 i1 z1 w) : Below base.heap.size base w := h.1.2.2.2.2
end

set_option maxRecDepth 100000 in
set_option maxHeartbeats 4000000 in
theorem implRouteOk_any (A B : Option Addr) (ca cb : Nat) (ps : List (Int × Int)) (rs : List A3) (R : Option Addr) (cr : Nat) (zs : List Int) (w : World) (hn : ps.length ≤ 1048576) (hm : rs.length ≤ 1048576) (hz : zs.length ≤ 1048576) (ha : IsPts w A ps) (hb : IsArcs w B rs) (hi : IsInts w R zs) :
    Calls Try.prog 19 #[.agg #[.slice A ps.length ca, .slice B rs.length cb], .slice R zs.length cr] w fun e w' => e = .returned (.bool (rtB ps rs zs)) ∧ Below w.heap.size w w' := by
  have X := (Pair.new w 27 (.slice A ps.length ca) (.slice B rs.length cb)).alloc (.cells #[.bool false] 4)
  have K := below2 w (.cells #[.slice A ps.length ca, .slice B rs.length cb] 27) (.cells #[.bool false] 4)
  have F := Boxed.new (w.alloc (.cells #[.slice A ps.length ca, .slice B rs.length cb] 27)) 4 (.bool false)
  rw [World.size_alloc] at F
  cases h1 : netB ps rs with
  | false =>
    have HQ := Lib.hid (rtB_net (zs := zs) h1)
    have T : NtF w w.heap.size (w.heap.size + 1) (.slice A ps.length ca) (.slice B rs.length cb) _ := ⟨⟨X.cells.1, X.cells.2.1, K⟩, F⟩
    clear X K F
    refine (callsIn_wide (n := 9)).1 (callsIn_of_wp_marks Try.func19 rfl trivial ?_)
    simp only [Try.ntmps19, List.size_toArray, List.length_cons, List.length_nil, Nat.reduceAdd, Nat.reduceSub, Array.replicate_succ, Array.replicate_zero, List.push_toArray, List.append_toArray, List.nil_append, List.cons_append]
    refine wp_noPanic ?_
    go_wp2_with fail
    refine wp_region_held_drew (S := (fun w' => NtF w w.heap.size (w.heap.size + 1) (.slice A ps.length ca) (.slice B rs.length cb) w')) (by kernel_rfl) ?_ (fun hHeld => ?_)
    · exact NtF.drew T
    clear T
    refine wpAnyH_take (i := 0) (oi := ⟨some 6, _, _, _, _, _⟩) (v := .agg #[.slice A ps.length ca, .slice B rs.length cb]) rfl (by kernel_rfl) (by kernel_rfl) (by kernel_rfl) (fun _ _ _ h => h) (Or.inl ⟨by rfl, fun w' hw => ?hy⟩) hHeld ?_
    case hy => (try dsimp only at hw); go_simp
    simp only [Act.put, List.setIfInBounds_toArray, List.set_cons_zero, List.set_cons_succ]
    refine wpAnyH_ready (rs := [1]) (by kernel_rfl) (by simp) ?_
    refine AllReadyH.cons (o := ⟨some 7, _, _, _, _, _⟩) rfl (fun K hK => ?_) AllReadyH.nil
    go_simp
    refine (implNetOk_any A B ca cb ps rs _ hn hm (ha.below (NtF.bel hHeld)) (hb.below (NtF.bel hHeld))).mono ?_; rintro e w1 ⟨rfl, b1⟩
    go_wp2_with fail
    refine hK.out _ _ ?_ (fun hHeld => ?_)
    · exact NtF.under b1 hHeld
    clear hK K
    try simp only [Act.put, List.setIfInBounds_toArray, List.set_cons_zero, List.set_cons_succ]
    clear b1
    refine wpAnyH_take (i := 2) (oi := ⟨some 8, _, _, _, _, _⟩) (v := .bool true) rfl (by kernel_rfl) (by kernel_rfl) (by kernel_rfl) (fun _ _ _ h => h) (Or.inl ⟨by rfl, fun w' hw => ?hy⟩) hHeld ?_
    case hy => (try dsimp only at hw); go_simp
    simp only [Act.put, List.setIfInBounds_toArray, List.set_cons_zero, List.set_cons_succ]
    refine wpAnyH_take (i := 3) (oi := ⟨some 9, _, _, _, _, _⟩) (v := .bool true) rfl (by kernel_rfl) (by kernel_rfl) (by kernel_rfl) (fun _ _ _ h => h) (Or.inl ⟨by rfl, fun w' hw => ?hy⟩) hHeld ?_
    case hy => (try dsimp only at hw); go_simp
    simp only [Act.put, List.setIfInBounds_toArray, List.set_cons_zero, List.set_cons_succ]
    refine wpAnyH_take (i := 4) (oi := ⟨some 10, _, _, _, _, _⟩) (v := undef) rfl (by kernel_rfl) (by kernel_rfl) (by kernel_rfl) (fun _ _ _ h => h) (Or.inr ⟨by rfl, rfl⟩) hHeld ?_
    simp only [Act.put, List.setIfInBounds_toArray, List.set_cons_zero, List.set_cons_succ]
    refine wpAnyH_take (i := 5) (oi := ⟨some 11, _, _, _, _, _⟩) (v := undef) rfl (by kernel_rfl) (by kernel_rfl) (by kernel_rfl) (fun _ _ _ h => h) (Or.inr ⟨by rfl, rfl⟩) hHeld ?_
    simp only [Act.put, List.setIfInBounds_toArray, List.set_cons_zero, List.set_cons_succ]
    refine wpAnyH_take (i := 6) (oi := ⟨some 12, _, _, _, _, _⟩) (v := undef) rfl (by kernel_rfl) (by kernel_rfl) (by kernel_rfl) (fun _ _ _ h => h) (Or.inr ⟨by rfl, rfl⟩) hHeld ?_
    simp only [Act.put, List.setIfInBounds_toArray, List.set_cons_zero, List.set_cons_succ]
    refine wpAnyH_take (i := 7) (oi := ⟨some 13, _, _, _, _, _⟩) (v := .bool true) rfl (by kernel_rfl) (by kernel_rfl) (by kernel_rfl) (fun _ _ _ h => h) (Or.inl ⟨by rfl, fun w' hw => ?hy⟩) hHeld ?_
    case hy => (try dsimp only at hw); go_simp
    simp only [Act.put, List.setIfInBounds_toArray, List.set_cons_zero, List.set_cons_succ]
    refine wpAnyH_take (i := 8) (oi := ⟨some 14, _, _, _, _, _⟩) (v := .bool true) rfl (by kernel_rfl) (by kernel_rfl) (by kernel_rfl) (fun _ _ _ h => h) (Or.inl ⟨by rfl, fun w' hw => ?hy⟩) hHeld ?_
    case hy => (try dsimp only at hw); go_simp
    simp only [Act.put, List.setIfInBounds_toArray, List.set_cons_zero, List.set_cons_succ]
    refine wpAnyH_take (i := 9) (oi := ⟨some 15, _, _, _, _, _⟩) (v := undef) rfl (by kernel_rfl) (by kernel_rfl) (by kernel_rfl) (fun _ _ _ h => h) (Or.inr ⟨by rfl, rfl⟩) hHeld ?_
    simp only [Act.put, List.setIfInBounds_toArray, List.set_cons_zero, List.set_cons_succ]
    refine wpAnyH_take (i := 10) (oi := ⟨some 16, _, _, _, _, _⟩) (v := undef) rfl (by kernel_rfl) (by kernel_rfl) (by kernel_rfl) (fun _ _ _ h => h) (Or.inr ⟨by rfl, rfl⟩) hHeld ?_
    simp only [Act.put, List.setIfInBounds_toArray, List.set_cons_zero, List.set_cons_succ]
    refine wpAnyH_take (i := 11) (oi := ⟨some 17, _, _, _, _, _⟩) (v := undef) rfl (by kernel_rfl) (by kernel_rfl) (by kernel_rfl) (fun _ _ _ h => h) (Or.inr ⟨by rfl, rfl⟩) hHeld ?_
    simp only [Act.put, List.setIfInBounds_toArray, List.set_cons_zero, List.set_cons_succ]
    refine wpAnyH_take (i := 12) (oi := ⟨some 18, _, _, _, _, _⟩) (v := undef) rfl (by kernel_rfl) (by kernel_rfl) (by kernel_rfl) (fun _ _ _ h => h) (Or.inr ⟨by rfl, rfl⟩) hHeld ?_
    simp only [Act.put, List.setIfInBounds_toArray, List.set_cons_zero, List.set_cons_succ]
    refine wpAnyH_take (i := 13) (oi := ⟨some 19, _, _, _, _, _⟩) (v := undef) rfl (by kernel_rfl) (by kernel_rfl) (by kernel_rfl) (fun _ _ _ h => h) (Or.inr ⟨by rfl, rfl⟩) hHeld ?_
    simp only [Act.put, List.setIfInBounds_toArray, List.set_cons_zero, List.set_cons_succ]
    refine wpAnyH_take (i := 14) (oi := ⟨some 20, _, _, _, _, _⟩) (v := undef) rfl (by kernel_rfl) (by kernel_rfl) (by kernel_rfl) (fun _ _ _ h => h) (Or.inr ⟨by rfl, rfl⟩) hHeld ?_
    simp only [Act.put, List.setIfInBounds_toArray, List.set_cons_zero, List.set_cons_succ]
    refine wpAnyH_take (i := 15) (oi := ⟨some 21, _, _, _, _, _⟩) (v := .bool true) rfl (by kernel_rfl) (by kernel_rfl) (by kernel_rfl) (fun _ _ _ h => h) (Or.inl ⟨by rfl, fun w' hw => ?hy⟩) hHeld ?_
    case hy => (try dsimp only at hw); go_simp
    simp only [Act.put, List.setIfInBounds_toArray, List.set_cons_zero, List.set_cons_succ]
    refine wpAnyH_done (by kernel_rfl) ?_ _
    have K := NtF.bel hHeld
    have F := hHeld.2
    have FC := F.cell
    have FF := F.frozen
    go_wp2
    refine ⟨.bool false, by simp [results, Try.f19, go_sem, (F.set (.bool false)).cell], retB HQ.out.symm, K.setCell (p := ⟨w.heap.size + 1, 0, none⟩) (by simp) _⟩
  | true =>
    by_cases h0 : 0 < zs.length
    rotate_left
    · have hz0 : ((zs.length : Int) == 0) = true := beq_iff_eq.2 (by omega)
      have HQ := Lib.hid (rtB_none (ps := ps) (rs := rs) (zs := zs) (by omega))
      have T : NtF w w.heap.size (w.heap.size + 1) (.slice A ps.length ca) (.slice B rs.length cb) _ := ⟨⟨X.cells.1, X.cells.2.1, K⟩, F⟩
      clear X K F
      refine (callsIn_wide (n := 9)).1 (callsIn_of_wp_marks Try.func19 rfl trivial ?_)
      simp only [Try.ntmps19, List.size_toArray, List.length_cons, List.length_nil, Nat.reduceAdd, Nat.reduceSub, Array.replicate_succ, Array.replicate_zero, List.push_toArray, List.append_toArray, List.nil_append, List.cons_append]
      refine wp_noPanic ?_
      go_wp2_with fail
      refine wp_region_held_drew (S := (fun w' => NtF w w.heap.size (w.heap.size + 1) (.slice A ps.length ca) (.slice B rs.length cb) w')) (by kernel_rfl) ?_ (fun hHeld => ?_)
      · exact NtF.drew T
      clear T
      refine wpAnyH_take (i := 0) (oi := ⟨some 6, _, _, _, _, _⟩) (v := .agg #[.slice A ps.length ca, .slice B rs.length cb]) rfl (by kernel_rfl) (by kernel_rfl) (by kernel_rfl) (fun _ _ _ h => h) (Or.inl ⟨by rfl, fun w' hw => ?hy⟩) hHeld ?_
      case hy => (try dsimp only at hw); go_simp
      simp only [Act.put, List.setIfInBounds_toArray, List.set_cons_zero, List.set_cons_succ]
      refine wpAnyH_ready (rs := [1]) (by kernel_rfl) (by simp) ?_
      refine AllReadyH.cons (o := ⟨some 7, _, _, _, _, _⟩) rfl (fun K hK => ?_) AllReadyH.nil
      go_simp
      refine (implNetOk_any A B ca cb ps rs _ hn hm (ha.below (NtF.bel hHeld)) (hb.below (NtF.bel hHeld))).mono ?_; rintro e w1 ⟨rfl, b1⟩
      go_wp2_with fail
      refine hK.out _ _ ?_ (fun hHeld => ?_)
      · exact NtF.under b1 hHeld
      clear hK K
      try simp only [Act.put, List.setIfInBounds_toArray, List.set_cons_zero, List.set_cons_succ]
      clear b1
      refine wpAnyH_take (i := 2) (oi := ⟨some 8, _, _, _, _, _⟩) (v := .bool false) rfl (by kernel_rfl) (by kernel_rfl) (by kernel_rfl) (fun _ _ _ h => h) (Or.inl ⟨by rfl, fun w' hw => ?hy⟩) hHeld ?_
      case hy => (try dsimp only at hw); go_simp
      simp only [Act.put, List.setIfInBounds_toArray, List.set_cons_zero, List.set_cons_succ]
      refine wpAnyH_take (i := 3) (oi := ⟨some 9, _, _, _, _, _⟩) (v := .bool false) rfl (by kernel_rfl) (by kernel_rfl) (by kernel_rfl) (fun _ _ _ h => h) (Or.inl ⟨by rfl, fun w' hw => ?hy⟩) hHeld ?_
      case hy => (try dsimp only at hw); go_simp
      simp only [Act.put, List.setIfInBounds_toArray, List.set_cons_zero, List.set_cons_succ]
      refine wpAnyH_take (i := 4) (oi := ⟨some 10, _, _, _, _, _⟩) (v := .slice R zs.length cr) rfl (by kernel_rfl) (by kernel_rfl) (by kernel_rfl) (fun _ _ _ h => h) (Or.inl ⟨by rfl, fun w' hw => ?hy⟩) hHeld ?_
      case hy => (try dsimp only at hw); go_simp
      simp only [Act.put, List.setIfInBounds_toArray, List.set_cons_zero, List.set_cons_succ]
      refine wpAnyH_take (i := 5) (oi := ⟨some 11, _, _, _, _, _⟩) (v := .int .i64 zs.length) rfl (by kernel_rfl) (by kernel_rfl) (by kernel_rfl) (fun _ _ _ h => h) (Or.inl ⟨by rfl, fun w' hw => ?hy⟩) hHeld ?_
      case hy => (try dsimp only at hw); go_simp
      simp only [Act.put, List.setIfInBounds_toArray, List.set_cons_zero, List.set_cons_succ]
      refine wpAnyH_take (i := 6) (oi := ⟨some 12, _, _, _, _, _⟩) (v := .bool true) rfl (by kernel_rfl) (by kernel_rfl) (by kernel_rfl) (fun _ _ _ h => h) (Or.inl ⟨by rfl, fun w' hw => ?hy⟩) hHeld ?_
      case hy => (try dsimp only at hw); go_simp
      simp only [Act.put, List.setIfInBounds_toArray, List.set_cons_zero, List.set_cons_succ]
      refine wpAnyH_take (i := 7) (oi := ⟨some 13, _, _, _, _, _⟩) (v := .bool true) rfl (by kernel_rfl) (by kernel_rfl) (by kernel_rfl) (fun _ _ _ h => h) (Or.inl ⟨by rfl, fun w' hw => ?hy⟩) hHeld ?_
      case hy => (try dsimp only at hw); go_simp
      simp only [Act.put, List.setIfInBounds_toArray, List.set_cons_zero, List.set_cons_succ]
      refine wpAnyH_take (i := 8) (oi := ⟨some 14, _, _, _, _, _⟩) (v := .bool true) rfl (by kernel_rfl) (by kernel_rfl) (by kernel_rfl) (fun _ _ _ h => h) (Or.inl ⟨by rfl, fun w' hw => ?hy⟩) hHeld ?_
      case hy => (try dsimp only at hw); go_simp
      simp only [Act.put, List.setIfInBounds_toArray, List.set_cons_zero, List.set_cons_succ]
      refine wpAnyH_take (i := 9) (oi := ⟨some 15, _, _, _, _, _⟩) (v := undef) rfl (by kernel_rfl) (by kernel_rfl) (by kernel_rfl) (fun _ _ _ h => h) (Or.inr ⟨by rfl, rfl⟩) hHeld ?_
      simp only [Act.put, List.setIfInBounds_toArray, List.set_cons_zero, List.set_cons_succ]
      refine wpAnyH_take (i := 10) (oi := ⟨some 16, _, _, _, _, _⟩) (v := undef) rfl (by kernel_rfl) (by kernel_rfl) (by kernel_rfl) (fun _ _ _ h => h) (Or.inr ⟨by rfl, rfl⟩) hHeld ?_
      simp only [Act.put, List.setIfInBounds_toArray, List.set_cons_zero, List.set_cons_succ]
      refine wpAnyH_take (i := 11) (oi := ⟨some 17, _, _, _, _, _⟩) (v := undef) rfl (by kernel_rfl) (by kernel_rfl) (by kernel_rfl) (fun _ _ _ h => h) (Or.inr ⟨by rfl, rfl⟩) hHeld ?_
      simp only [Act.put, List.setIfInBounds_toArray, List.set_cons_zero, List.set_cons_succ]
      refine wpAnyH_take (i := 12) (oi := ⟨some 18, _, _, _, _, _⟩) (v := undef) rfl (by kernel_rfl) (by kernel_rfl) (by kernel_rfl) (fun _ _ _ h => h) (Or.inr ⟨by rfl, rfl⟩) hHeld ?_
      simp only [Act.put, List.setIfInBounds_toArray, List.set_cons_zero, List.set_cons_succ]
      refine wpAnyH_take (i := 13) (oi := ⟨some 19, _, _, _, _, _⟩) (v := undef) rfl (by kernel_rfl) (by kernel_rfl) (by kernel_rfl) (fun _ _ _ h => h) (Or.inr ⟨by rfl, rfl⟩) hHeld ?_
      simp only [Act.put, List.setIfInBounds_toArray, List.set_cons_zero, List.set_cons_succ]
      refine wpAnyH_take (i := 14) (oi := ⟨some 20, _, _, _, _, _⟩) (v := undef) rfl (by kernel_rfl) (by kernel_rfl) (by kernel_rfl) (fun _ _ _ h => h) (Or.inr ⟨by rfl, rfl⟩) hHeld ?_
      simp only [Act.put, List.setIfInBounds_toArray, List.set_cons_zero, List.set_cons_succ]
      refine wpAnyH_take (i := 15) (oi := ⟨some 21, _, _, _, _, _⟩) (v := .bool true) rfl (by kernel_rfl) (by kernel_rfl) (by kernel_rfl) (fun _ _ _ h => h) (Or.inl ⟨by rfl, fun w' hw => ?hy⟩) hHeld ?_
      case hy => (try dsimp only at hw); go_simp
      simp only [Act.put, List.setIfInBounds_toArray, List.set_cons_zero, List.set_cons_succ]
      refine wpAnyH_done (by kernel_rfl) ?_ _
      have K := NtF.bel hHeld
      have F := hHeld.2
      have FC := F.cell
      have FF := F.frozen
      go_wp2
      refine ⟨.bool false, by simp [results, Try.f19, go_sem, (F.set (.bool false)).cell], retB HQ.out.symm, K.setCell (p := ⟨w.heap.size + 1, 0, none⟩) (by simp) _⟩
    · have hz0 : ((zs.length : Int) == 0) = false := beq_eq_false_iff_ne.2 (by omega)
      have hz1 : (0 : Int) < zs.length := by omega
      obtain ⟨zb, zo, rfl, -, z0⟩ := (hi.below K).at_ h0
      rw [Nat.add_zero] at z0
      have T : RtF w w.heap.size (w.heap.size + 1) (.slice A ps.length ca) (.slice B rs.length cb) zb zo (zg zs 0) zo (zg zs 0) _ := ⟨⟨X.cells.1, X.cells.2.1, z0, z0, K⟩, F⟩
      clear X K F z0
      cases h2 : btB (zg zs 0) 0 ((ps.length : Int) - 1) with
      | false =>
        have HQ := Lib.hid (rtB_node (rs := rs) h2)
        refine (callsIn_wide (n := 9)).1 (callsIn_of_wp_marks Try.func19 rfl trivial ?_)
        simp only [Try.ntmps19, List.size_toArray, List.length_cons, List.length_nil, Nat.reduceAdd, Nat.reduceSub, Array.replicate_succ, Array.replicate_zero, List.push_toArray, List.append_toArray, List.nil_append, List.cons_append]
        refine wp_noPanic ?_
        go_wp2_with fail
        refine wp_region_held_drew (S := (fun w' => RtF w w.heap.size (w.heap.size + 1) (.slice A ps.length ca) (.slice B rs.length cb) zb zo (zg zs 0) zo (zg zs 0) w')) (by kernel_rfl) ?_ (fun hHeld => ?_)
        · exact RtF.drew T
        clear T
        refine wpAnyH_take (i := 0) (oi := ⟨some 6, _, _, _, _, _⟩) (v := .agg #[.slice A ps.length ca, .slice B rs.length cb]) rfl (by kernel_rfl) (by kernel_rfl) (by kernel_rfl) (fun _ _ _ h => h) (Or.inl ⟨by rfl, fun w' hw => ?hy⟩) hHeld ?_
        case hy => (try dsimp only at hw); go_simp
        simp only [Act.put, List.setIfInBounds_toArray, List.set_cons_zero, List.set_cons_succ]
        refine wpAnyH_ready (rs := [1]) (by kernel_rfl) (by simp) ?_
        refine AllReadyH.cons (o := ⟨some 7, _, _, _, _, _⟩) rfl (fun K hK => ?_) AllReadyH.nil
        go_simp
        refine (implNetOk_any A B ca cb ps rs _ hn hm (ha.below (RtF.bel hHeld)) (hb.below (RtF.bel hHeld))).mono ?_; rintro e w1 ⟨rfl, b1⟩
        go_wp2_with fail
        refine hK.out _ _ ?_ (fun hHeld => ?_)
        · exact RtF.under b1 hHeld
        clear hK K
        try simp only [Act.put, List.setIfInBounds_toArray, List.set_cons_zero, List.set_cons_succ]
        clear b1
        refine wpAnyH_take (i := 2) (oi := ⟨some 8, _, _, _, _, _⟩) (v := .bool false) rfl (by kernel_rfl) (by kernel_rfl) (by kernel_rfl) (fun _ _ _ h => h) (Or.inl ⟨by rfl, fun w' hw => ?hy⟩) hHeld ?_
        case hy => (try dsimp only at hw); go_simp
        simp only [Act.put, List.setIfInBounds_toArray, List.set_cons_zero, List.set_cons_succ]
        refine wpAnyH_take (i := 3) (oi := ⟨some 9, _, _, _, _, _⟩) (v := .bool false) rfl (by kernel_rfl) (by kernel_rfl) (by kernel_rfl) (fun _ _ _ h => h) (Or.inl ⟨by rfl, fun w' hw => ?hy⟩) hHeld ?_
        case hy => (try dsimp only at hw); go_simp
        simp only [Act.put, List.setIfInBounds_toArray, List.set_cons_zero, List.set_cons_succ]
        refine wpAnyH_take (i := 4) (oi := ⟨some 10, _, _, _, _, _⟩) (v := .slice (some ⟨zb, zo, none⟩) zs.length cr) rfl (by kernel_rfl) (by kernel_rfl) (by kernel_rfl) (fun _ _ _ h => h) (Or.inl ⟨by rfl, fun w' hw => ?hy⟩) hHeld ?_
        case hy => (try dsimp only at hw); go_simp
        simp only [Act.put, List.setIfInBounds_toArray, List.set_cons_zero, List.set_cons_succ]
        refine wpAnyH_take (i := 5) (oi := ⟨some 11, _, _, _, _, _⟩) (v := .int .i64 zs.length) rfl (by kernel_rfl) (by kernel_rfl) (by kernel_rfl) (fun _ _ _ h => h) (Or.inl ⟨by rfl, fun w' hw => ?hy⟩) hHeld ?_
        case hy => (try dsimp only at hw); go_simp
        simp only [Act.put, List.setIfInBounds_toArray, List.set_cons_zero, List.set_cons_succ]
        refine wpAnyH_take (i := 6) (oi := ⟨some 12, _, _, _, _, _⟩) (v := .bool false) rfl (by kernel_rfl) (by kernel_rfl) (by kernel_rfl) (fun _ _ _ h => h) (Or.inl ⟨by rfl, fun w' hw => ?hy⟩) hHeld ?_
        case hy => (try dsimp only at hw); go_simp
        simp only [Act.put, List.setIfInBounds_toArray, List.set_cons_zero, List.set_cons_succ]
        refine wpAnyH_take (i := 7) (oi := ⟨some 13, _, _, _, _, _⟩) (v := .bool false) rfl (by kernel_rfl) (by kernel_rfl) (by kernel_rfl) (fun _ _ _ h => h) (Or.inl ⟨by rfl, fun w' hw => ?hy⟩) hHeld ?_
        case hy => (try dsimp only at hw); go_simp
        simp only [Act.put, List.setIfInBounds_toArray, List.set_cons_zero, List.set_cons_succ]
        refine wpAnyH_take (i := 8) (oi := ⟨some 14, _, _, _, _, _⟩) (v := .bool false) rfl (by kernel_rfl) (by kernel_rfl) (by kernel_rfl) (fun _ _ _ h => h) (Or.inl ⟨by rfl, fun w' hw => ?hy⟩) hHeld ?_
        case hy => (try dsimp only at hw); go_simp
        simp only [Act.put, List.setIfInBounds_toArray, List.set_cons_zero, List.set_cons_succ]
        refine wpAnyH_take (i := 9) (oi := ⟨some 15, _, _, _, _, _⟩) (v := .agg #[.slice A ps.length ca, .slice B rs.length cb]) rfl (by kernel_rfl) (by kernel_rfl) (by kernel_rfl) (fun _ _ _ h => h) (Or.inl ⟨by rfl, fun w' hw => ?hy⟩) hHeld ?_
        case hy => (try dsimp only at hw); go_simp
        simp only [Act.put, List.setIfInBounds_toArray, List.set_cons_zero, List.set_cons_succ]
        refine wpAnyH_take (i := 10) (oi := ⟨some 16, _, _, _, _, _⟩) (v := .slice (some ⟨zb, zo, none⟩) zs.length cr) rfl (by kernel_rfl) (by kernel_rfl) (by kernel_rfl) (fun _ _ _ h => h) (Or.inl ⟨by rfl, fun w' hw => ?hy⟩) hHeld ?_
        case hy => (try dsimp only at hw); go_simp
        simp only [Act.put, List.setIfInBounds_toArray, List.set_cons_zero, List.set_cons_succ]
        refine wpAnyH_take (i := 11) (oi := ⟨some 17, _, _, _, _, _⟩) (v := .pointer (some ⟨zb, zo, none⟩)) rfl (by kernel_rfl) (by kernel_rfl) (by kernel_rfl) (fun _ _ _ h => h) (Or.inl ⟨by rfl, fun w' hw => ?hy⟩) hHeld ?_
        case hy => (try dsimp only at hw); go_simp
        simp only [Act.put, List.setIfInBounds_toArray, List.set_cons_zero, List.set_cons_succ]
        refine wpAnyH_take (i := 12) (oi := ⟨some 18, _, _, _, _, _⟩) (v := .int .i64 (zg zs 0)) rfl (by kernel_rfl) (by kernel_rfl) (by kernel_rfl) (fun _ _ _ h => h) (Or.inl ⟨by rfl, fun w' hw => ?hy⟩) hHeld ?_
        case hy => (try dsimp only at hw); go_simp
        simp only [Act.put, List.setIfInBounds_toArray, List.set_cons_zero, List.set_cons_succ]
        refine wpAnyH_ready (rs := [13]) (by kernel_rfl) (by simp) ?_
        refine AllReadyH.cons (o := ⟨some 19, _, _, _, _, _⟩) rfl (fun K hK => ?_) AllReadyH.nil
        go_simp
        refine (hasNode_any A B ps.length rs.length ca cb _ _).mono ?_; rintro e w2 ⟨rfl, b2⟩
        go_wp2_with fail
        refine hK.out _ _ ?_ (fun hHeld => ?_)
        · exact RtF.under b2 hHeld
        clear hK K
        try simp only [Act.put, List.setIfInBounds_toArray, List.set_cons_zero, List.set_cons_succ]
        clear b2
        refine wpAnyH_take (i := 14) (oi := ⟨some 20, _, _, _, _, _⟩) (v := .bool true) rfl (by kernel_rfl) (by kernel_rfl) (by kernel_rfl) (fun _ _ _ h => h) (Or.inl ⟨by rfl, fun w' hw => ?hy⟩) hHeld ?_
        case hy => (try dsimp only at hw); go_simp
        simp only [Act.put, List.setIfInBounds_toArray, List.set_cons_zero, List.set_cons_succ]
        refine wpAnyH_take (i := 15) (oi := ⟨some 21, _, _, _, _, _⟩) (v := .bool true) rfl (by kernel_rfl) (by kernel_rfl) (by kernel_rfl) (fun _ _ _ h => h) (Or.inl ⟨by rfl, fun w' hw => ?hy⟩) hHeld ?_
        case hy => (try dsimp only at hw); go_simp
        simp only [Act.put, List.setIfInBounds_toArray, List.set_cons_zero, List.set_cons_succ]
        refine wpAnyH_done (by kernel_rfl) ?_ _
        have K := RtF.bel hHeld
        have F := hHeld.2
        have FC := F.cell
        have FF := F.frozen
        go_wp2
        refine ⟨.bool false, by simp [results, Try.f19, go_sem, (F.set (.bool false)).cell], retB HQ.out.symm, K.setCell (p := ⟨w.heap.size + 1, 0, none⟩) (by simp) _⟩
      | true =>
        refine (callsIn_wide (n := 9)).1 (callsIn_of_wp_marks Try.func19 rfl trivial ?_)
        simp only [Try.ntmps19, List.size_toArray, List.length_cons, List.length_nil, Nat.reduceAdd, Nat.reduceSub, Array.replicate_succ, Array.replicate_zero, List.push_toArray, List.append_toArray, List.nil_append, List.cons_append]
        refine wp_noPanic ?_
        go_wp2_with fail
        refine wp_region_held_drew (S := (fun w' => RtF w w.heap.size (w.heap.size + 1) (.slice A ps.length ca) (.slice B rs.length cb) zb zo (zg zs 0) zo (zg zs 0) w')) (by kernel_rfl) ?_ (fun hHeld => ?_)
        · exact RtF.drew T
        clear T
        refine wpAnyH_take (i := 0) (oi := ⟨some 6, _, _, _, _, _⟩) (v := .agg #[.slice A ps.length ca, .slice B rs.length cb]) rfl (by kernel_rfl) (by kernel_rfl) (by kernel_rfl) (fun _ _ _ h => h) (Or.inl ⟨by rfl, fun w' hw => ?hy⟩) hHeld ?_
        case hy => (try dsimp only at hw); go_simp
        simp only [Act.put, List.setIfInBounds_toArray, List.set_cons_zero, List.set_cons_succ]
        refine wpAnyH_ready (rs := [1]) (by kernel_rfl) (by simp) ?_
        refine AllReadyH.cons (o := ⟨some 7, _, _, _, _, _⟩) rfl (fun K hK => ?_) AllReadyH.nil
        go_simp
        refine (implNetOk_any A B ca cb ps rs _ hn hm (ha.below (RtF.bel hHeld)) (hb.below (RtF.bel hHeld))).mono ?_; rintro e w1 ⟨rfl, b1⟩
        go_wp2_with fail
        refine hK.out _ _ ?_ (fun hHeld => ?_)
        · exact RtF.under b1 hHeld
        clear hK K
        try simp only [Act.put, List.setIfInBounds_toArray, List.set_cons_zero, List.set_cons_succ]
        clear b1
        refine wpAnyH_take (i := 2) (oi := ⟨some 8, _, _, _, _, _⟩) (v := .bool false) rfl (by kernel_rfl) (by kernel_rfl) (by kernel_rfl) (fun _ _ _ h => h) (Or.inl ⟨by rfl, fun w' hw => ?hy⟩) hHeld ?_
        case hy => (try dsimp only at hw); go_simp
        simp only [Act.put, List.setIfInBounds_toArray, List.set_cons_zero, List.set_cons_succ]
        refine wpAnyH_take (i := 3) (oi := ⟨some 9, _, _, _, _, _⟩) (v := .bool false) rfl (by kernel_rfl) (by kernel_rfl) (by kernel_rfl) (fun _ _ _ h => h) (Or.inl ⟨by rfl, fun w' hw => ?hy⟩) hHeld ?_
        case hy => (try dsimp only at hw); go_simp
        simp only [Act.put, List.setIfInBounds_toArray, List.set_cons_zero, List.set_cons_succ]
        refine wpAnyH_take (i := 4) (oi := ⟨some 10, _, _, _, _, _⟩) (v := .slice (some ⟨zb, zo, none⟩) zs.length cr) rfl (by kernel_rfl) (by kernel_rfl) (by kernel_rfl) (fun _ _ _ h => h) (Or.inl ⟨by rfl, fun w' hw => ?hy⟩) hHeld ?_
        case hy => (try dsimp only at hw); go_simp
        simp only [Act.put, List.setIfInBounds_toArray, List.set_cons_zero, List.set_cons_succ]
        refine wpAnyH_take (i := 5) (oi := ⟨some 11, _, _, _, _, _⟩) (v := .int .i64 zs.length) rfl (by kernel_rfl) (by kernel_rfl) (by kernel_rfl) (fun _ _ _ h => h) (Or.inl ⟨by rfl, fun w' hw => ?hy⟩) hHeld ?_
        case hy => (try dsimp only at hw); go_simp
        simp only [Act.put, List.setIfInBounds_toArray, List.set_cons_zero, List.set_cons_succ]
        refine wpAnyH_take (i := 6) (oi := ⟨some 12, _, _, _, _, _⟩) (v := .bool false) rfl (by kernel_rfl) (by kernel_rfl) (by kernel_rfl) (fun _ _ _ h => h) (Or.inl ⟨by rfl, fun w' hw => ?hy⟩) hHeld ?_
        case hy => (try dsimp only at hw); go_simp
        simp only [Act.put, List.setIfInBounds_toArray, List.set_cons_zero, List.set_cons_succ]
        refine wpAnyH_take (i := 7) (oi := ⟨some 13, _, _, _, _, _⟩) (v := .bool false) rfl (by kernel_rfl) (by kernel_rfl) (by kernel_rfl) (fun _ _ _ h => h) (Or.inl ⟨by rfl, fun w' hw => ?hy⟩) hHeld ?_
        case hy => (try dsimp only at hw); go_simp
        simp only [Act.put, List.setIfInBounds_toArray, List.set_cons_zero, List.set_cons_succ]
        refine wpAnyH_take (i := 8) (oi := ⟨some 14, _, _, _, _, _⟩) (v := .bool false) rfl (by kernel_rfl) (by kernel_rfl) (by kernel_rfl) (fun _ _ _ h => h) (Or.inl ⟨by rfl, fun w' hw => ?hy⟩) hHeld ?_
        case hy => (try dsimp only at hw); go_simp
        simp only [Act.put, List.setIfInBounds_toArray, List.set_cons_zero, List.set_cons_succ]
        refine wpAnyH_take (i := 9) (oi := ⟨some 15, _, _, _, _, _⟩) (v := .agg #[.slice A ps.length ca, .slice B rs.length cb]) rfl (by kernel_rfl) (by kernel_rfl) (by kernel_rfl) (fun _ _ _ h => h) (Or.inl ⟨by rfl, fun w' hw => ?hy⟩) hHeld ?_
        case hy => (try dsimp only at hw); go_simp
        simp only [Act.put, List.setIfInBounds_toArray, List.set_cons_zero, List.set_cons_succ]
        refine wpAnyH_take (i := 10) (oi := ⟨some 16, _, _, _, _, _⟩) (v := .slice (some ⟨zb, zo, none⟩) zs.length cr) rfl (by kernel_rfl) (by kernel_rfl) (by kernel_rfl) (fun _ _ _ h => h) (Or.inl ⟨by rfl, fun w' hw => ?hy⟩) hHeld ?_
        case hy => (try dsimp only at hw); go_simp
        simp only [Act.put, List.setIfInBounds_toArray, List.set_cons_zero, List.set_cons_succ]
        refine wpAnyH_take (i := 11) (oi := ⟨some 17, _, _, _, _, _⟩) (v := .pointer (some ⟨zb, zo, none⟩)) rfl (by kernel_rfl) (by kernel_rfl) (by kernel_rfl) (fun _ _ _ h => h) (Or.inl ⟨by rfl, fun w' hw => ?hy⟩) hHeld ?_
        case hy => (try dsimp only at hw); go_simp
        simp only [Act.put, List.setIfInBounds_toArray, List.set_cons_zero, List.set_cons_succ]
        refine wpAnyH_take (i := 12) (oi := ⟨some 18, _, _, _, _, _⟩) (v := .int .i64 (zg zs 0)) rfl (by kernel_rfl) (by kernel_rfl) (by kernel_rfl) (fun _ _ _ h => h) (Or.inl ⟨by rfl, fun w' hw => ?hy⟩) hHeld ?_
        case hy => (try dsimp only at hw); go_simp
        simp only [Act.put, List.setIfInBounds_toArray, List.set_cons_zero, List.set_cons_succ]
        refine wpAnyH_ready (rs := [13]) (by kernel_rfl) (by simp) ?_
        refine AllReadyH.cons (o := ⟨some 19, _, _, _, _, _⟩) rfl (fun K hK => ?_) AllReadyH.nil
        go_simp
        refine (hasNode_any A B ps.length rs.length ca cb _ _).mono ?_; rintro e w2 ⟨rfl, b2⟩
        go_wp2_with fail
        refine hK.out _ _ ?_ (fun hHeld => ?_)
        · exact RtF.under b2 hHeld
        clear hK K
        try simp only [Act.put, List.setIfInBounds_toArray, List.set_cons_zero, List.set_cons_succ]
        clear b2
        refine wpAnyH_take (i := 14) (oi := ⟨some 20, _, _, _, _, _⟩) (v := .bool false) rfl (by kernel_rfl) (by kernel_rfl) (by kernel_rfl) (fun _ _ _ h => h) (Or.inl ⟨by rfl, fun w' hw => ?hy⟩) hHeld ?_
        case hy => (try dsimp only at hw); go_simp
        simp only [Act.put, List.setIfInBounds_toArray, List.set_cons_zero, List.set_cons_succ]
        refine wpAnyH_take (i := 15) (oi := ⟨some 21, _, _, _, _, _⟩) (v := .bool false) rfl (by kernel_rfl) (by kernel_rfl) (by kernel_rfl) (fun _ _ _ h => h) (Or.inl ⟨by rfl, fun w' hw => ?hy⟩) hHeld ?_
        case hy => (try dsimp only at hw); go_simp
        simp only [Act.put, List.setIfInBounds_toArray, List.set_cons_zero, List.set_cons_succ]
        refine wpAnyH_done (by kernel_rfl) ?_ _
        obtain ⟨hN, F⟩ := hHeld
        obtain ⟨x0, x1, -, -, K⟩ := hN
        go_wp2_with fail
        refine (arcsAlong_any A B _ ps.length rs.length zs.length ca cb cr _).mono ?_; rintro e w3 ⟨rfl, hw3⟩
        have hs2 := K.size
        have hx2 := F.lt
        obtain ⟨y0, y1, -, -⟩ := ((Pair.new w2 27 (.slice A ps.length ca) (.slice B rs.length cb)).alloc (.cells #[.slice (some ⟨zb, zo, none⟩) zs.length cr] 30)).cells
        have y2 := (Boxed.new (w2.alloc (.cells #[.slice A ps.length ca, .slice B rs.length cb] 27)) 30 (.slice (some ⟨zb, zo, none⟩) zs.length cr)).cell
        have F3 := (F.alloc (.cells #[.slice A ps.length ca, .slice B rs.length cb] 27)).alloc (.cells #[.slice (some ⟨zb, zo, none⟩) zs.length cr] 30)
        have K3 := K.trans ((below2 w2 (.cells #[.slice A ps.length ca, .slice B rs.length cb] 27) (.cells #[.slice (some ⟨zb, zo, none⟩) zs.length cr] 30)).mono K.size)
        have hs3 : w3.heap.size = w2.heap.size + 2 := by rw [hw3]; simp
        rw [World.size_alloc] at y2
        rw [← hw3] at y0 y1 y2 F3 K3
        have HQ1 := Lib.hid h1
        clear hw3 F x0 x1 K hHeld
        go_wp2_with fail
        refine wpIn_wide.1 (wpIn_rangeFunc_ownF (n := 9) rfl (by omega) (gf := 112) (lb := #[.pointer (some ⟨w2.heap.size + 1, 0, none⟩), .pointer (some ⟨w2.heap.size, 0, none⟩)]) rfl trivial (enters_of Try.func112 (by kernel_rfl) rfl)
          (along_stops (arcK rs zs) (fun x => x) 8 w2.heap.size (w2.heap.size + 1) A B ca cb _ cr ps rs zs hn hm hz (fun k _ => (arcAt_net HQ1.out _ _).symm) (w.heap.size + 1) w w3 K3 (by omega) F3.lt (fun u v e => by have := F3.symm.trans e; simp at this; rw [← this.1]; rfl) (by omega) (by omega) y0 y1 y2 ha hb hi)
          (fun h k => Kpt.trans h k) (fun W l o o' hl h hc _ => Kpt.putObj o' h hc (by omega)) (Below.refl _ _) (fun _ => rfl)
          (fun pre W => ((∀ y ∈ pre, y ≠ -1) ∧ Boxed W (w.heap.size + 1) 4 (.bool false)) ∧ Below w.heap.size w W)
          (fun c pre W => ((c = .ret ∧ (-1 : Int) ∈ pre) ∧ Boxed W (w.heap.size + 1) 4 (.bool false)) ∧ Below w.heap.size w W)
          (OwnFrom.and (OwnFrom.and (ownFrom_pure _ (fun pre => ∀ y ∈ pre, y ≠ -1)) (Own.from (boxed_own _ _ _) _)) (ownFrom_below (Nat.le_refl _) (by omega)))
          (fun c => OwnFrom.and (OwnFrom.and (ownFrom_pure _ (fun pre => c = .ret ∧ (-1 : Int) ∈ pre)) (Own.from (boxed_own _ _ _) _)) (ownFrom_below (Nat.le_refl _) (by omega)))
          ⟨⟨by simp, F3⟩, K3⟩
          (fun x => { tmps := #[.agg #[.slice A ps.length ca, .slice B rs.length cb], .slice (some ⟨zb, zo, none⟩) zs.length cr, .pointer (some ⟨w.heap.size, 0, none⟩), undef, .pointer (some ⟨w.heap.size + 1, 0, none⟩), .int .i64 x,
            .agg #[.slice A ps.length ca, .slice B rs.length cb], .bool true, .bool false, .bool false, .slice (some ⟨zb, zo, none⟩) zs.length cr, .int .i64 zs.length, .bool false, .bool false, .bool false, .agg #[.slice A ps.length ca, .slice B rs.length cb],
            .slice (some ⟨zb, zo, none⟩) zs.length cr, .pointer (some ⟨zb, zo, none⟩), .int .i64 (zg zs 0), .bool true, .bool false, .bool false, .agg #[.slice A ps.length ca, .slice B rs.length cb], .slice (some ⟨zb, zo, none⟩) zs.length cr,
            .func (.func 112) #[] #[.pointer (some ⟨w2.heap.size + 1, 0, none⟩), .pointer (some ⟨w2.heap.size, 0, none⟩)], .int .i64 x, undef, undef], defers := [] }) ?assign ?body ?done ?stop)
        case assign =>
          intro l x W K hK
          gi_wp2
          exact hK
        case body =>
          rintro l pre x W ⟨⟨hp, hF⟩, hB⟩ _
          have hFc := hF.cell
          have hFf := hF.frozen
          by_cases hx : x = -1
          · subst hx
            gi_wp2
            exact ⟨KeepsOthers.setCell _ _ _, ⟨⟨rfl, by simp⟩, hF.set _⟩, hB.setCell (p := ⟨w.heap.size + 1, 0, none⟩) (by simp) _⟩
          · have hx' : (x == -1) = false := beq_eq_false_iff_ne.2 hx
            gi_wp2
            exact ⟨KeepsOthers.refl _, Kpt.refl _ _, ⟨fun y hy => (List.mem_append.1 hy).elim (hp y) (fun e => by simp at e; rw [e]; exact hx), hF⟩, hB⟩
        case done =>
          rintro D ys W hD rfl ⟨⟨hne, hF⟩, hB⟩ hK
          have hFc := hF.cell
          have hFf := hF.frozen
          go_wp2
          have hK' := (KeepsOthers.setCell W ⟨w.heap.size + 1, 0, none⟩ (.bool true)).same D _ hK rfl
          have hF' := (hF.set (.bool true)).kept (grownBy_putObj' _ D (.deferred none)) (fun e => by cases e; omega)
          refine (show LeavesInM _ _ _ _ _ _ _ _ _ from ⟨by simp, .inl ⟨D, _, rfl, run_takeDeferred hK', ?_⟩⟩)
          refine ⟨.bool true, by simp [results, Try.f19, go_sem, hF'.cell], retB (rtB_iff.2 ⟨h1, h0, h2, fun k hk => hne _ (List.mem_map.2 ⟨k, List.mem_range.2 (by omega), rfl⟩)⟩).symm, (hB.setCell (p := ⟨w.heap.size + 1, 0, none⟩) (by simp) _).trans (belowK_b (w := w) (Nat.le_refl _) _ D _ _ (by omega) hK' rfl rfl)⟩
        case stop =>
          rintro D c pre W hD ⟨k, hk, rfl⟩ ⟨⟨⟨rfl, hin⟩, hF⟩, hB⟩ hK
          refine wpIn_wide.2 ?_
          go_wp2
          have hF' := hF.kept (grownBy_putObj' W D (.deferred none)) (fun e => by cases e; omega)
          refine (show LeavesInM _ _ _ _ _ _ _ _ _ from ⟨by simp, .inl ⟨D, _, rfl, run_takeDeferred hK, ?_⟩⟩)
          have hQ : rtB ps rs zs = false := by
            obtain ⟨i, hi', e⟩ := List.mem_map.1 hin
            exact rtB_arc (k := i) (by have := List.mem_range.1 hi'; omega) e
          refine ⟨.bool false, by simp [results, Try.f19, go_sem, hF'.cell], retB hQ.symm, hB.trans (belowK_b (w := w) (Nat.le_refl _) _ D _ _ (by omega) hK rfl rfl)⟩

end Go.Proofs.Ytdobiapnkdgjoaa
