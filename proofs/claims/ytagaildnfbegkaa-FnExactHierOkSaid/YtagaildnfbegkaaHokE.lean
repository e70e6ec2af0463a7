/-
  What (impl.ladder).explains answers.
-/
import Derived.Test.YtagaildnfbegkaaHokL
namespace Go.Proofs.Ytagaildnfbegkaa
open Go.RowKit Go.Deep Go.Maps

section
variable {rs : List A3} {zs : List Int} {hs : List A4} {a : A4}
theorem expl_own (h : a.2.2.2 = -1) : explP rs zs hs a ↔ ∃ k, k < rs.length ∧ arg rs k = (a.1, a.2.1, a.2.2.1) := by unfold explP; rw [if_pos h]
theorem expl_node (h : a.2.2.2 ≠ -1) (k : btB a.2.2.2 0 ((zs.length : Int) - 1) = false) : ¬ explP rs zs hs a := by
  unfold explP; rw [if_neg h]; rintro ⟨e, -⟩; rw [k] at e; cases e
theorem expl_rank (h : a.2.2.2 ≠ -1) {V F T : Nat} (e1 : a.1 = (F : Int)) (e2 : a.2.1 = (T : Int)) (e3 : a.2.2.2 = (V : Int)) (k : ¬ (zg zs V < zg zs F ∧ zg zs V < zg zs T)) : ¬ explP rs zs hs a := by
  unfold explP; rw [if_neg h, e1, e2, e3]; rintro ⟨-, q1, q2, -⟩; exact k ⟨q1, q2⟩
theorem expl_in (h : a.2.2.2 ≠ -1) {V F : Nat} (e1 : a.1 = (F : Int)) (e3 : a.2.2.2 = (V : Int)) (k : lastH hs F V hs.length = none) : ¬ explP rs zs hs a := by
  unfold explP; rw [if_neg h, e1, e3]; rintro ⟨-, -, -, i, j, hi, hj, q1, q2, -⟩
  rw [lastH_none k i hi] at q1; cases q1
theorem expl_out (h : a.2.2.2 ≠ -1) {V T : Nat} (e2 : a.2.1 = (T : Int)) (e3 : a.2.2.2 = (V : Int)) (k : lastH hs V T hs.length = none) : ¬ explP rs zs hs a := by
  unfold explP; rw [if_neg h, e2, e3]; rintro ⟨-, -, -, i, j, hi, hj, q1, q2, -⟩
  rw [lastH_none k j hj] at q2; cases q2
theorem expl_sum (h : a.2.2.2 ≠ -1) (hb : btB a.2.2.2 0 ((zs.length : Int) - 1) = true) {V F T i j : Nat} (e1 : a.1 = (F : Int)) (e2 : a.2.1 = (T : Int)) (e3 : a.2.2.2 = (V : Int)) (k : zg zs V < zg zs F ∧ zg zs V < zg zs T)
    (h1 : lastH hs F V hs.length = some i) (h2 : lastH hs V T hs.length = some j) (ha : hasc hs hs.length) : explP rs zs hs a ↔ (hcg hs i).2.2.1 + (hcg hs j).2.2.1 = a.2.2.1 := by
  have q1 := lastH_some h1
  have q2 := lastH_some h2
  unfold explP; rw [if_neg h, e1, e2]
  constructor
  · rintro ⟨-, -, -, i', j', hi, hj, r1, r2, r3⟩
    rw [e3] at r1 r2
    rw [hasc_one ha hi q1.1 r1 q1.2, hasc_one ha hj q2.1 r2 q2.2] at r3
    exact r3
  · intro r
    refine ⟨hb, by rw [e3]; exact k.1, by rw [e3]; exact k.2, i, j, q1.1, q2.1, by rw [e3]; exact q1.2, by rw [e3]; exact q2.2, r⟩
end

/-- The arc and the network in their boxes, and nothing older has turned. -/
abbrev ExS (W0 : World) (q x : Nat) (f t l v : Int) (s u : Value) (w : World) : Prop :=
  w.cell? ⟨q, 0, none⟩ = some (.int .i64 f) ∧ w.cell? ⟨q, 1, none⟩ = some (.int .i64 t) ∧ w.cell? ⟨q, 2, none⟩ = some (.int .i64 l) ∧ w.cell? ⟨q, 3, none⟩ = some (.int .i64 v) ∧ w.cell? ⟨x, 0, none⟩ = some s ∧ w.cell? ⟨x, 1, none⟩ = some u ∧ Below W0.heap.size W0 w
section
variable {W0 w w' : World} {q x : Nat} {f t l v : Int} {s u : Value}
theorem ExS.under (hb : Below w.heap.size w w') (h : ExS W0 q x f t l v s u w) : ExS W0 q x f t l v s u w' :=
  ⟨cell_under hb h.1, cell_under hb h.2.1, cell_under hb h.2.2.1, cell_under hb h.2.2.2.1, cell_under hb h.2.2.2.2.1, cell_under hb h.2.2.2.2.2.1, h.2.2.2.2.2.2.trans (hb.mono h.2.2.2.2.2.2.size)⟩
theorem ExS.drew (h : ExS W0 q x f t l v s u w) : ExS W0 q x f t l v s u w.drew := ExS.under (Below.refl _ _).drew h
theorem ExS.bel (h : ExS W0 q x f t l v s u w) : Below W0.heap.size W0 w := h.2.2.2.2.2.2
end

set_option maxRecDepth 1000000 in
set_option maxHeartbeats 8000000 in
theorem explains_any (R B N Ar : Option Addr) (cr cn ca ob b off nn : Nat) (rs : List A3) (zs : List Int) (hs : List A4) (i : Nat) (w : World) (hz : zs.length ≤ 20) (hnn : nn = zs.length) (hm : rs.length ≤ 1048576) (hh : hs.length ≤ 1048576) (hi : i < hs.length)
    (hok : hok zs.length hs) (hR : IsInts w R zs) (hH : IsHs w B hs) (hB : 0 < hs.length → B = some ⟨b, off, none⟩) (LR : LadRow w ob zs.length b off hs hs.length) (hA : IsArcs w Ar rs) :
    Calls Try.prog 57 #[.agg #[.slice R zs.length cr, .slice (some ⟨ob, 0, none⟩) zs.length zs.length], .agg #[.int .i64 (hcg hs i).1, .int .i64 (hcg hs i).2.1, .int .i64 (hcg hs i).2.2.1, .int .i64 (hcg hs i).2.2.2], .agg #[.slice N nn cn, .slice Ar rs.length ca]] w
      fun e w' => ∃ bo : Bool, e = .returned (.bool bo) ∧ (hasc hs hs.length → (bo = true ↔ explP rs zs hs (hcg hs i))) ∧ Below w.heap.size w w' := by
  subst hnn
  have HOK := Lib.hid hok
  obtain ⟨⟨f0, f1⟩, ⟨t0, t1⟩, l0, l1⟩ := hok i hi
  have hBe := hB (by omega)
  subst hBe
  obtain ⟨F, hF⟩ : ∃ F : Nat, (hcg hs i).1 = (F : Int) := ⟨(hcg hs i).1.toNat, by omega⟩
  obtain ⟨T, hT⟩ : ∃ T : Nat, (hcg hs i).2.1 = (T : Int) := ⟨(hcg hs i).2.1.toNat, by omega⟩
  have hFn : F < zs.length := by omega
  have hTn : T < zs.length := by omega
  have HHS := Lib.hid hH
  have HE0 := Lib.hid (fun h => expl_own (rs := rs) (zs := zs) (hs := hs) (a := hcg hs i) h)
  have HE1 := Lib.hid (fun h k => expl_node (rs := rs) (zs := zs) (hs := hs) (a := hcg hs i) h k)
  have HE2 := Lib.hid (fun h V e3 k => expl_rank (rs := rs) (zs := zs) (hs := hs) (a := hcg hs i) (V := V) h hF hT e3 k)
  have HE3 := Lib.hid (fun h V e3 k => expl_in (rs := rs) (zs := zs) (hs := hs) (a := hcg hs i) (V := V) h hF e3 k)
  have HE4 := Lib.hid (fun h V e3 k => expl_out (rs := rs) (zs := zs) (hs := hs) (a := hcg hs i) (V := V) h hT e3 k)
  have HE5 := Lib.hid (fun h hb V x y e3 k h1 h2 ha => expl_sum (rs := rs) (zs := zs) (hs := hs) (a := hcg hs i) (V := V) (i := x) (j := y) h hb hF hT e3 k h1 h2 ha)
  rw [hF, hT] at HE0 ⊢
  generalize explP rs zs hs (hcg hs i) = E at *
  generalize (hcg hs i).2.2.1 = l at *
  generalize (hcg hs i).2.2.2 = v at *
  clear hF hT f0 f1 t0 t1 hok hB
  have L := ((Pair.new w 91 (.slice R zs.length cr) (.slice (some ⟨ob, 0, none⟩) zs.length zs.length)).alloc (.cells #[.int .i64 (F : Int), .int .i64 (T : Int), .int .i64 l, .int .i64 v] 77)).alloc (.cells #[.slice N zs.length cn, .slice Ar rs.length ca] 49)
  have Q0 : (w.alloc (.cells #[.slice R zs.length cr, .slice (some ⟨ob, 0, none⟩) zs.length zs.length] 91)).heap.size = w.heap.size + 1 := World.size_alloc _ _
  have Q : QuadH (((w.alloc (.cells #[.slice R zs.length cr, .slice (some ⟨ob, 0, none⟩) zs.length zs.length] 91)).alloc (.cells #[.int .i64 (F : Int), .int .i64 (T : Int), .int .i64 l, .int .i64 v] 77)).alloc (.cells #[.slice N zs.length cn, .slice Ar rs.length ca] 49)) (w.heap.size + 1) 77 (.int .i64 (F : Int)) (.int .i64 (T : Int)) (.int .i64 l) (.int .i64 v) := by
    have h := heap_alloc_new (w.alloc (.cells #[.slice R zs.length cr, .slice (some ⟨ob, 0, none⟩) zs.length zs.length] 91)) (.cells #[.int .i64 (F : Int), .int .i64 (T : Int), .int .i64 l, .int .i64 v] 77)
    rw [Q0] at h
    exact ((below1 _ (.cells #[.slice N zs.length cn, .slice Ar rs.length ca] 49)).block _ (by rw [World.size_alloc, Q0]; omega)).trans h
  have X : Pair (((w.alloc (.cells #[.slice R zs.length cr, .slice (some ⟨ob, 0, none⟩) zs.length zs.length] 91)).alloc (.cells #[.int .i64 (F : Int), .int .i64 (T : Int), .int .i64 l, .int .i64 v] 77)).alloc (.cells #[.slice N zs.length cn, .slice Ar rs.length ca] 49)) (w.heap.size + 2) 49 (.slice N zs.length cn) (.slice Ar rs.length ca) := by
    have h := Pair.new ((w.alloc (.cells #[.slice R zs.length cr, .slice (some ⟨ob, 0, none⟩) zs.length zs.length] 91)).alloc (.cells #[.int .i64 (F : Int), .int .i64 (T : Int), .int .i64 l, .int .i64 v] 77)) 49 (.slice N zs.length cn) (.slice Ar rs.length ca)
    rw [World.size_alloc, Q0] at h
    exact h
  have K : Below w.heap.size w (((w.alloc (.cells #[.slice R zs.length cr, .slice (some ⟨ob, 0, none⟩) zs.length zs.length] 91)).alloc (.cells #[.int .i64 (F : Int), .int .i64 (T : Int), .int .i64 l, .int .i64 v] 77)).alloc (.cells #[.slice N zs.length cn, .slice Ar rs.length ca] 49)) := by
    have k := below2 w (.cells #[.slice R zs.length cr, .slice (some ⟨ob, 0, none⟩) zs.length zs.length] 91) (.cells #[.int .i64 (F : Int), .int .i64 (T : Int), .int .i64 l, .int .i64 v] 77)
    exact k.alloc k.size _
  clear Q0
  obtain ⟨l0', l1', -, -⟩ := L.cells
  obtain ⟨q0, q1, q2, q3⟩ := Q.cells
  obtain ⟨x0, x1, -, -⟩ := X.cells
  by_cases hv : v = -1
  · have HE := Lib.hid (HE0.out hv)
    clear HE0 HE1 HE2 HE3 HE4 HE5
    subst hv
    have S0 : ExS w (w.heap.size + 1) (w.heap.size + 2) (F : Int) (T : Int) l (-1) (.slice N zs.length cn) (.slice Ar rs.length ca) _ := ⟨q0, q1, q2, q3, x0, x1, K⟩
    clear L Q X
    obtain ⟨W, hW⟩ : ∃ W, W = (((w.alloc (.cells #[.slice R zs.length cr, .slice (some ⟨ob, 0, none⟩) zs.length zs.length] 91)).alloc (.cells #[.int .i64 (F : Int), .int .i64 (T : Int), .int .i64 l, .int .i64 (-1)] 77)).alloc (.cells #[.slice N zs.length cn, .slice Ar rs.length ca] 49)) := ⟨_, rfl⟩
    have HW := Lib.hid hW
    go_enter Try.func57, Try.ntmps57
    go_wp2_with fail
    rw [← hW] at S0 ⊢
    clear hW l0' l1' q0 q1 q2 q3 x0 x1 K
    go_region_held3 (fun w' => ExS w (w.heap.size + 1) (w.heap.size + 2) (F : Int) (T : Int) l (-1) (.slice N zs.length cn) (.slice Ar rs.length ca) w')
      (first | exact ExS.drew S0 | assumption | (refine ExS.under (by assumption) ?_; assumption))
      (first
        | (go_at_call 55; refine (plain_any _ _ _ _ _).mono ?_; rintro e w3 ⟨rfl, b3⟩)
        | (go_at_call 85; refine (containsArc_any Ar ca rs _ _ _ _ hm (hA.below (ExS.bel (by assumption)))).mono ?_; rintro e w4 ⟨bo, rfl, hbo, b4⟩))
    rename_i hU
    have HBO := Lib.hid hbo
    have KE := ExS.bel hU
    clear hU hbo b3 b4 S0 HW
    go_wp2
    go_ret
    exact ⟨bo, rfl, fun _ => HBO.out.trans HE.out.symm, KE⟩
  · have hv1 : (v == -1) = false := by simpa using hv
    cases hnd : btB v 0 ((zs.length : Int) - 1) with
    | false =>
      have HE := Lib.hid (HE1.out hv hnd)
      have HN := Lib.hid hnd
      clear HE0 HE1 HE2 HE3 HE4 HE5 hnd hv L Q X
      go_enter Try.func57, Try.ntmps57
      go_wp2_with fail
      refine (hasNode_any N Ar zs.length rs.length cn ca v _).mono ?_; rw [HN.out]; rintro e w1 ⟨rfl, b1⟩
      go_wp2
      go_ret
      exact ⟨false, rfl, fun _ => ⟨fun e => (by cases e), fun e => absurd e HE.out⟩, K.trans (b1.mono K.size)⟩
    | true =>
      obtain ⟨V, rfl, hVn⟩ := node_is hnd
      have HN := Lib.hid hnd
      have HE2' := Lib.hid (HE2.out hv V rfl)
      have HE3' := Lib.hid (HE3.out hv V rfl)
      have HE4' := Lib.hid (HE4.out hv V rfl)
      have HE5' := Lib.hid (fun x y => HE5.out hv hnd V x y rfl)
      clear HE0 HE1 HE2 HE3 HE4 HE5 hv hnd
      have S0 : ExS w (w.heap.size + 1) (w.heap.size + 2) (F : Int) (T : Int) l (V : Int) (.slice N zs.length cn) (.slice Ar rs.length ca) _ := ⟨q0, q1, q2, q3, x0, x1, K⟩
      clear Q X K
      cases hbl : decide (zg zs V < zg zs F ∧ zg zs V < zg zs T) with
      | false =>
        have HBL := Lib.hid hbl
        have HE := Lib.hid (HE2'.out (of_decide_eq_false hbl))
        clear HE2' HE3' HE4' HE5' hbl
        go_enter Try.func57, Try.ntmps57
        go_wp2_with fail
        refine (hasNode_any N Ar zs.length rs.length cn ca (V : Int) _).mono ?_; rw [HN.out]; rintro e w1 ⟨rfl, b1⟩
        have S1 := ExS.under b1 S0
        have L1 := L.below b1
        clear S0 L l0' l1' q0 q1 q2 q3 x0 x1 b1
        obtain ⟨q0, q1, q2, q3, x0, x1, K1⟩ := S1
        obtain ⟨l0', l1', -, -⟩ := L1.cells
        go_wp2_with fail
        refine (isBelow_any R (some ⟨ob, 0, none⟩) cr zs.length zs.length zs V F T _ (by omega) hVn hFn hTn (hR.below K1)).mono ?_; rw [HBL.out]; rintro e w2 ⟨rfl, b2⟩
        have K2 := K1.trans (b2.mono K1.size)
        go_wp2
        go_ret
        exact ⟨false, rfl, fun _ => ⟨fun e => (by cases e), fun e => absurd e HE.out⟩, K2⟩
      | true =>
        have HBL := Lib.hid hbl
        have HBB := Lib.hid (of_decide_eq_true hbl)
        clear HE2' hbl
        go_enter Try.func57, Try.ntmps57
        go_wp2_with fail
        refine (hasNode_any N Ar zs.length rs.length cn ca (V : Int) _).mono ?_; rw [HN.out]; rintro e w1 ⟨rfl, b1⟩
        have S1 := ExS.under b1 S0
        have L1 := L.below b1
        clear S0 L l0' l1' q0 q1 q2 q3 x0 x1 b1
        obtain ⟨q0, q1, q2, q3, x0, x1, K1⟩ := S1
        obtain ⟨l0', l1', -, -⟩ := L1.cells
        go_wp2_with fail
        refine (isBelow_any R (some ⟨ob, 0, none⟩) cr zs.length zs.length zs V F T _ (by omega) hVn hFn hTn (hR.below K1)).mono ?_; rw [HBL.out]; rintro e w2 ⟨rfl, b2⟩
        have L2 := L1.below b2
        have S2 : ExS w (w.heap.size + 1) (w.heap.size + 2) (F : Int) (T : Int) l (V : Int) (.slice N zs.length cn) (.slice Ar rs.length ca) w2 := ExS.under b2 ⟨q0, q1, q2, q3, x0, x1, K1⟩
        clear l0' l1' q0 q1 q2 q3 x0 x1 b2 L1 K1
        obtain ⟨q0, q1, q2, q3, x0, x1, K2⟩ := S2
        obtain ⟨l0', l1', -, -⟩ := L2.cells
        have LR2 := LR.below K2
        have o1 := LR2.outer.cell hFn
        have i1 := (LR2.inner F hFn).cell hVn
        have o2 := LR2.outer.cell hVn
        have i2 := (LR2.inner V hVn).cell hTn
        have hFi : (F : Int) < zs.length := by omega
        have hTi : (T : Int) < zs.length := by omega
        have hVi : (V : Int) < zs.length := by omega
        cases h1 : lastH hs F V hs.length with
        | none =>
          have HE := Lib.hid (HE3'.out h1)
          rw [h1] at i1
          replace i1 : w2.cell? ⟨ob + 1 + F, V, none⟩ = some (.pointer none) := i1
          generalize ptrV b off (lastH hs V T hs.length) = y at i2
          clear HE3' HE4' HE5' h1 LR2 LR L2
          go_wp2_with fail
          go_quiet (fail)
          go_wp2_with fail
          go_quiet (fail)
          go_wp2
          go_ret
          exact ⟨false, rfl, fun _ => ⟨fun e => (by cases e), fun e => absurd e HE.out⟩, by first | exact below_drewN K2 _ | exact below_drewN (below_drewN K2 _) _⟩
        | some x =>
          cases h2 : lastH hs V T hs.length with
          | none =>
            have HE := Lib.hid (HE4'.out h2)
            rw [h1] at i1
            rw [h2] at i2
            replace i1 : w2.cell? ⟨ob + 1 + F, V, none⟩ = some (.pointer (some ⟨b, off + x * 4, none⟩)) := i1
            replace i2 : w2.cell? ⟨ob + 1 + V, T, none⟩ = some (.pointer none) := i2
            clear HE3' HE4' HE5' h1 h2 LR2 LR L2
            go_wp2_with fail
            go_quiet (fail)
            go_wp2_with fail
            go_quiet (fail)
            go_wp2
            go_ret
            exact ⟨false, rfl, fun _ => ⟨fun e => (by cases e), fun e => absurd e HE.out⟩, by first | exact below_drewN K2 _ | exact below_drewN (below_drewN K2 _) _⟩
          | some y =>
            have HE := Lib.hid (HE5'.out x y HBB.out h1 h2)
            rw [h1] at i1
            rw [h2] at i2
            replace i1 : w2.cell? ⟨ob + 1 + F, V, none⟩ = some (.pointer (some ⟨b, off + x * 4, none⟩)) := i1
            replace i2 : w2.cell? ⟨ob + 1 + V, T, none⟩ = some (.pointer (some ⟨b, off + y * 4, none⟩)) := i2
            obtain ⟨b', off', e', -, -, -, cx, -⟩ := (HHS.out.below K2).at_ (lastH_some h1).1
            injection e' with e'; injection e' with e1 e2; subst e1; subst e2
            obtain ⟨b', off', e', -, -, -, cy, -⟩ := (HHS.out.below K2).at_ (lastH_some h2).1
            injection e' with e'; injection e' with e1 e2; subst e1; subst e2
            have bx := (HOK.out x (lastH_some h1).1).2.2
            have by' := (HOK.out y (lastH_some h2).1).2.2
            generalize (hcg hs x).2.2.1 = lx at *
            generalize (hcg hs y).2.2.1 = ly at *
            have hwr : IntKind.i64.wrap (lx + ly) = lx + ly := by rw [IntWalk.i64_left]; unfold wrap64; omega
            clear HE3' HE4' HE5' h1 h2 LR2 LR L2
            cases hs : (lx + ly == l) with
            | false =>
              have HS : Hid (¬ lx + ly = l) := Lib.hid (by simpa using hs)
              go_wp2_with fail
              go_quiet (fail)
              go_wp2_with fail
              go_quiet (fail)
              go_wp2
              go_ret
              exact ⟨false, by first | rfl | simp [hs], fun ha => ⟨fun e => (by cases e), fun e => absurd ((HE.out ha).1 e) HS.out⟩, by first | exact below_drewN K2 _ | exact below_drewN (below_drewN K2 _) _⟩
            | true =>
              have HS : Hid (lx + ly = l) := Lib.hid (by simpa using hs)
              go_wp2_with fail
              go_quiet (fail)
              go_wp2_with fail
              go_quiet (fail)
              go_wp2
              go_ret
              exact ⟨true, by first | rfl | simp [hs], fun ha => ⟨fun _ => (HE.out ha).2 HS.out, fun _ => rfl⟩, by first | exact below_drewN K2 _ | exact below_drewN (below_drewN K2 _) _⟩

end Go.Proofs.Ytagaildnfbegkaa
