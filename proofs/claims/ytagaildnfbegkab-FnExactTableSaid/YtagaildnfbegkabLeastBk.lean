/-
  What the generic minimum impl.leastBy gives for buckets by their length: the first of the smallest.
-/
import Derived.Test.YtagaildnfbegkabBksIm
namespace Go.Proofs.Ytagaildnfbegkab
open Go.RowKit Go.Deep Go.Maps

/-- The first of the smallest among the first k. -/
def leastK (qs : List A3) : Nat → A3
  | 0 => (0, 0, 0)
  | k + 1 => if k = 0 ∨ (arg qs k).2.2 < (leastK qs k).2.2 then arg qs k else leastK qs k
theorem leastK_on {qs : List A3} {k : Nat} (h : k = 0 ∨ (arg qs k).2.2 < (leastK qs k).2.2) : leastK qs (k + 1) = arg qs k := if_pos h
theorem leastK_off {qs : List A3} {k : Nat} (h : k ≠ 0) (h2 : ¬ (arg qs k).2.2 < (leastK qs k).2.2) : leastK qs (k + 1) = leastK qs k := if_neg (fun e => e.elim h h2)
theorem bkLength_any (a b c : Int) (w : World) : Calls Try.prog 50 #[.agg #[.int .i64 a, .int .i64 b, .int .i64 c]] w fun e w' => e = .returned (.int .i64 c) ∧ Below w.heap.size w w' := by
  go_enter Try.func50, Try.ntmps50
  go_wp2
  go_ret
  exact ⟨rfl, below1 _ _⟩
theorem Trip.frz {w : World} {b : Nat} {t : TypeId} {x y z : Value} (h : Trip w b t x y z) (i : Nat) : w.frozen? ⟨b, i, none⟩ = false := frozen_of_block h
theorem Trip.put0 {w : World} {b : Nat} {t : TypeId} {x y z : Value} (h : Trip w b t x y z) (v : Value) : Trip (w.setCell ⟨b, 0, none⟩ v) b t v y z := block_set v h
theorem Trip.put1 {w : World} {b : Nat} {t : TypeId} {x y z : Value} (h : Trip w b t x y z) (v : Value) : Trip (w.setCell ⟨b, 1, none⟩ v) b t x v z := block_set v h
/-- The element and the least so far in their boxes, and nothing older has turned. -/
abbrev LeS (W0 : World) (xb lb : Nat) (x y z p q r : Int) (w : World) : Prop :=
  w.cell? ⟨xb, 0, none⟩ = some (.int .i64 x) ∧ w.cell? ⟨xb, 1, none⟩ = some (.int .i64 y) ∧ w.cell? ⟨xb, 2, none⟩ = some (.int .i64 z) ∧ w.cell? ⟨lb, 0, none⟩ = some (.int .i64 p) ∧ w.cell? ⟨lb, 1, none⟩ = some (.int .i64 q) ∧ w.cell? ⟨lb, 2, none⟩ = some (.int .i64 r) ∧ Below W0.heap.size W0 w
theorem LeS.under {W0 w w' : World} {xb lb : Nat} {x y z p q r : Int} (hb : Below w.heap.size w w') (h : LeS W0 xb lb x y z p q r w) : LeS W0 xb lb x y z p q r w' :=
  ⟨cell_under hb h.1, cell_under hb h.2.1, cell_under hb h.2.2.1, cell_under hb h.2.2.2.1, cell_under hb h.2.2.2.2.1, cell_under hb h.2.2.2.2.2.1, h.2.2.2.2.2.2.trans (hb.mono h.2.2.2.2.2.2.size)⟩
theorem LeS.drew {W0 w : World} {xb lb : Nat} {x y z p q r : Int} (h : LeS W0 xb lb x y z p q r w) : LeS W0 xb lb x y z p q r w.drew := LeS.under (Below.refl _ _).drew h

set_option maxRecDepth 1000000 in
set_option maxHeartbeats 8000000 in
theorem leastBy_any (Q : Option Addr) (cq : Nat) (qs : List A3) (w : World) (hq : qs.length ≤ 20971520) (hQ : IsArcs w Q qs) :
    Calls Try.prog 48 #[.slice Q qs.length cq, .func (.func 50) #[] #[]] w fun e w' =>
      e = .returned (.tuple #[.agg #[.int .i64 (leastK qs qs.length).1, .int .i64 (leastK qs qs.length).2.1, .int .i64 (leastK qs qs.length).2.2], .bool (decide (0 < qs.length))]) ∧ Below w.heap.size w w' := by
  have R0 := (Trip.new w 67 (.int .i64 0) (.int .i64 0) (.int .i64 0)).alloc (.cells #[.int .i64 0, .int .i64 0, .int .i64 0] 67)
  have L0 : Trip ((w.alloc (.cells #[.int .i64 0, .int .i64 0, .int .i64 0] 67)).alloc (.cells #[.int .i64 0, .int .i64 0, .int .i64 0] 67)) (w.heap.size + 1) 67 (.int .i64 (leastK qs 0).1) (.int .i64 (leastK qs 0).2.1) (.int .i64 (leastK qs 0).2.2) := by
    have := Trip.new (w.alloc (.cells #[.int .i64 0, .int .i64 0, .int .i64 0] 67)) 67 (.int .i64 0) (.int .i64 0) (.int .i64 0); rwa [World.size_alloc] at this
  have K0 := below2 w (.cells #[.int .i64 0, .int .i64 0, .int .i64 0] 67) (.cells #[.int .i64 0, .int .i64 0, .int .i64 0] 67)
  go_enter Try.func48, Try.ntmps48
  go_wp2
  go_loopw [11] (fun vi wr => ∃ k : Nat, k ≤ qs.length ∧ vi = .int .i64 k ∧ Trip wr w.heap.size 67 (.int .i64 0) (.int .i64 0) (.int .i64 0) ∧ Trip wr (w.heap.size + 1) 67 (.int .i64 (leastK qs k).1) (.int .i64 (leastK qs k).2.1) (.int .i64 (leastK qs k).2.2) ∧ Below w.heap.size w wr) (fun i _ => qs.length - (intOf i).toNat)
  case atStart => exact ⟨0, by omega, rfl, R0, L0, K0⟩
  case round =>
    clear R0 L0 K0
    obtain ⟨k, hk, rfl, RB, LB, K⟩ := hrel
    by_cases hlt : k < qs.length
    · have hki : (k : Int) < qs.length := by omega
      obtain ⟨b, off, rfl, -, c0, c1, c2⟩ := (hQ.below K).at_ hlt
      have HON := Lib.hid (fun h => leastK_on (qs := qs) (k := k) h)
      have HOFF := Lib.hid (fun h h2 => leastK_off (qs := qs) (k := k) h h2)
      generalize arg qs k = a at *
      obtain ⟨f, t, l⟩ := a
      generalize leastK qs k = L at *
      obtain ⟨p, q, r⟩ := L
      dsimp only at *
      have kv := below1 wr (.cells #[.int .i64 f, .int .i64 t, .int .i64 l] 67)
      have XB := Trip.new wr 67 (.int .i64 f) (.int .i64 t) (.int .i64 l)
      replace RB := RB.below kv
      replace LB := LB.below kv
      have KK := K.trans (kv.mono K.size)
      have hsz := K.size
      have hLlt := LB.lt
      rw [World.size_alloc] at hLlt
      obtain ⟨x0, x1, x2, -⟩ := XB.cells
      obtain ⟨l0, l1, l2, -⟩ := LB.cells
      by_cases hk0 : k = 0
      · have HN := Lib.hid (HON.out (.inl hk0))
        clear HON HOFF kv
        subst hk0
        simp only [Nat.zero_mul, Nat.add_zero] at c0 c1 c2
        have fr0 := LB.frz 0
        have fr1 := LB.frz 1
        have fr2 := LB.frz 2
        go_wp2_with fail
        go_quiet (fail)
        have LBn := LB.below (below_drewN (Below.refl _ _) nq)
        have RBn := RB.below (below_drewN (Below.refl _ _) nq)
        have KKn := below_drewN KK nq
        go_wp2
        clear x0 x1 x2 l0 l1 l2 fr0 fr1 fr2 c0 c1 c2
        go_roundw
        case rel => exact ⟨0 + 1, by omega, by go_num, ((RBn.far (by omega) 0 _).far (by omega) 1 _).far (by omega) 2 _, by rw [HN.out]; exact ((LBn.put0 _).put1 _).set2 _, ((KKn.setCell (by simp) _).setCell (by simp) _).setCell (by simp) _⟩
        case measure => simp [intOf]; omega
      · have hkd : decide ((k : Int) = 0) = false := decide_eq_false (by omega)
        have hkb : ((k : Int) == 0) = false := beq_eq_false_iff_ne.2 (by omega)
        have hkn : ¬ (k : Int) = 0 := by omega
        obtain ⟨W1, hW1⟩ : ∃ W1, W1 = wr.alloc (.cells #[.int .i64 f, .int .i64 t, .int .i64 l] 67) := ⟨_, rfl⟩
        have HW1 := Lib.hid hW1
        have S : LeS W1 wr.heap.size (w.heap.size + 1) f t l p q r W1 := by rw [hW1]; exact ⟨x0, x1, x2, l0, l1, l2, Below.refl _ _⟩
        rw [← hW1] at LB RB KK
        clear hW1 x0 x1 x2 l0 l1 l2 kv
        go_wp2_with fail
        clear c0 c1 c2
        rw [← HW1.out]
        go_region_held3 (fun w' => LeS W1 wr.heap.size (w.heap.size + 1) f t l p q r w')
          (first | exact LeS.drew S | assumption | (refine LeS.under (by assumption) ?_; assumption))
          (first
            | (go_at_call 50; refine (bkLength_any _ _ _ _).mono ?_; rintro e wX ⟨rfl, bX⟩))
        rename_i hU
        obtain ⟨x0, x1, x2, l0, l1, l2, K1⟩ := hU
        replace LB := LB.below K1
        replace RB := RB.below K1
        replace KK := KK.trans (K1.mono KK.size)
        have fr0 := LB.frz 0
        have fr1 := LB.frz 1
        have fr2 := LB.frz 2
        clear S HW1 hkd hkb hkn
        cases hlr : decide (l < r) with
        | true =>
          have HN := Lib.hid (HON.out (.inr (of_decide_eq_true hlr)))
          clear HON HOFF
          go_wp2
          clear x0 x1 x2 l0 l1 l2 fr0 fr1 fr2
          go_roundw
          case rel => exact ⟨k + 1, by omega, by go_num, ((RB.far (by omega) 0 _).far (by omega) 1 _).far (by omega) 2 _, by rw [HN.out]; exact ((LB.put0 _).put1 _).set2 _, ((KK.setCell (by simp) _).setCell (by simp) _).setCell (by simp) _⟩
          case measure => simp [intOf]; omega
        | false =>
          have HN := Lib.hid (HOFF.out hk0 (by have := of_decide_eq_false hlr; omega))
          clear HON HOFF
          go_wp2
          clear x0 x1 x2 l0 l1 l2 fr0 fr1 fr2
          go_roundw
          case rel => exact ⟨k + 1, by omega, by go_num, RB, by rw [HN.out]; exact LB, KK⟩
          case measure => simp [intOf]; omega
    · obtain rfl : k = qs.length := by omega
      obtain ⟨l0, l1, l2, -⟩ := LB.cells
      obtain ⟨r0, r1, r2, -⟩ := RB.cells
      have fr0 := RB.frz 0
      have fr1 := RB.frz 1
      have fr2 := RB.frz 2
      have RB1 := ((RB.put0 (.int .i64 (leastK qs qs.length).1)).put1 (.int .i64 (leastK qs qs.length).2.1)).set2 (.int .i64 (leastK qs qs.length).2.2)
      obtain ⟨s0, s1, s2, -⟩ := RB1.cells
      have KE := ((K.setCell (p := ⟨w.heap.size, 0, none⟩) (by simp) (.int .i64 (leastK qs qs.length).1)).setCell (p := ⟨w.heap.size, 1, none⟩) (by simp) (.int .i64 (leastK qs qs.length).2.1)).setCell (p := ⟨w.heap.size, 2, none⟩) (by simp) (.int .i64 (leastK qs qs.length).2.2)
      generalize hL : leastK qs qs.length = L at *
      obtain ⟨p, q, r⟩ := L
      have HLL := Lib.hid hL
      clear hL
      dsimp only at *
      go_wp2
      refine bodyPost_ret (v := .tuple #[.agg #[.int .i64 p, .int .i64 q, .int .i64 r], .bool (decide (0 < qs.length))]) (by simp [results, Try.results48, go_sem, s0, s1, s2]) rfl ⟨by rw [HLL.out], KE⟩

end Go.Proofs.Ytagaildnfbegkab
