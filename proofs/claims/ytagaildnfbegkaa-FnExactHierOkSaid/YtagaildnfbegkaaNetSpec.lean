/-
  What spec.NetOk computes: whether a network is valid.
-/
import Derived.Test.YtagaildnfbegkaaNetLaws
import Derived.IntWalk
namespace Go.Proofs.Ytagaildnfbegkaa
open Go.RowKit Go.Deep

/-- Whether an arc's own numbers are valid in a network of n nodes; whether an arc comes ahead of another; whether a network is valid. -/
def arcB (n : Nat) (a : Int × Int × Int) : Bool := btB a.1 0 (n - 1) && btB a.2.1 0 (n - 1) && !(a.1 == a.2.1) && btB a.2.2 1 10000
def arcLt (a b : Int × Int × Int) : Bool := decide (a.1 < b.1 ∨ a.1 = b.1 ∧ a.2.1 < b.2.1)
def netB (ps : List (Int × Int)) (rs : List (Int × Int × Int)) : Bool :=
  decide (ps.length ≤ 20) && decide (rs.length ≤ 70) && (List.range ps.length).all (fun i => ptB (ptg ps i).1 (ptg ps i).2) && (List.range rs.length).all (fun i => arcB ps.length (arg rs i) && (decide (i = 0) || arcLt (arg rs (i - 1)) (arg rs i)))

theorem netB_iff {ps : List (Int × Int)} {rs : List (Int × Int × Int)} : netB ps rs = true ↔
    ps.length ≤ 20 ∧ rs.length ≤ 70 ∧ (∀ i, i < ps.length → ptB (ptg ps i).1 (ptg ps i).2 = true) ∧ ∀ i, i < rs.length → arcB ps.length (arg rs i) = true ∧ (i = 0 ∨ arcLt (arg rs (i - 1)) (arg rs i) = true) := by
  unfold netB
  simp only [Bool.and_eq_true, decide_eq_true_eq, List.all_eq_true, List.mem_range, Bool.or_eq_true]
  constructor
  · rintro ⟨⟨⟨h1, h2⟩, h3⟩, h4⟩; exact ⟨h1, h2, h3, h4⟩
  · rintro ⟨h1, h2, h3, h4⟩; exact ⟨⟨⟨h1, h2⟩, h3⟩, h4⟩
theorem netB_no {ps : List (Int × Int)} {rs : List (Int × Int × Int)} (h : ¬ (ps.length ≤ 20 ∧ rs.length ≤ 70 ∧ (∀ i, i < ps.length → ptB (ptg ps i).1 (ptg ps i).2 = true) ∧ ∀ i, i < rs.length → arcB ps.length (arg rs i) = true ∧ (i = 0 ∨ arcLt (arg rs (i - 1)) (arg rs i) = true))) : netB ps rs = false := by
  cases e : netB ps rs with
  | false => rfl
  | true => exact absurd (netB_iff.1 e) h

/-- How two arcs compare: negative where the first comes ahead. -/
def cmpA (a b : Int × Int × Int) : Int := if a.1 = b.1 then a.2.1 - b.2.1 else a.1 - b.1

theorem l03Cmp_any (a b c d e f : Int) (w : World) (h1 : 0 ≤ a ∧ a ≤ 1000 ∧ 0 ≤ b ∧ b ≤ 1000) (h2 : 0 ≤ d ∧ d ≤ 1000 ∧ 0 ≤ e ∧ e ≤ 1000) :
    Calls Try.prog 76 #[.agg #[.int .i64 a, .int .i64 b, .int .i64 c], .agg #[.int .i64 d, .int .i64 e, .int .i64 f]] w fun x w' => x = .returned (.int .i64 (cmpA (a, b, c) (d, e, f))) ∧ Below w.heap.size w w' := by
  by_cases h : a = d
  · subst h
    have H := Lib.hid (show cmpA (a, b, c) (a, e, f) = b - e from if_pos rfl)
    go_enter Try.func76, Try.ntmps76
    go_wp2
    go_ret
    exact ⟨retI H.out.symm, below2 _ _ _⟩
  · have H := Lib.hid (show cmpA (a, b, c) (d, e, f) = a - d from if_neg h)
    have hne : (a != d) = true := by simpa using h
    go_enter Try.func76, Try.ntmps76
    go_wp2
    go_ret
    exact ⟨retI H.out.symm, below2 _ _ _⟩

theorem cmpA_lt {a b : Int × Int × Int} : cmpA a b < 0 ↔ arcLt a b = true := by
  unfold cmpA arcLt
  rw [decide_eq_true_eq]
  split <;> omega

theorem between_still (n a b : Int) (w : World) : Calls Try.prog 44 #[.int .i64 n, .int .i64 a, .int .i64 b] w fun e w' => e = .returned (.bool (btB n a b)) ∧ w' = w :=
  (between_any n a b w).mono fun _ _ ⟨h, g⟩ => ⟨h, g.symm⟩

/-- What a round of NetOk's second loop reads: the network's box, the arc at hand; and the arc ahead of it. -/
abbrev ArcS (base : World) (xb : Nat) (u v : Value) (ab : Nat) (f t l : Int) (w : World) : Prop :=
  w.cell? ⟨xb, 0, none⟩ = some u ∧ w.cell? ⟨xb, 1, none⟩ = some v ∧ w.cell? ⟨ab, 0, none⟩ = some (.int .i64 f) ∧ w.cell? ⟨ab, 1, none⟩ = some (.int .i64 t) ∧ w.cell? ⟨ab, 2, none⟩ = some (.int .i64 l) ∧ Below base.heap.size base w
theorem cell_under {w w' : World} {b i : Nat} {v : Value} (hb : Below w.heap.size w w') (h : w.cell? ⟨b, i, none⟩ = some v) : w'.cell? ⟨b, i, none⟩ = some v :=
  (hb.cell (p := ⟨b, i, none⟩) (by simpa using World.block_lt_of_cell? w _ h)).trans h
theorem ArcS.under {base w w' : World} {xb : Nat} {u v : Value} {ab : Nat} {f t l : Int} (hb : Below w.heap.size w w') (h : ArcS base xb u v ab f t l w) : ArcS base xb u v ab f t l w' :=
  ⟨cell_under hb h.1, cell_under hb h.2.1, cell_under hb h.2.2.1, cell_under hb h.2.2.2.1, cell_under hb h.2.2.2.2.1, h.2.2.2.2.2.trans (hb.mono h.2.2.2.2.2.size)⟩
theorem ArcS.drew {base w : World} {xb : Nat} {u v : Value} {ab : Nat} {f t l : Int} (h : ArcS base xb u v ab f t l w) : ArcS base xb u v ab f t l w.drew := ⟨h.1, h.2.1, h.2.2.1, h.2.2.2.1, h.2.2.2.2.1, h.2.2.2.2.2.drew⟩
abbrev ArcS2 (base : World) (xb : Nat) (u v : Value) (ab : Nat) (f t l : Int) (pb po : Nat) (pf pt pl : Int) (w : World) : Prop :=
  w.cell? ⟨xb, 0, none⟩ = some u ∧ w.cell? ⟨xb, 1, none⟩ = some v ∧ w.cell? ⟨ab, 0, none⟩ = some (.int .i64 f) ∧ w.cell? ⟨ab, 1, none⟩ = some (.int .i64 t) ∧ w.cell? ⟨ab, 2, none⟩ = some (.int .i64 l) ∧
  w.cell? ⟨pb, po, none⟩ = some (.int .i64 pf) ∧ w.cell? ⟨pb, po + 1, none⟩ = some (.int .i64 pt) ∧ w.cell? ⟨pb, po + 2, none⟩ = some (.int .i64 pl) ∧ Below base.heap.size base w
theorem ArcS2.under {base w w' : World} {xb : Nat} {u v : Value} {ab : Nat} {f t l : Int} {pb po : Nat} {pf pt pl : Int} (hb : Below w.heap.size w w') (h : ArcS2 base xb u v ab f t l pb po pf pt pl w) : ArcS2 base xb u v ab f t l pb po pf pt pl w' :=
  ⟨cell_under hb h.1, cell_under hb h.2.1, cell_under hb h.2.2.1, cell_under hb h.2.2.2.1, cell_under hb h.2.2.2.2.1, cell_under hb h.2.2.2.2.2.1, cell_under hb h.2.2.2.2.2.2.1, cell_under hb h.2.2.2.2.2.2.2.1, h.2.2.2.2.2.2.2.2.trans (hb.mono h.2.2.2.2.2.2.2.2.size)⟩
theorem ArcS2.drew {base w : World} {xb : Nat} {u v : Value} {ab : Nat} {f t l : Int} {pb po : Nat} {pf pt pl : Int} (h : ArcS2 base xb u v ab f t l pb po pf pt pl w) : ArcS2 base xb u v ab f t l pb po pf pt pl w.drew :=
  ⟨h.1, h.2.1, h.2.2.1, h.2.2.2.1, h.2.2.2.2.1, h.2.2.2.2.2.1, h.2.2.2.2.2.2.1, h.2.2.2.2.2.2.2.1, h.2.2.2.2.2.2.2.2.drew⟩

theorem arc_new (w : World) (f t l : Int) (ty : TypeId) : (w.alloc (.cells #[.int .i64 f, .int .i64 t, .int .i64 l] ty)).cell? ⟨w.heap.size, 0, none⟩ = some (.int .i64 f) ∧ (w.alloc (.cells #[.int .i64 f, .int .i64 t, .int .i64 l] ty)).cell? ⟨w.heap.size, 1, none⟩ = some (.int .i64 t) ∧ (w.alloc (.cells #[.int .i64 f, .int .i64 t, .int .i64 l] ty)).cell? ⟨w.heap.size, 2, none⟩ = some (.int .i64 l) :=
  ⟨by rw [cell_of_block (heap_alloc_new w _)]; rfl, by rw [cell_of_block (heap_alloc_new w _)]; rfl, by rw [cell_of_block (heap_alloc_new w _)]; rfl⟩
/-- The first k arcs are valid. -/
def ArcsUpTo (n : Nat) (rs : List (Int × Int × Int)) (k : Nat) : Prop := ∀ i, i < k → arcB n (arg rs i) = true ∧ (i = 0 ∨ arcLt (arg rs (i - 1)) (arg rs i) = true)
theorem ArcsUpTo.step {n : Nat} {rs : List (Int × Int × Int)} {k : Nat} (h : ArcsUpTo n rs k) (h1 : arcB n (arg rs k) = true) (h2 : k = 0 ∨ arcLt (arg rs (k - 1)) (arg rs k) = true) : ArcsUpTo n rs (k + 1) := fun i hi => by
  rcases Nat.lt_or_ge i k with h' | h'
  · exact h i h'
  · obtain rfl : i = k := by omega
    exact ⟨h1, h2⟩
theorem netB_bad {ps : List (Int × Int)} {rs : List (Int × Int × Int)} {k : Nat} (hk : k < rs.length) (h : arcB ps.length (arg rs k) = false) : netB ps rs = false :=
  netB_no fun g => by have := (g.2.2.2 k hk).1; rw [h] at this; cases this
theorem netB_unsorted {ps : List (Int × Int)} {rs : List (Int × Int × Int)} {k : Nat} (hk : k + 1 < rs.length) (h : arcLt (arg rs k) (arg rs (k + 1)) = false) : netB ps rs = false :=
  netB_no fun g => by
    rcases (g.2.2.2 (k + 1) hk).2 with e | e
    · omega
    · rw [Nat.add_sub_cancel, h] at e; cases e
theorem arcB_parts {n : Nat} {a : Int × Int × Int} : arcB n a = true ↔ btB a.1 0 (n - 1) = true ∧ btB a.2.1 0 (n - 1) = true ∧ (a.1 == a.2.1) = false ∧ btB a.2.2 1 10000 = true := by
  unfold arcB; simp only [Bool.and_eq_true, Bool.not_eq_true']
  constructor
  · rintro ⟨⟨⟨h1, h2⟩, h3⟩, h4⟩; exact ⟨h1, h2, h3, h4⟩
  · rintro ⟨h1, h2, h3, h4⟩; exact ⟨⟨⟨h1, h2⟩, h3⟩, h4⟩
theorem btB_iff {n a b : Int} : btB n a b = true ↔ a ≤ n ∧ n ≤ b := by unfold btB; rw [decide_eq_true_eq]
theorem arcB_no {n : Nat} {a : Int × Int × Int} (h : btB a.1 0 (n - 1) = false ∨ btB a.2.1 0 (n - 1) = false ∨ (a.1 == a.2.1) = true ∨ btB a.2.2 1 10000 = false) : arcB n a = false := by
  unfold arcB
  rcases h with h | h | h | h <;> rw [h] <;> simp

set_option maxHeartbeats 1000000 in
theorem specNetOk_any (A B : Option Addr) (ca cb : Nat) (ps : List (Int × Int)) (rs : List (Int × Int × Int)) (w : World) (hn : ps.length ≤ 1048576) (hm : rs.length ≤ 1048576) (ha : IsPts w A ps) (hb : IsArcs w B rs) :
    Calls Try.prog 41 #[.agg #[.slice A ps.length ca, .slice B rs.length cb]] w fun e w' => e = .returned (.bool (netB ps rs)) ∧ Below w.heap.size w w' := by
  have X := Pair.new w 49 (.slice A ps.length ca) (.slice B rs.length cb)
  have K := below1 w (.cells #[.slice A ps.length ca, .slice B rs.length cb] 49)
  by_cases g1 : 20 < ps.length
  · have H := Lib.hid (netB_no (ps := ps) (rs := rs) (fun h => by omega))
    have hd : decide ((20 : Int) < ps.length) = true := decide_eq_true (by omega)
    go_enter Try.func41, Try.ntmps41
    go_wp2
    go_ret
    exact ⟨retB H.out.symm, K⟩
  · by_cases g2 : 70 < rs.length
    · have H := Lib.hid (netB_no (ps := ps) (rs := rs) (fun h => by omega))
      have hd : decide ((20 : Int) < ps.length) = false := decide_eq_false (by omega)
      have hd2 : decide ((70 : Int) < rs.length) = true := decide_eq_true (by omega)
      go_enter Try.func41, Try.ntmps41
      go_wp2
      go_ret
      exact ⟨retB H.out.symm, K⟩
    · have hd : decide ((20 : Int) < ps.length) = false := decide_eq_false (by omega)
      have hd2 : decide ((70 : Int) < rs.length) = false := decide_eq_false (by omega)
      go_enter Try.func41, Try.ntmps41
      go_wp2
      clear hd hd2
      go_loopw [3] (fun i wr => ∃ k : Nat, k ≤ ps.length ∧ i = .int .i64 k ∧ Pair wr w.heap.size 49 (.slice A ps.length ca) (.slice B rs.length cb) ∧ Below w.heap.size w wr ∧ ∀ j, j < k → ptB (ptg ps j).1 (ptg ps j).2 = true) (fun i _ => ps.length - (intOf i).toNat)
      case atStart => exact ⟨0, by omega, rfl, X, K, fun j hj => by omega⟩
      case round =>
        clear X K
        obtain ⟨k, hk, rfl, X, K, hall⟩ := hrel
        have HALL := Lib.hid hall
        clear hall
        by_cases hlt : k < ps.length
        · obtain ⟨b, off, rfl, -, c0, c1⟩ := (ha.below K).at_ hlt
          obtain ⟨x0, x1, -, -⟩ := X.cells
          cases hp : ptB (ptg ps k).1 (ptg ps k).2 with
          | false =>
            have H := Lib.hid (netB_no (ps := ps) (rs := rs) (fun h => by have := h.2.2.1 k hlt; rw [hp] at this; cases this))
            go_wp2_with fail
            refine (specPtOk_any _ _ _).mono ?_; rintro e w1 ⟨rfl, b1⟩
            have k1 := K.trans (b1.mono K.size)
            go_wp2
            go_ret
            exact ⟨retB H.out.symm, k1⟩
          | true =>
            have HP := Lib.hid hp
            go_wp2_with fail
            refine (specPtOk_any _ _ _).mono ?_; rintro e w1 ⟨rfl, b1⟩
            have k1 := K.trans (b1.mono K.size)
            replace X := X.below b1
            go_wp2
            go_roundw
            case rel => exact ⟨k + 1, by omega, by go_num, X, k1, fun j hj => by
              rcases Nat.lt_or_ge j k with h | h
              · exact HALL.out j h
              · obtain rfl : j = k := by omega
                exact HP.out⟩
            case measure => simp [intOf]; omega
        · obtain ⟨x0, x1, -, -⟩ := X.cells
          obtain rfl : k = ps.length := by omega
          clear hlt hk
          go_wp2
          clear x0 x1
          go_loopw [4] (fun i wr => ∃ k : Nat, k ≤ rs.length ∧ i = .int .i64 k ∧ Pair wr w.heap.size 49 (.slice A ps.length ca) (.slice B rs.length cb) ∧ Below w.heap.size w wr ∧ ArcsUpTo ps.length rs k) (fun i _ => rs.length - (intOf i).toNat)
          case atStart => exact ⟨0, by omega, rfl, X, K, fun j hj => by omega⟩
          case round =>
            clear X K
            obtain ⟨k, hk, rfl, X, K, hall⟩ := hrel
            by_cases hlt : k < rs.length
            · obtain ⟨b, off, rfl, -, c0, c1, c2⟩ := (hb.below K).at_ hlt
              have TC := hb.below K
              obtain ⟨x0, x1, -, -⟩ := X.cells
              have hN := arc_new wr (arg rs k).1 (arg rs k).2.1 (arg rs k).2.2 82
              have T : ArcS w w.heap.size (.slice A ps.length ca) (.slice (some ⟨b, off, none⟩) rs.length cb) wr.heap.size (arg rs k).1 (arg rs k).2.1 (arg rs k).2.2 (wr.alloc (.cells #[.int .i64 (arg rs k).1, .int .i64 (arg rs k).2.1, .int .i64 (arg rs k).2.2] 82)) :=
                ⟨cell_under (below1 _ _) x0, cell_under (below1 _ _) x1, hN.1, hN.2.1, hN.2.2, K.alloc K.size _⟩
              have ew : IntKind.i64.wrap ((ps.length : Int) - 1) = ps.length - 1 := IntWalk.i64_in _ (by omega)
              have EW := Lib.hid ew
              have HALL2 := Lib.hid hall
              have HTC := Lib.hid TC
              clear ew hall TC hN
              cases h1 : btB (arg rs k).1 0 ((ps.length : Int) - 1) with
              | false =>
                have H := Lib.hid (netB_bad (ps := ps) hlt (arcB_no (.inl h1)))
                obtain ⟨t0, t1, t2, t3, t4, t5⟩ := T
                go_wp2_with fail
                have ew := EW.out
                go_quiet ((go_at_call 44; exact Calls.quiet_of_same (between_still _ _ _ _)))
                go_wp2
                go_ret
                exact ⟨retB H.out.symm, below_drewN t5 _⟩
              | true =>
                cases h2 : btB (arg rs k).2.1 0 ((ps.length : Int) - 1) with
                | false =>
                  have H := Lib.hid (netB_bad (ps := ps) hlt (arcB_no (.inr (.inl h2))))
                  obtain ⟨t0, t1, t2, t3, t4, t5⟩ := T
                  go_wp2_with fail
                  have ew := EW.out
                  go_quiet ((go_at_call 44; exact Calls.quiet_of_same (between_still _ _ _ _)))
                  go_wp2
                  go_ret
                  exact ⟨retB H.out.symm, below_drewN t5 _⟩
                | true =>
                  cases h3 : ((arg rs k).1 == (arg rs k).2.1) with
                  | true =>
                    have H := Lib.hid (netB_bad (ps := ps) hlt (arcB_no (.inr (.inr (.inl h3)))))
                    obtain ⟨t0, t1, t2, t3, t4, t5⟩ := T
                    go_wp2_with fail
                    have ew := EW.out
                    go_quiet ((go_at_call 44; exact Calls.quiet_of_same (between_still _ _ _ _)))
                    go_wp2
                    go_ret
                    exact ⟨retB H.out.symm, below_drewN t5 _⟩
                  | false =>
                    cases h4 : btB (arg rs k).2.2 1 10000 with
                    | false =>
                      have H := Lib.hid (netB_bad (ps := ps) hlt (arcB_no (.inr (.inr (.inr h4)))))
                      obtain ⟨t0, t1, t2, t3, t4, t5⟩ := T
                      go_wp2_with fail
                      have ew := EW.out
                      go_quiet ((go_at_call 44; exact Calls.quiet_of_same (between_still _ _ _ _)))
                      go_wp2
                      go_ret
                      exact ⟨retB H.out.symm, below_drewN t5 _⟩
                    | true =>
                      have HB := Lib.hid (arcB_parts.2 ⟨h1, h2, h3, h4⟩)
                      by_cases hk0 : k = 0
                      · obtain ⟨t0, t1, t2, t3, t4, t5⟩ := T
                        have X' := X.alloc (.cells #[.int .i64 (arg rs k).1, .int .i64 (arg rs k).2.1, .int .i64 (arg rs k).2.2] 82)
                        have hd0 : decide ((0 : Int) < k) = false := decide_eq_false (by omega)
                        have hd1 : decide (0 < k) = false := decide_eq_false (by omega)
                        have HK0 := Lib.hid hk0
                        clear hk0
                        go_wp2_with fail
                        have ew := EW.out
                        go_quiet ((go_at_call 44; exact Calls.quiet_of_same (between_still _ _ _ _)))
                        clear ew h1 h2 h3 h4 hd0 hd1
                        go_wp2
                        go_roundw
                        case rel => exact ⟨k + 1, by omega, by go_num, X', below_drewN t5 _, HALL2.out.step HB.out (.inl HK0.out)⟩
                        case measure => simp [intOf]; omega
                      · obtain ⟨j, hj⟩ : ∃ j, j + 1 = k := ⟨k - 1, by omega⟩
                        obtain ⟨b', off', hA, -, p0, p1, p2⟩ := HTC.out.at_ (show j < rs.length by omega)
                        injection hA with hA
                        injection hA with hA1 hA2
                        subst hA1 hA2
                        have hprev := arcB_parts.1 ((HALL2.out j (by omega)).1)
                        have q1 := btB_iff.1 hprev.1
                        have q2 := btB_iff.1 hprev.2.1
                        have q3 := btB_iff.1 h1
                        have q4 := btB_iff.1 h2
                        have T2 : ArcS2 w w.heap.size (.slice A ps.length ca) (.slice (some ⟨b, off, none⟩) rs.length cb) wr.heap.size (arg rs k).1 (arg rs k).2.1 (arg rs k).2.2 b (off + j * 3) (arg rs j).1 (arg rs j).2.1 (arg rs j).2.2 (wr.alloc (.cells #[.int .i64 (arg rs k).1, .int .i64 (arg rs k).2.1, .int .i64 (arg rs k).2.2] 82)) :=
                          ⟨T.1, T.2.1, T.2.2.1, T.2.2.2.1, T.2.2.2.2.1, cell_under (below1 _ _) p0, cell_under (below1 _ _) p1, cell_under (below1 _ _) p2, T.2.2.2.2.2⟩
                        have X' := X.alloc (.cells #[.int .i64 (arg rs k).1, .int .i64 (arg rs k).2.1, .int .i64 (arg rs k).2.2] 82)
                        have hd0 : decide ((0 : Int) < k) = true := decide_eq_true (by omega)
                        have hd1 : decide (0 < k) = true := decide_eq_true (by omega)
                        have ej : IntKind.i64.wrap ((k : Int) - 1) = j := by rw [show (k : Int) - 1 = j by omega]; exact IntWalk.i64_in _ (by omega)
                        have EJ := Lib.hid ej
                        have hjl : j < rs.length := by omega
                        have hjd : decide (j < rs.length) = true := decide_eq_true hjl
                        have hji : (j : Int) < rs.length := by omega
                        have HJ := Lib.hid hj
                        clear hj ej hprev p0 p1 p2 T
                        cases h5 : arcLt (arg rs j) (arg rs k) with
                        | false =>
                          have hc5 : decide (0 ≤ cmpA (arg rs j) (arg rs k)) = true := decide_eq_true (by
                            rcases Int.lt_or_le (cmpA (arg rs j) (arg rs k)) 0 with h | h
                            · have := cmpA_lt.1 h; rw [h5] at this; cases this
                            · exact h)
                          have H := Lib.hid (netB_unsorted (ps := ps) (k := j) (by rw [HJ.out]; exact hlt) (by rw [HJ.out]; exact h5))
                          go_wp2_with fail
                          have ew := EW.out
                          have ej := EJ.out
                          go_region_held3 (fun w' => ArcS2 w w.heap.size (.slice A ps.length ca) (.slice (some ⟨b, off, none⟩) rs.length cb) wr.heap.size (arg rs k).1 (arg rs k).2.1 (arg rs k).2.2 b (off + j * 3) (arg rs j).1 (arg rs j).2.1 (arg rs j).2.2 w') (first | exact ArcS2.drew T2 | assumption | (refine ArcS2.under (by assumption) ?_; assumption))
                            (first
                              | (go_at_call 44; refine (between_any _ _ _ _).mono ?_; rintro e w' ⟨rfl, rfl⟩)
                              | (go_at_call 76; refine (l03Cmp_any _ _ _ _ _ _ _ (by omega) (by omega)).mono ?_; rintro e w1 ⟨rfl, b1⟩))
                          rename_i hU
                          obtain ⟨-, -, -, -, -, -, -, -, k1⟩ := hU
                          clear ew ej
                          go_wp2
                          go_ret
                          exact ⟨retB H.out.symm, k1⟩
                        | true =>
                          have hc5 : decide (0 ≤ cmpA (arg rs j) (arg rs k)) = false := decide_eq_false (fun h => by have := cmpA_lt.2 h5; omega)
                          have H5 := Lib.hid (show arcLt (arg rs (k - 1)) (arg rs k) = true by rw [show k - 1 = j by have := HJ.out; omega]; exact h5)
                          replace X' : Pair (wr.alloc (.cells #[.int .i64 (arg rs k).1, .int .i64 (arg rs k).2.1, .int .i64 (arg rs k).2.2] 82)).drew w.heap.size 49 (.slice A ps.length ca) (.slice (some ⟨b, off, none⟩) rs.length cb) := X'
                          go_wp2_with fail
                          have ew := EW.out
                          have ej := EJ.out
                          go_region_held3 (fun w' => ArcS2 w w.heap.size (.slice A ps.length ca) (.slice (some ⟨b, off, none⟩) rs.length cb) wr.heap.size (arg rs k).1 (arg rs k).2.1 (arg rs k).2.2 b (off + j * 3) (arg rs j).1 (arg rs j).2.1 (arg rs j).2.2 w') (first | exact ArcS2.drew T2 | assumption | (refine ArcS2.under (by assumption) ?_; assumption))
                            (first
                              | (go_at_call 44; refine (between_any _ _ _ _).mono ?_; rintro e w' ⟨rfl, rfl⟩)
                              | (go_at_call 76; refine (l03Cmp_any _ _ _ _ _ _ _ (by omega) (by omega)).mono ?_; rintro e w1 ⟨rfl, b1⟩))
                          rename_i hU
                          obtain ⟨-, -, -, -, -, -, -, -, k1⟩ := hU
                          clear ew ej
                          replace X' := X'.below b1
                          clear b1 hc5 hd0 hd1
                          go_wp2
                          go_roundw
                          case rel => exact ⟨k + 1, by omega, by go_num, X', k1, HALL2.out.step HB.out (.inr H5.out)⟩
                          case measure => simp [intOf]; omega
            · obtain ⟨x0, x1, -, -⟩ := X.cells
              obtain rfl : k = rs.length := by omega
              have H := Lib.hid (netB_iff.2 ⟨by omega, by omega, HALL.out, hall⟩)
              go_wp2
              go_ret
              exact ⟨retB H.out.symm, K⟩

end Go.Proofs.Ytagaildnfbegkaa
