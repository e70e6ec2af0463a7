/-
  What spec.QueueOk, slices.IsSortedFunc, impl.placesOf and impl.QueueOk compute.
-/
import Derived.Test.YtdobiapnkdgjoaaQueueMath
import Derived.Maps.OwnOps
namespace Go.Proofs.Ytdobiapnkdgjoaa
open Go.RowKit Go.Deep Go.Maps

theorem eqN (a b : Nat) : ((a : Int) == (b : Int)) = decide (a = b) := by rw [Bool.eq_iff_iff, beq_iff_eq, decide_eq_true_eq]; omega

/-- Two items of a slice, and nothing older has turned. -/
abbrev ItS (w : World) (b1 o1 b2 o2 : Nat) (x y x' y' : Int) (w' : World) : Prop :=
  w'.cell? ⟨b1, o1, none⟩ = some (.int .i64 x) ∧ w'.cell? ⟨b1, o1 + 1, none⟩ = some (.int .i64 y) ∧ w'.cell? ⟨b2, o2, none⟩ = some (.int .i64 x') ∧ w'.cell? ⟨b2, o2 + 1, none⟩ = some (.int .i64 y') ∧ Below w.heap.size w w'
theorem ItS.under {w w1 w2 : World} {b1 o1 b2 o2 : Nat} {x y x' y' : Int} (hb : Below w1.heap.size w1 w2) (h : ItS w b1 o1 b2 o2 x y x' y' w1) : ItS w b1 o1 b2 o2 x y x' y' w2 := by
  obtain ⟨h1, h2, h3, h4, h5⟩ := h
  exact ⟨cell_under hb h1, cell_under hb h2, cell_under hb h3, cell_under hb h4, h5.trans (hb.mono h5.size)⟩
theorem ItS.drew {w w1 : World} {b1 o1 b2 o2 : Nat} {x y x' y' : Int} (h : ItS w b1 o1 b2 o2 x y x' y' w1) : ItS w b1 o1 b2 o2 x y x' y' w1.drew := ⟨h.1, h.2.1, h.2.2.1, h.2.2.2.1, h.2.2.2.2.drew⟩

set_option maxRecDepth 100000 in
set_option maxHeartbeats 4000000 in
theorem specQueueOk_any (A : Option Addr) (ca : Nat) (q : List (Int × Int)) (w : World) (hn : q.length ≤ 2097152) (h : IsPts w A q) :
    Calls Try.prog 42 #[.slice A q.length ca] w fun e w' => e = .returned (.bool (qB q)) ∧ Below w.heap.size w w' := by
  go_enter Try.func42, Try.ntmps42
  go_wp2
  go_loopw [3] (fun i wr => ∃ k : Nat, k ≤ q.length ∧ i = .int .i64 k ∧ QUp q k ∧ Below w.heap.size w wr) (fun i _ => q.length - (intOf i).toNat)
  case atStart => exact ⟨0, by omega, rfl, fun i hi => by omega, Below.refl _ _⟩
  case round =>
    obtain ⟨k, hk, rfl, hup, K⟩ := hrel
    by_cases hlt : k < q.length
    · obtain ⟨b, off, rfl, -, -, -⟩ := (h.below K).at_ (k := k) hlt
      rcases Nat.eq_zero_or_pos k with h0 | hp
      · have HS := Lib.hid (show 0 < k → ltI (ptg q (k - 1)) (ptg q k) from fun h' => by omega)
        have hd0 : decide ((k : Int) > 0) = false := decide_eq_false (by omega)
        have hd1 : decide (0 < k) = false := decide_eq_false (by omega)
        have HZ := Lib.hid h0
        clear h0
        go_wp2_with fail
        go_quiet (fail)
        replace K := below_drewN K nq
        go_wp2_with fail
        go_loopw [4] (fun i wr => ∃ j : Nat, j ≤ k ∧ i = .int .i64 j ∧ (∀ m, m < j → idg q m ≠ idg q k) ∧ Below w.heap.size w wr) (fun i _ => k - (intOf i).toNat)
        case atStart => exact ⟨0, by omega, rfl, fun m hm => by omega, K⟩
        case round =>
          clear K
          obtain ⟨j, hj, rfl, hno, K⟩ := hrel
          by_cases hjk : j < k
          · obtain ⟨b1, o1, e1, -, -, z1⟩ := (h.below K).at_ (k := j) (by omega)
            cases e1
            obtain ⟨b2, o2, e2, -, -, z2⟩ := (h.below K).at_ (k := k) hlt
            cases e2
            by_cases he : idg q j = idg q k
            · have HF := Lib.hid (q_twice hlt hjk he)
              have he' : ((ptg q j).2 == (ptg q k).2) = true := by simpa [idg] using he
              generalize (ptg q j).2 = u at z1 he'
              generalize (ptg q k).2 = v at z2 he'
              have hjn : j < q.length := by omega
              clear he hno hup
              go_wp2_with fail
              go_quiet (fail)
              go_wp2
              go_ret
              exact ⟨retB HF.out.symm, below_drewN K _⟩
            · have he' : ((ptg q j).2 == (ptg q k).2) = false := by simpa [idg] using he
              have HN := Lib.hid (show ∀ m, m < j + 1 → idg q m ≠ idg q k from fun m hm => by
                rcases Nat.lt_or_ge m j with h' | h'
                · exact hno m h'
                · obtain rfl : m = j := by omega
                  exact he)
              generalize (ptg q j).2 = u at z1 he'
              generalize (ptg q k).2 = v at z2 he'
              have hjn : j < q.length := by omega
              clear he hno
              go_wp2_with fail
              go_quiet (fail)
              go_wp2
              go_roundw
              case rel => exact ⟨j + 1, by omega, by go_num, HN.out, below_drewN K _⟩
              case measure => simp [intOf]; omega
          · obtain rfl : j = k := by omega
            have HUP := Lib.hid (QUp.step hup HS.out hno)
            clear hno hup
            go_wp2
            go_roundw
            case rel => exact ⟨j + 1, by omega, by go_num, HUP.out, K⟩
            case measure => simp [intOf]; omega
      · obtain ⟨j, hj⟩ : ∃ j, j + 1 = k := ⟨k - 1, by omega⟩
        have hd0 : decide ((k : Int) > 0) = true := decide_eq_true (by omega)
        have hd1 : decide (0 < k) = true := decide_eq_true (by omega)
        obtain ⟨b1, o1, e1, -, z1, z2⟩ := (h.below K).at_ (k := j) (by omega)
        cases e1
        obtain ⟨b2, o2, e2, -, z3, z4⟩ := (h.below K).at_ (k := k) hlt
        cases e2
        have hw1 : IntKind.i64.wrap ((k : Int) - 1) = j := by rw [IntWalk.i64_in _ (by omega)]; omega
        have hjn : j < q.length := by omega
        have hji : (j : Int) < q.length := by omega
        have T : ItS w b (off + j * 2) b (off + k * 2) (ptg q j).1 (ptg q j).2 (ptg q k).1 (ptg q k).2 _ := ⟨z1, z2, z3, z4, K⟩
        have HJ := Lib.hid hj
        clear z1 z2 z3 z4 hj K
        by_cases hs : ltI (ptg q j) (ptg q k)
        · have hc : cmpI ((ptg q j).1, (ptg q j).2) ((ptg q k).1, (ptg q k).2) < 0 := cmpI_neg.2 hs
          have HS := Lib.hid (show 0 < k → ltI (ptg q (k - 1)) (ptg q k) from fun _ => by have := HJ.out; rw [show k - 1 = j by omega]; exact hs)
          have hc2 : decide (cmpI ((ptg q j).1, (ptg q j).2) ((ptg q k).1, (ptg q k).2) ≥ 0) = false := decide_eq_false (by omega)
          obtain ⟨c, HC⟩ : ∃ c, Hid (cmpI ((ptg q j).1, (ptg q j).2) ((ptg q k).1, (ptg q k).2) = c) := ⟨_, Lib.hid rfl⟩
          rw [HC.out] at hc hc2
          clear hs
          go_wp2_with fail
          go_region_held3 (fun w' => ItS w b (off + j * 2) b (off + k * 2) (ptg q j).1 (ptg q j).2 (ptg q k).1 (ptg q k).2 w')
            (first | exact ItS.drew T | (refine ItS.under (by assumption) ?_; assumption))
            ((go_at_call 93; refine (l06Cmp_any _ _ _ _ _).mono ?_; rw [HC.out]; rintro e w3 ⟨rfl, b3⟩))
          rename_i hU
          obtain ⟨-, -, -, -, K⟩ := hU
          clear T b3 HC hc hc2 hw1 hjn hji
          generalize w3 = wr at K
          go_wp2_with fail
          go_loopw [4] (fun i wr => ∃ j : Nat, j ≤ k ∧ i = .int .i64 j ∧ (∀ m, m < j → idg q m ≠ idg q k) ∧ Below w.heap.size w wr) (fun i _ => k - (intOf i).toNat)
          case atStart => exact ⟨0, by omega, rfl, fun m hm => by omega, K⟩
          case round =>
            clear K
            obtain ⟨j, hj, rfl, hno, K⟩ := hrel
            by_cases hjk : j < k
            · obtain ⟨b1, o1, e1, -, -, z1⟩ := (h.below K).at_ (k := j) (by omega)
              cases e1
              obtain ⟨b2, o2, e2, -, -, z2⟩ := (h.below K).at_ (k := k) hlt
              cases e2
              by_cases he : idg q j = idg q k
              · have HF := Lib.hid (q_twice hlt hjk he)
                have he' : ((ptg q j).2 == (ptg q k).2) = true := by simpa [idg] using he
                generalize (ptg q j).2 = u at z1 he'
                generalize (ptg q k).2 = v at z2 he'
                have hjn : j < q.length := by omega
                clear he hno hup
                go_wp2_with fail
                go_quiet (fail)
                go_wp2
                go_ret
                exact ⟨retB HF.out.symm, below_drewN K _⟩
              · have he' : ((ptg q j).2 == (ptg q k).2) = false := by simpa [idg] using he
                have HN := Lib.hid (show ∀ m, m < j + 1 → idg q m ≠ idg q k from fun m hm => by
                  rcases Nat.lt_or_ge m j with h' | h'
                  · exact hno m h'
                  · obtain rfl : m = j := by omega
                    exact he)
                generalize (ptg q j).2 = u at z1 he'
                generalize (ptg q k).2 = v at z2 he'
                have hjn : j < q.length := by omega
                clear he hno
                go_wp2_with fail
                go_quiet (fail)
                go_wp2
                go_roundw
                case rel => exact ⟨j + 1, by omega, by go_num, HN.out, below_drewN K _⟩
                case measure => simp [intOf]; omega
            · obtain rfl : j = k := by omega
              have HUP := Lib.hid (QUp.step hup HS.out hno)
              clear hno hup
              go_wp2
              go_roundw
              case rel => exact ⟨j + 1, by omega, by go_num, HUP.out, K⟩
              case measure => simp [intOf]; omega
        · have hc : ¬ cmpI ((ptg q j).1, (ptg q j).2) ((ptg q k).1, (ptg q k).2) < 0 := fun g => hs (cmpI_neg.1 g)
          have hc2 : decide (cmpI ((ptg q j).1, (ptg q j).2) ((ptg q k).1, (ptg q k).2) ≥ 0) = true := decide_eq_true (by omega)
          have HF := Lib.hid (q_unsorted (q := q) (k := j) (by rw [HJ.out]; exact hlt) (by rw [HJ.out]; exact hs))
          obtain ⟨c, HC⟩ : ∃ c, Hid (cmpI ((ptg q j).1, (ptg q j).2) ((ptg q k).1, (ptg q k).2) = c) := ⟨_, Lib.hid rfl⟩
          rw [HC.out] at hc hc2
          clear hs hup
          go_wp2_with fail
          go_region_held3 (fun w' => ItS w b (off + j * 2) b (off + k * 2) (ptg q j).1 (ptg q j).2 (ptg q k).1 (ptg q k).2 w')
            (first | exact ItS.drew T | (refine ItS.under (by assumption) ?_; assumption))
            ((go_at_call 93; refine (l06Cmp_any _ _ _ _ _).mono ?_; rw [HC.out]; rintro e w3 ⟨rfl, b3⟩))
          rename_i hU
          obtain ⟨-, -, -, -, K⟩ := hU
          clear T b3 HC
          go_wp2
          go_ret
          exact ⟨retB HF.out.symm, K⟩
    · obtain rfl : k = q.length := by omega
      have HT := Lib.hid (qB_iff.2 hup)
      clear hup
      go_wp2
      go_ret
      exact ⟨retB HT.out.symm, K⟩

set_option maxRecDepth 100000 in
set_option maxHeartbeats 4000000 in
theorem isSorted_any (A : Option Addr) (ca : Nat) (q : List (Int × Int)) (w : World) (hn : q.length ≤ 2097152) (h : IsPts w A q) :
    Calls Try.prog 83 #[.slice A q.length ca, .func (.func 80) #[] #[]] w fun e w' => e = .returned (.bool (sB q)) ∧ Below w.heap.size w w' := by
  rcases Nat.eq_zero_or_pos q.length with h0 | hp
  · have HT := Lib.hid (sB_iff.2 (show Dn q 0 from fun j hj hl => by omega))
    obtain rfl := List.eq_nil_of_length_eq_zero h0
    clear h0 h hn
    go_enter Try.func83, Try.ntmps83
    go_wp2
    refine wp_loop_rounds 1 ?_; rw [rounds_succ]
    go_wp2
    go_ret
    exact ⟨retB HT.out.symm, Below.refl _ _⟩
  · obtain ⟨b, off, rfl, -, -⟩ := h hp
    obtain ⟨m, hm⟩ : ∃ m, q.length = m + 1 := ⟨q.length - 1, by omega⟩
    have hw0 : (q.length : Int) - 1 = m := by omega
    have hw0' : IntKind.i64.wrap ((q.length : Int) - 1) = m := by rw [IntWalk.i64_in _ (by omega)]; exact hw0
    have hml : m < q.length := by omega
    have HM := Lib.hid hm
    clear hm
    go_enter Try.func83, Try.ntmps83
    go_wp2
    go_loopw [5] (fun i wr => ∃ k : Nat, k < q.length ∧ i = .int .i64 k ∧ Dn q k ∧ Below w.heap.size w wr) (fun i _ => (intOf i).toNat)
    case atStart => exact ⟨m, hml, by first | rfl | (rw [hw0]), fun j hj hl => by have := HM.out; omega, Below.refl _ _⟩
    case round =>
      clear hw0 hw0'
      obtain ⟨k, hlt, rfl, hdn, K⟩ := hrel
      rcases Nat.eq_zero_or_pos k with h0 | hp'
      · subst h0
        have HT := Lib.hid (sB_iff.2 hdn)
        clear hdn
        go_wp2
        go_ret
        exact ⟨retB HT.out.symm, K⟩
      · obtain ⟨j, hj⟩ : ∃ j, j + 1 = k := ⟨k - 1, by omega⟩
        have hd0 : decide ((k : Int) > 0) = true := decide_eq_true (by omega)
        have hd1 : decide (0 < k) = true := decide_eq_true (by omega)
        obtain ⟨b1, o1, e1, -, z1, z2⟩ := (h.below K).at_ (k := j) (by omega)
        cases e1
        obtain ⟨b2, o2, e2, -, z3, z4⟩ := (h.below K).at_ (k := k) hlt
        cases e2
        have hw1 : IntKind.i64.wrap ((k : Int) - 1) = j := by rw [IntWalk.i64_in _ (by omega)]; omega
        have hjn : j < q.length := by omega
        have hji : (j : Int) < q.length := by omega
        have T : ItS w b (off + j * 2) b (off + k * 2) (ptg q j).1 (ptg q j).2 (ptg q k).1 (ptg q k).2 _ := ⟨z1, z2, z3, z4, K⟩
        have HJ := Lib.hid hj
        have hkj : k - 1 = j := by omega
        have HKJ := Lib.hid hkj
        clear z1 z2 z3 z4 hj K hkj
        obtain ⟨c, HC⟩ : ∃ c, Hid (cmpI ((ptg q k).1, (ptg q k).2) ((ptg q j).1, (ptg q j).2) = c) := ⟨_, Lib.hid rfl⟩
        by_cases hs : ltI (ptg q k) (ptg q j)
        · have hc : c < 0 := by rw [← HC.out]; exact cmpI_neg.2 hs
          have HF := Lib.hid (sB_no (q := q) fun g => g k hp' hlt (by rw [HKJ.out]; exact hs))
          clear hs hdn
          go_wp2_with fail
          go_region_held3 (fun w' => ItS w b (off + j * 2) b (off + k * 2) (ptg q j).1 (ptg q j).2 (ptg q k).1 (ptg q k).2 w')
            (first | exact ItS.drew T | (refine ItS.under (by assumption) ?_; assumption))
            ((go_at_call 80; refine (itemCmp_any _ _ _ _ _).mono ?_; rw [HC.out]; rintro e w3 ⟨rfl, b3⟩))
          rename_i hU
          obtain ⟨-, -, -, -, K⟩ := hU
          clear T b3 HC
          go_wp2
          go_ret
          exact ⟨retB HF.out.symm, K⟩
        · have hc : ¬ c < 0 := by rw [← HC.out]; exact fun g => hs (cmpI_neg.1 g)
          have HD := Lib.hid (show Dn q j from fun i hi hl => by
            rcases Nat.eq_or_lt_of_le (show k ≤ i by have := HJ.out; omega) with h' | h'
            · subst h'; rw [HKJ.out]; exact hs
            · exact hdn i h' hl)
          clear hs hdn
          go_wp2_with fail
          go_region_held3 (fun w' => ItS w b (off + j * 2) b (off + k * 2) (ptg q j).1 (ptg q j).2 (ptg q k).1 (ptg q k).2 w')
            (first | exact ItS.drew T | (refine ItS.under (by assumption) ?_; assumption))
            ((go_at_call 80; refine (itemCmp_any _ _ _ _ _).mono ?_; rw [HC.out]; rintro e w3 ⟨rfl, b3⟩))
          rename_i hU
          obtain ⟨-, -, -, -, K⟩ := hU
          clear T b3 HC
          go_wp2
          go_roundw
          case rel => exact ⟨j, by omega, by have := HJ.out; exact congrArg (Value.int .i64) (by omega), HD.out, K⟩
          case measure => have := HJ.out; simp [intOf]; omega

theorem Try.law : Keyed Try.prog 3 := int_keyed Try.underlying3
theorem Try.zeroI (w : World) : (zeroValue 3).run Try.prog w = .ok (.int .i64 0) w := by kernel_rfl

theorem makeMap_hint (n : Nat) (w : World) : (Instr.makeMap 105 (some (.int .i64 (n : Int)))).run Try.prog w = .ok (.map (some w.heap.size)) (w.alloc (.map #[] 0)) := by
  simp [Instr.makeMap, run_underlying Try.underlying105, asInt, asIntOf]

/-- A map of the places of items, of the call's own. -/
def PlMade (w : World) (q : List (Int × Int)) (e : Ending) (w' : World) : Prop :=
  ∃ (B : Nat) (D : DataW Unit), e = .returned (.map (some B)) ∧ w.heap.size ≤ B ∧ w'.ownsMap Try.prog 3 (plainElem Try.prog 3) B q.length D ∧ PlUp q q.length D ∧ Below w.heap.size w w'

theorem ownsMap_below {w w' : World} {b n : Nat} {D : DataW Unit} (h : w.ownsMap Try.prog 3 (plainElem Try.prog 3) b n D) (hb : Below w.heap.size w w') : w'.ownsMap Try.prog 3 (plainElem Try.prog 3) b n D := by
  have hl := h.lt
  obtain ⟨es, clock, h1, r⟩ := h
  exact ⟨es, clock, (hb.block b hl).trans h1, r⟩

set_option maxRecDepth 100000 in
set_option maxHeartbeats 4000000 in
theorem placesOf_any (A : Option Addr) (ca : Nat) (q : List (Int × Int)) (w : World) (hn : q.length ≤ 2097152) (h : IsPts w A q) (hi64 : ∀ i, i < q.length → In64 (idg q i)) :
    Calls Try.prog 84 #[.slice A q.length ca] w (PlMade w q) := by
  have hmm := makeMap_hint q.length
  go_enter Try.func84, Try.ntmps84
  go_wp2
  go_loopw [11] (fun i wr => ∃ (k : Nat) (D : DataW Unit), k ≤ q.length ∧ i = .int .i64 k ∧ wr.ownsMap Try.prog 3 (plainElem Try.prog 3) w.heap.size k D ∧ PlUp q k D ∧ Below w.heap.size w wr) (fun i _ => q.length - (intOf i).toNat)
  case atStart => exact ⟨0, _, by omega, rfl, World.ownsMap_made _ _ _ _, plUp_start q, (Below.refl _ _).alloc (Nat.le_refl _) _⟩
  case round =>
    obtain ⟨k, D, hk, rfl, hown, hpl, K⟩ := hrel
    clear hmm
    by_cases hlt : k < q.length
    · obtain ⟨b, off, rfl, -, z1, z2⟩ := (h.below K).at_ (k := k) hlt
      have hwf := hi64 k hlt
      have HP := Lib.hid (hpl.step)
      have kb := below1 wr (.cells #[.int .i64 (ptg q k).1, .int .i64 (ptg q k).2] 45)
      have hown' := ownsMap_below hown kb
      have K' := K.trans (kb.mono K.size)
      have hKs := K.size
      have hix : (ptg q k).2 = idg q k := rfl
      rw [hix] at z2 kb hown' K'
      obtain ⟨x, hx⟩ : ∃ x, x = (ptg q k).1 := ⟨_, rfl⟩
      rw [← hx] at z1 hown' K'
      generalize idg q k = y at z2 hown' K' HP hwf
      clear hx hix kb hown K hpl
      go_wp2_with (at_mapUpdate; refine wpList_mapUpdate_own _ rfl _ _ _ 105 rfl 3 3 Try.law Try.underlying105 _ w.heap.size k D rfl hown' (by unfold maxLen; omega) _ _ _ rfl rfl (keyOf_int_mk Try.underlying3 (WalkArith.wf_i64 hwf)) _ [] (plainElem_int Try.underlying3 (WalkArith.wf_i64 (by omega))) ?_; intro w1 hown1 hgrow1)
      go_roundw
      case rel => exact ⟨k + 1, _, by omega, by go_num, hown1, HP.out, K'.grown hgrow1 K'.size (fun g e => by injection e with e; omega)⟩
      case measure => simp [intOf]; omega
    · obtain rfl : k = q.length := by omega
      go_wp2
      go_ret
      exact ⟨_, D, rfl, Nat.le_refl _, hown, hpl, K⟩

set_option maxRecDepth 100000 in
set_option maxHeartbeats 4000000 in
theorem implQueueOk_any (A : Option Addr) (ca : Nat) (q : List (Int × Int)) (w : World) (hn : q.length ≤ 2097152) (h : IsPts w A q) (hi64 : ∀ i, i < q.length → In64 (idg q i)) :
    Calls Try.prog 34 #[.slice A q.length ca] w fun e w' => e = .returned (.bool (qB q)) ∧ Below w.heap.size w w' := by
  have HQ := Lib.hid (qB_eq q)
  have HS := Lib.hid (isSorted_any A ca q w hn h)
  cases hs : sB q with
  | false =>
    rw [hs] at HS HQ
    go_enter Try.func34, Try.ntmps34
    go_wp2_with fail
    refine HS.out.mono ?_; rintro e w1 ⟨rfl, b1⟩
    go_wp2
    go_ret
    exact ⟨by rw [HQ.out]; rfl, b1⟩
  | true =>
    rw [hs] at HS HQ
    go_enter Try.func34, Try.ntmps34
    go_wp2_with fail
    refine HS.out.mono ?_; rintro e w1 ⟨rfl, b1⟩
    go_wp2_with fail
    refine (placesOf_any A ca q w1 hn (h.below b1) hi64).mono ?_; rintro e w2 ⟨B, D, rfl, hB, hown, hpl, b2⟩
    have K := b1.trans (b2.mono b1.size)
    have HSZ := Lib.hid hpl.size
    clear b1 b2 hpl HS hs
    have hlen := fun ty => hown.len Try.underlying105 ty
    go_wp2
    go_ret
    exact ⟨by rw [HQ.out, HSZ.out]; simp; exact eqN _ _, K⟩

end Go.Proofs.Ytdobiapnkdgjoaa
