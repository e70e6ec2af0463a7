/-
  What slices.Clone gives over items, and what spec.QueuePop and impl.QueuePop compute.
-/
import Derived.Test.YtdobiapnkdgjoaaQueueOk
import Derived.Test.YtdobiapnkdgjoaaLinked
import Derived.Test.YtdobiapnkdgjoaaTurn
namespace Go.Proofs.Ytdobiapnkdgjoaa
open Go.RowKit Go.Deep Go.Maps

theorem ownI_is {w : World} {base : Nat} {v : Value} {ps : List (Int × Int)} (h : w.ownsRow base 45 2 v ps.length (cellsP ps)) : ∃ A cap, v = .slice A ps.length cap ∧ ps.length ≤ cap ∧ (0 < ps.length → ∃ g, A = some ⟨g, 0, none⟩ ∧ base ≤ g ∧ OwnAt w g 45 0 (ps.length * 2) (flatP ps)) := by
  rcases h.2 with ⟨h1, h2⟩ | ⟨g, cap, cur, h1, h2, h3, h4, h5, h6, h7⟩
  · exact ⟨none, 0, by rw [h1, h2], by omega, fun hp => by omega⟩
  · refine ⟨_, cap, h1, h4, fun _ => ⟨g, rfl, h2, cur, h3, by omega, fun i hi => ?_⟩⟩
    have e : (cur.toList.take (ps.length * 2))[i]? = (cellsP ps)[i]? := by rw [h7]
    rw [List.getElem?_take, if_pos hi, Array.getElem?_toList, cellsP_get _ _ hi] at e
    rw [Nat.zero_add, e]

set_option maxRecDepth 100000 in
/-- Items appended to a row that is one's own, out of any slice. -/
theorem run_append_items {w : World} (ty : TypeId) (base : Nat) (v : Value) (n : Nat) (xs : List Value) (hown : w.ownsRow base 45 2 v n xs) (A : Option Addr) (m c : Nat) (ps : List (Int × Int)) (hm : ps.length = m) (hA : IsPts w A ps)
    (h63 : n + m ≤ 8388608) (hbase : base ≤ w.heap.size) :
    ∃ v' w', (Builtin.append_ #[43, 43] ty #[v, .slice A m c]).run Try.prog w = .ok v' w' ∧ w'.ownsRow base 45 2 v' (n + m) (xs ++ cellsP ps) ∧ w.grownBy w' v.ownBlock ∧ (v'.ownBlock = v.ownBlock ∨ v'.ownBlock = some w.heap.size) := by
  obtain ⟨i0, hi, hz0, hz1, hz2⟩ := info_parts Try.infoItem
  subst hm
  cases A with
  | none =>
    have h0 : ps.length = 0 := by
      rcases Nat.eq_zero_or_pos ps.length with h | h
      · exact h
      · obtain ⟨b, off, e, -⟩ := hA h; cases e
    obtain rfl := List.eq_nil_of_length_eq_zero h0
    obtain ⟨a0, cap0, rfl, hle⟩ : ∃ a0 cap0, v = .slice a0 n cap0 ∧ n ≤ cap0 := by
      rcases hown.2 with ⟨h1, h2⟩ | ⟨g, cap, cur, h1, h2, h3, h4, _⟩
      · exact ⟨none, 0, by rw [h1, h2], by omega⟩
      · exact ⟨_, cap, h1, h4⟩
    have hs : Src Try.prog i0.size 43 (.slice none 0 c) 0 [] w := Src.ofNil w Try.underlying43 c
    refine ⟨_, w, run_append_nothing w 43 43 ty 45 i0 Try.underlying43 hi a0 n cap0 hle _ hs, ?_, ⟨rfl, rfl, rfl, Nat.le_refl _, fun _ _ _ => rfl⟩, .inl rfl⟩
    simpa [cellsP] using hown
  | some a =>
    obtain ⟨v', w', h1, h2, h3, -, h5⟩ := run_append_own_at (P := Try.prog) w base 43 ty 45 i0 (.agg #[.int .i64 0, .int .i64 0]) 2 16 Try.underlying43 hi hz0 hz1 hz2 rfl (by decide) v n xs hown a ps.length c (cellsP ps) (cellsP_len _) hA.news' (cellsP_one _) (by unfold maxLen; omega) (by omega) hbase
    exact ⟨v', w', h1, h2, h3, h5⟩

/-- Items of the call's own. -/
def ItsMade (w : World) (ps : List (Int × Int)) (e : Ending) (w' : World) : Prop := ∃ v', e = .returned v' ∧ w'.ownsRow w.heap.size 45 2 v' ps.length (cellsP ps) ∧ Below w.heap.size w w'

set_option maxRecDepth 100000 in
set_option maxHeartbeats 2000000 in
theorem cloneIts_any (A : Option Addr) (m c : Nat) (ps : List (Int × Int)) (w : World) (hm : ps.length = m) (hbig : m ≤ 2097152) (hc : IsPts w A ps) :
    Calls Try.prog 82 #[.slice A m c] w (ItsMade w ps) := by
  have q22 : ∀ (w : World) (a : Option Addr) (n c n' c' : Nat), (binOp .eql 43 (.slice a n c) (.slice none n' c')).run Try.prog w = .ok (.bool a.isNone) w := fun w a n c n' c' => Lib.run_eql_slice_nil w _ _ a n c n' c' Try.underlying43
  cases A with
  | none =>
    have h0 : ps.length = 0 := by
      rcases Nat.eq_zero_or_pos ps.length with h | h
      · exact h
      · obtain ⟨b, off, e, -⟩ := hc h; cases e
    obtain rfl := List.eq_nil_of_length_eq_zero h0
    subst hm
    clear h0 hc
    go_enter Try.func82, Try.ntmps82
    go_wp2
    go_ret
    exact ⟨_, rfl, World.ownsRow_nil _ _ _ _, Below.refl _ _⟩
  | some ad =>
    have kb := below1 w (.cells #[] 45)
    have own0 := World.ownsRow_made (base := w.heap.size) (size := 2) (e := 45) w #[] 0 (Nat.le_refl _) (by decide) rfl
    obtain ⟨v', w', hr, own', g', -⟩ := run_append_items (ty := 43) _ _ _ _ own0 (some ad) m c ps hm (hc.below kb) (by omega) (by simp)
    have K' : Below w.heap.size w w' := kb.grown g' kb.size (fun g e => (World.ownsRow.lt own0 g e).1)
    have own2 : w'.ownsRow w.heap.size 45 2 v' ps.length (cellsP ps) := by rw [hm]; simpa using own'
    clear own0 own' g' kb
    go_enter Try.func82, Try.ntmps82
    go_wp2_with (at_builtin; refine Lib.wpList_append_run _ rfl _ _ _ _ rfl _ _ rfl rfl _ _ hr ?_)
    go_ret
    exact ⟨v', rfl, own2, K'⟩

noncomputable def popB (q : List (Int × Int)) : Bool := qB q && decide (0 < q.length)
noncomputable def popH (q : List (Int × Int)) : Int × Int := if popB q = true then ptg q 0 else (0, 0)
noncomputable def popR (q : List (Int × Int)) : List (Int × Int) := if popB q = true then q.drop 1 else []
theorem popR_len (q : List (Int × Int)) : (popR q).length ≤ q.length := by unfold popR; split <;> simp
/-- What QueuePop answers. -/
def PopMade (w : World) (q : List (Int × Int)) (e : Ending) (w' : World) : Prop :=
  ∃ A cap, e = .returned (.tuple #[.agg #[.int .i64 (popH q).1, .int .i64 (popH q).2], .slice A (popR q).length cap, .bool (popB q)]) ∧ (popR q).length ≤ cap ∧ OwnSl w' w.heap.size 45 A ((popR q).length * 2) (flatP (popR q)) ∧ Below w.heap.size w w'
theorem popMade_no {w w' : World} {q : List (Int × Int)} (h : popB q = false) (A : Option Addr) (c : Nat) (K : Below w.heap.size w w') : PopMade w q (.returned (.tuple #[.agg #[.int .i64 0, .int .i64 0], .slice A 0 c, .bool false])) w' := by
  have e1 : popH q = (0, 0) := by unfold popH; rw [h]; simp
  have e2 : popR q = [] := by unfold popR; rw [h]; simp
  unfold PopMade
  rw [e1, e2, h]
  exact ⟨A, c, rfl, Nat.zero_le _, fun hp => by simp at hp, K⟩
theorem popMade_yes {w w' : World} {q : List (Int × Int)} {v : Value} (h : popB q = true) (own : w'.ownsRow w.heap.size 45 2 v (q.drop 1).length (cellsP (q.drop 1))) (K : Below w.heap.size w w') : PopMade w q (.returned (.tuple #[.agg #[.int .i64 (ptg q 0).1, .int .i64 (ptg q 0).2], v, .bool true])) w' := by
  have e1 : popH q = ptg q 0 := by unfold popH; rw [if_pos h]
  have e2 : popR q = q.drop 1 := by unfold popR; rw [if_pos h]
  unfold PopMade
  rw [e1, e2, h]
  obtain ⟨A, cap, rfl, h1, h2⟩ := ownI_is own
  exact ⟨A, cap, rfl, h1, fun hp => by obtain ⟨g, e, hg, ho⟩ := h2 (by omega); exact ⟨g, 0, e, hg, ho⟩, K⟩

theorem isPts_tail {w : World} {b off : Nat} {q : List (Int × Int)} (hp : 0 < q.length) (h : IsPts w (some ⟨b, off, none⟩) q) : IsPts w (some ⟨b, off + 2, none⟩) (q.drop 1) := fun _ => by
  obtain ⟨b', off', e, hb, hc⟩ := h hp
  cases e
  refine ⟨b, off + 2, rfl, hb, fun i hi => ?_⟩
  rw [List.length_drop] at hi
  have e : ptg (q.drop 1) i = ptg q (i + 1) := by unfold ptg; simp [List.getElem?_drop, Nat.add_comm]
  rw [e]
  obtain ⟨h1, h2⟩ := hc (i + 1) (by omega)
  rw [show off + (i + 1) * 2 = off + 2 + i * 2 by omega] at h1 h2
  exact ⟨h1, h2⟩
theorem isPts_tail_none {w : World} {A : Option Addr} {q : List (Int × Int)} (h : q.length = 1) : IsPts w A (q.drop 1) := fun hp => by rw [List.length_drop] at hp; omega

/-- The first item, and nothing older has turned. -/
abbrev FstS (w : World) (b o : Nat) (x y : Int) (w' : World) : Prop := w'.cell? ⟨b, o, none⟩ = some (.int .i64 x) ∧ w'.cell? ⟨b, o + 1, none⟩ = some (.int .i64 y) ∧ Below w.heap.size w w'

set_option maxRecDepth 100000 in
set_option maxHeartbeats 4000000 in
theorem implQueuePop_any (A : Option Addr) (ca : Nat) (q : List (Int × Int)) (w : World) (hn : q.length ≤ 1048576) (hca : q.length ≤ ca) (h : IsPts w A q) (hi64 : ∀ i, i < q.length → In64 (idg q i)) :
    Calls Try.prog 33 #[.slice A q.length ca] w (PopMade w q) := by
  have R := Pair.new w 45 (.int .i64 0) (.int .i64 0)
  have KB := below1 w (.cells #[.int .i64 0, .int .i64 0] 45)
  have HQ := Lib.hid (implQueueOk_any A ca q _ (by omega) (h.below KB) hi64)
  cases hq : qB q with
  | false =>
    rw [hq] at HQ
    have HP := Lib.hid (show popB q = false by unfold popB; rw [hq]; rfl)
    go_enter Try.func33, Try.ntmps33
    go_wp2_with fail
    refine HQ.out.mono ?_; rintro e w1 ⟨rfl, b1⟩
    replace R := R.below b1
    replace KB := KB.trans (b1.mono KB.size)
    clear b1 HQ
    obtain ⟨r0, r1, r2, r3⟩ := R.cells
    go_wp2
    exact bodyPost_ret (v := .tuple #[.agg #[.int .i64 0, .int .i64 0], .slice none 0 0, .bool false]) (by simp [results, Try.results33, go_sem, r0, r1]) rfl (popMade_no HP.out _ _ ((KB.setCell (by simp) _).setCell (by simp) _))
  | true =>
    rw [hq] at HQ
    rcases Nat.eq_zero_or_pos q.length with h0 | hp
    · have HP := Lib.hid (show popB q = false by unfold popB; rw [h0]; simp)
      have hz : ((q.length : Int) == 0) = true := by rw [h0]; rfl
      clear h0
      go_enter Try.func33, Try.ntmps33
      go_wp2_with fail
      refine HQ.out.mono ?_; rintro e w1 ⟨rfl, b1⟩
      replace R := R.below b1
      replace KB := KB.trans (b1.mono KB.size)
      clear b1 HQ
      obtain ⟨r0, r1, r2, r3⟩ := R.cells
      go_wp2
      exact bodyPost_ret (v := .tuple #[.agg #[.int .i64 0, .int .i64 0], .slice none 0 0, .bool false]) (by simp [results, Try.results33, go_sem, r0, r1]) rfl (popMade_no HP.out _ _ ((KB.setCell (by simp) _).setCell (by simp) _))
    · have HP := Lib.hid (show popB q = true by unfold popB; rw [hq]; simp; omega)
      have hz : ((q.length : Int) == 0) = false := beq_false_of_ne (by omega)
      have hy1 : ¬ ((q.length : Int) < 1) := by omega
      obtain ⟨b, off, rfl, hb, hc⟩ := h hp
      have HL := Lib.hid (List.length_drop (l := q) (i := 1))
      by_cases hc1 : ca = 1
      · subst hc1
        go_enter Try.func33, Try.ntmps33
        go_wp2_with fail
        refine HQ.out.mono ?_; rintro e w1 ⟨rfl, b1⟩
        replace R := R.below b1
        replace KB := KB.trans (b1.mono KB.size)
        have hR := R.lt
        have hbw : b < w1.heap.size := by have := KB.size; omega
        clear b1 HQ
        obtain ⟨c0, c1⟩ := hc 0 hp
        rw [Nat.zero_mul, Nat.add_zero] at c0 c1
        have T : FstS w b off (ptg q 0).1 (ptg q 0).2 w1 := ⟨(KB.cell (p := ⟨b, off, none⟩) hb).trans c0, (KB.cell (p := ⟨b, off + 1, none⟩) hb).trans c1, KB⟩
        clear c0 c1 hc
        obtain ⟨x, hx⟩ : ∃ x, x = (ptg q 0).1 := ⟨_, rfl⟩
        obtain ⟨y, hy⟩ : ∃ y, y = (ptg q 0).2 := ⟨_, rfl⟩
        rw [← hx, ← hy] at T
        have HX := Lib.hid hx
        have HY := Lib.hid hy
        clear hx hy
        go_wp2_with fail
        refine wp_region_held_drew (S := (fun w' => FstS w b off x y w')) (by kernel_rfl) ?_ (fun hHeld => ?_)
        · exact ⟨T.1, T.2.1, T.2.2.drew⟩
        clear T
        refine wpAnyH_take (i := 0) (oi := ⟨some 14, _, _, _, _, _⟩) (v := .slice (some ⟨b, off, none⟩) q.length 1) rfl (by kernel_rfl) (by kernel_rfl) (by kernel_rfl) (fun _ _ _ h => h) (Or.inl ⟨by rfl, fun w' hw => ?hy⟩) hHeld ?_
        case hy => (try dsimp only at hw); go_simp
        simp only [Act.put, List.setIfInBounds_toArray, List.set_cons_zero, List.set_cons_succ]
        refine wpAnyH_take (i := 1) (oi := ⟨some 15, _, _, _, _, _⟩) (v := .pointer (some ⟨b, off, none⟩)) rfl (by kernel_rfl) (by kernel_rfl) (by kernel_rfl) (fun _ _ _ h => h) (Or.inl ⟨by rfl, fun w' hw => ?hy⟩) hHeld ?_
        case hy => (try dsimp only at hw); go_simp
        simp only [Act.put, List.setIfInBounds_toArray, List.set_cons_zero, List.set_cons_succ]
        refine wpAnyH_take (i := 2) (oi := ⟨some 16, _, _, _, _, _⟩) (v := .agg #[.int .i64 x, .int .i64 y]) rfl (by kernel_rfl) (by kernel_rfl) (by kernel_rfl) (fun _ _ _ h => h) (Or.inl ⟨by rfl, fun w' hw => ?hy⟩) hHeld ?_
        case hy => (try dsimp only at hw); have hx0 := hw.1; have hx1 := hw.2.1; clear hw; go_simp
        simp only [Act.put, List.setIfInBounds_toArray, List.set_cons_zero, List.set_cons_succ]
        refine wpAnyH_take (i := 3) (oi := ⟨some 17, _, _, _, _, _⟩) (v := .slice (some ⟨b, off, none⟩) q.length 1) rfl (by kernel_rfl) (by kernel_rfl) (by kernel_rfl) (fun _ _ _ h => h) (Or.inl ⟨by rfl, fun w' hw => ?hy⟩) hHeld ?_
        case hy => (try dsimp only at hw); go_simp
        simp only [Act.put, List.setIfInBounds_toArray, List.set_cons_zero, List.set_cons_succ]
        refine wpAnyH_take (i := 4) (oi := ⟨some 18, _, _, _, _, _⟩) (v := .slice (some ⟨b, off, none⟩) 0 0) rfl (by kernel_rfl) (by kernel_rfl) (by kernel_rfl) (fun _ _ _ h => h) (Or.inl ⟨by rfl, fun w' hw => ?hy⟩) hHeld ?_
        case hy => (try dsimp only at hw); go_simp
        simp only [Act.put, List.setIfInBounds_toArray, List.set_cons_zero, List.set_cons_succ]
        have KX := KB.drew
        refine wpAnyH_ready (rs := [5]) (by kernel_rfl) (by simp) ?_
        refine AllReadyH.cons (o := ⟨some 19, _, _, _, _, _⟩) rfl (fun K hK => ?_) AllReadyH.nil
        go_simp
        refine (cloneIts_any (some ⟨b, off, none⟩) 0 0 (q.drop 1) _ (by rw [HL.out]; omega) (by omega) (isPts_tail_none (by omega))).mono ?_; rintro e w2 ⟨v2, rfl, own', b2⟩
        go_wp2_with fail
        refine hK.out _ _ ?_ (fun hHeld => ?_)
        · exact ⟨(b2.cell (p := ⟨b, off, none⟩) hbw).trans hHeld.1, (b2.cell (p := ⟨b, off + 1, none⟩) hbw).trans hHeld.2.1, hHeld.2.2.trans (b2.mono hHeld.2.2.size)⟩
        clear hK K
        try simp only [Act.put, List.setIfInBounds_toArray, List.set_cons_zero, List.set_cons_succ]
        have K2 := hHeld.2.2
        have R2 := Pair.below (w := w1.drew) R b2
        have own2 : w2.ownsRow w1.heap.size 45 2 v2 (q.drop 1).length (cellsP (q.drop 1)) := own'
        clear own' b2
        obtain ⟨r0, r1, r2, r3⟩ := R2.cells
        refine wpAnyH_ready (rs := [6]) (by kernel_rfl) (by simp) ?_
        refine AllReadyH.cons (o := ⟨none, _, _, _, _, _⟩) rfl (fun K hK => ?_) AllReadyH.nil
        go_simp
        refine hK.out _ _ ?_ (fun hHeld => ?_)
        · exact ⟨by rw [World.cell?_setCell_far _ _ _ _ (by simp; omega), World.cell?_setCell_far _ _ _ _ (by simp; omega)]; exact hHeld.1, by rw [World.cell?_setCell_far _ _ _ _ (by simp; omega), World.cell?_setCell_far _ _ _ _ (by simp; omega)]; exact hHeld.2.1, (K2.setCell (by simp) _).setCell (by simp) _⟩
        clear hK K
        try simp only [Act.put, List.setIfInBounds_toArray, List.set_cons_zero, List.set_cons_succ]
        refine wpAnyH_take (i := 7) (oi := ⟨some 3, _, _, _, _, _⟩) (v := v2) rfl (by kernel_rfl) (by kernel_rfl) (by kernel_rfl) (fun _ _ _ h => h) (Or.inl ⟨by rfl, fun w' hw => ?hy⟩) hHeld ?_
        case hy => (try dsimp only at hw); go_simp
        simp only [Act.put, List.setIfInBounds_toArray, List.set_cons_zero, List.set_cons_succ]
        refine wpAnyH_take (i := 8) (oi := ⟨some 4, _, _, _, _, _⟩) (v := .bool true) rfl (by kernel_rfl) (by kernel_rfl) (by kernel_rfl) (fun _ _ _ h => h) (Or.inl ⟨by rfl, fun w' hw => ?hy⟩) hHeld ?_
        case hy => (try dsimp only at hw); go_simp
        simp only [Act.put, List.setIfInBounds_toArray, List.set_cons_zero, List.set_cons_succ]
        refine wpAnyH_done (by kernel_rfl) ?_ _
        clear hHeld
        obtain ⟨A2, c2, rfl, -, -⟩ := ownI_is own2
        have own3 := ownsRow_far (c := w.heap.size) (ownsRow_far (c := w.heap.size) own2 hR 0 (.int .i64 x)) hR 1 (.int .i64 y)
        go_wp2
        refine bodyPost_ret (v := .tuple #[.agg #[.int .i64 x, .int .i64 y], .slice A2 (q.drop 1).length c2, .bool true]) (by simp [results, Try.results33, go_sem, r0, r1]) rfl ?_
        rw [HX.out, HY.out]
        exact popMade_yes HP.out (ownsRow_base (by rw [HX.out, HY.out] at own3; exact own3) (Nat.le_of_lt hR)) ((K2.setCell (by simp) _).setCell (by simp) _)
      · have hc2 : 1 < ca := by omega
        go_enter Try.func33, Try.ntmps33
        go_wp2_with fail
        refine HQ.out.mono ?_; rintro e w1 ⟨rfl, b1⟩
        replace R := R.below b1
        replace KB := KB.trans (b1.mono KB.size)
        have hR := R.lt
        have hbw : b < w1.heap.size := by have := KB.size; omega
        clear b1 HQ
        obtain ⟨c0, c1⟩ := hc 0 hp
        rw [Nat.zero_mul, Nat.add_zero] at c0 c1
        have T : FstS w b off (ptg q 0).1 (ptg q 0).2 w1 := ⟨(KB.cell (p := ⟨b, off, none⟩) hb).trans c0, (KB.cell (p := ⟨b, off + 1, none⟩) hb).trans c1, KB⟩
        clear c0 c1 hc
        obtain ⟨x, hx⟩ : ∃ x, x = (ptg q 0).1 := ⟨_, rfl⟩
        obtain ⟨y, hy⟩ : ∃ y, y = (ptg q 0).2 := ⟨_, rfl⟩
        rw [← hx, ← hy] at T
        have HX := Lib.hid hx
        have HY := Lib.hid hy
        clear hx hy
        go_wp2_with fail
        refine wp_region_held_drew (S := (fun w' => FstS w b off x y w')) (by kernel_rfl) ?_ (fun hHeld => ?_)
        · exact ⟨T.1, T.2.1, T.2.2.drew⟩
        clear T
        refine wpAnyH_take (i := 0) (oi := ⟨some 14, _, _, _, _, _⟩) (v := .slice (some ⟨b, off, none⟩) q.length ca) rfl (by kernel_rfl) (by kernel_rfl) (by kernel_rfl) (fun _ _ _ h => h) (Or.inl ⟨by rfl, fun w' hw => ?hy⟩) hHeld ?_
        case hy => (try dsimp only at hw); go_simp
        simp only [Act.put, List.setIfInBounds_toArray, List.set_cons_zero, List.set_cons_succ]
        refine wpAnyH_take (i := 1) (oi := ⟨some 15, _, _, _, _, _⟩) (v := .pointer (some ⟨b, off, none⟩)) rfl (by kernel_rfl) (by kernel_rfl) (by kernel_rfl) (fun _ _ _ h => h) (Or.inl ⟨by rfl, fun w' hw => ?hy⟩) hHeld ?_
        case hy => (try dsimp only at hw); go_simp
        simp only [Act.put, List.setIfInBounds_toArray, List.set_cons_zero, List.set_cons_succ]
        refine wpAnyH_take (i := 2) (oi := ⟨some 16, _, _, _, _, _⟩) (v := .agg #[.int .i64 x, .int .i64 y]) rfl (by kernel_rfl) (by kernel_rfl) (by kernel_rfl) (fun _ _ _ h => h) (Or.inl ⟨by rfl, fun w' hw => ?hy⟩) hHeld ?_
        case hy => (try dsimp only at hw); have hx0 := hw.1; have hx1 := hw.2.1; clear hw; go_simp
        simp only [Act.put, List.setIfInBounds_toArray, List.set_cons_zero, List.set_cons_succ]
        refine wpAnyH_take (i := 3) (oi := ⟨some 17, _, _, _, _, _⟩) (v := .slice (some ⟨b, off, none⟩) q.length ca) rfl (by kernel_rfl) (by kernel_rfl) (by kernel_rfl) (fun _ _ _ h => h) (Or.inl ⟨by rfl, fun w' hw => ?hy⟩) hHeld ?_
        case hy => (try dsimp only at hw); go_simp
        simp only [Act.put, List.setIfInBounds_toArray, List.set_cons_zero, List.set_cons_succ]
        refine wpAnyH_take (i := 4) (oi := ⟨some 18, _, _, _, _, _⟩) (v := .slice (some ⟨b, off + 2, none⟩) (q.length - 1) (ca - 1)) rfl (by kernel_rfl) (by kernel_rfl) (by kernel_rfl) (fun _ _ _ h => h) (Or.inl ⟨by rfl, fun w' hw => ?hy⟩) hHeld ?_
        case hy => (try dsimp only at hw); go_simp
        simp only [Act.put, List.setIfInBounds_toArray, List.set_cons_zero, List.set_cons_succ]
        have KX := KB.drew
        refine wpAnyH_ready (rs := [5]) (by kernel_rfl) (by simp) ?_
        refine AllReadyH.cons (o := ⟨some 19, _, _, _, _, _⟩) rfl (fun K hK => ?_) AllReadyH.nil
        go_simp
        refine (cloneIts_any (some ⟨b, off + 2, none⟩) (q.length - 1) (ca - 1) (q.drop 1) _ HL.out (by omega) (isPts_tail hp (h.below KX))).mono ?_; rintro e w2 ⟨v2, rfl, own', b2⟩
        go_wp2_with fail
        refine hK.out _ _ ?_ (fun hHeld => ?_)
        · exact ⟨(b2.cell (p := ⟨b, off, none⟩) hbw).trans hHeld.1, (b2.cell (p := ⟨b, off + 1, none⟩) hbw).trans hHeld.2.1, hHeld.2.2.trans (b2.mono hHeld.2.2.size)⟩
        clear hK K
        try simp only [Act.put, List.setIfInBounds_toArray, List.set_cons_zero, List.set_cons_succ]
        have K2 := hHeld.2.2
        have R2 := Pair.below (w := w1.drew) R b2
        have own2 : w2.ownsRow w1.heap.size 45 2 v2 (q.drop 1).length (cellsP (q.drop 1)) := own'
        clear own' b2
        obtain ⟨r0, r1, r2, r3⟩ := R2.cells
        refine wpAnyH_ready (rs := [6]) (by kernel_rfl) (by simp) ?_
        refine AllReadyH.cons (o := ⟨none, _, _, _, _, _⟩) rfl (fun K hK => ?_) AllReadyH.nil
        go_simp
        refine hK.out _ _ ?_ (fun hHeld => ?_)
        · exact ⟨by rw [World.cell?_setCell_far _ _ _ _ (by simp; omega), World.cell?_setCell_far _ _ _ _ (by simp; omega)]; exact hHeld.1, by rw [World.cell?_setCell_far _ _ _ _ (by simp; omega), World.cell?_setCell_far _ _ _ _ (by simp; omega)]; exact hHeld.2.1, (K2.setCell (by simp) _).setCell (by simp) _⟩
        clear hK K
        try simp only [Act.put, List.setIfInBounds_toArray, List.set_cons_zero, List.set_cons_succ]
        refine wpAnyH_take (i := 7) (oi := ⟨some 3, _, _, _, _, _⟩) (v := v2) rfl (by kernel_rfl) (by kernel_rfl) (by kernel_rfl) (fun _ _ _ h => h) (Or.inl ⟨by rfl, fun w' hw => ?hy⟩) hHeld ?_
        case hy => (try dsimp only at hw); go_simp
        simp only [Act.put, List.setIfInBounds_toArray, List.set_cons_zero, List.set_cons_succ]
        refine wpAnyH_take (i := 8) (oi := ⟨some 4, _, _, _, _, _⟩) (v := .bool true) rfl (by kernel_rfl) (by kernel_rfl) (by kernel_rfl) (fun _ _ _ h => h) (Or.inl ⟨by rfl, fun w' hw => ?hy⟩) hHeld ?_
        case hy => (try dsimp only at hw); go_simp
        simp only [Act.put, List.setIfInBounds_toArray, List.set_cons_zero, List.set_cons_succ]
        refine wpAnyH_done (by kernel_rfl) ?_ _
        clear hHeld
        obtain ⟨A2, c2, rfl, -, -⟩ := ownI_is own2
        have own3 := ownsRow_far (c := w.heap.size) (ownsRow_far (c := w.heap.size) own2 hR 0 (.int .i64 x)) hR 1 (.int .i64 y)
        go_wp2
        refine bodyPost_ret (v := .tuple #[.agg #[.int .i64 x, .int .i64 y], .slice A2 (q.drop 1).length c2, .bool true]) (by simp [results, Try.results33, go_sem, r0, r1]) rfl ?_
        rw [HX.out, HY.out]
        exact popMade_yes HP.out (ownsRow_base (by rw [HX.out, HY.out] at own3; exact own3) (Nat.le_of_lt hR)) ((K2.setCell (by simp) _).setCell (by simp) _)

set_option maxRecDepth 100000 in
set_option maxHeartbeats 4000000 in
theorem specQueuePop_any (A : Option Addr) (ca : Nat) (q : List (Int × Int)) (w : World) (hn : q.length ≤ 1048576) (hca : q.length ≤ ca) (h : IsPts w A q) (hi64 : ∀ i, i < q.length → In64 (idg q i)) :
    Calls Try.prog 48 #[.slice A q.length ca] w (PopMade w q) := by
  have R := Pair.new w 45 (.int .i64 0) (.int .i64 0)
  have KB := below1 w (.cells #[.int .i64 0, .int .i64 0] 45)
  have HQ := Lib.hid (specQueueOk_any A ca q _ (by omega) (h.below KB))
  cases hq : qB q with
  | false =>
    rw [hq] at HQ
    have HP := Lib.hid (show popB q = false by unfold popB; rw [hq]; rfl)
    go_enter Try.func48, Try.ntmps48
    go_wp2_with fail
    refine HQ.out.mono ?_; rintro e w1 ⟨rfl, b1⟩
    replace R := R.below b1
    replace KB := KB.trans (b1.mono KB.size)
    clear b1 HQ
    obtain ⟨r0, r1, r2, r3⟩ := (R.alloc (.cells #[] 45)).cells
    go_wp2
    exact bodyPost_ret (v := .tuple #[.agg #[.int .i64 0, .int .i64 0], .slice (some ⟨w1.heap.size, 0, none⟩) 0 0, .bool false]) (by simp [results, Try.results48, go_sem, r0, r1]) rfl (popMade_no HP.out _ _ ((((KB.alloc KB.size _)).setCell (by simp) _).setCell (by simp) _))
  | true =>
    rw [hq] at HQ
    rcases Nat.eq_zero_or_pos q.length with h0 | hp
    · have HP := Lib.hid (show popB q = false by unfold popB; rw [h0]; simp)
      have hz : ((q.length : Int) == 0) = true := by rw [h0]; rfl
      clear h0
      go_enter Try.func48, Try.ntmps48
      go_wp2_with fail
      refine HQ.out.mono ?_; rintro e w1 ⟨rfl, b1⟩
      replace R := R.below b1
      replace KB := KB.trans (b1.mono KB.size)
      clear b1 HQ
      obtain ⟨r0, r1, r2, r3⟩ := (R.alloc (.cells #[] 45)).cells
      go_wp2
      exact bodyPost_ret (v := .tuple #[.agg #[.int .i64 0, .int .i64 0], .slice (some ⟨w1.heap.size, 0, none⟩) 0 0, .bool false]) (by simp [results, Try.results48, go_sem, r0, r1]) rfl (popMade_no HP.out _ _ ((((KB.alloc KB.size _)).setCell (by simp) _).setCell (by simp) _))
    · have HP := Lib.hid (show popB q = true by unfold popB; rw [hq]; simp; omega)
      have hz : ((q.length : Int) == 0) = false := beq_false_of_ne (by omega)
      have hy1 : ¬ ((q.length : Int) < 1) := by omega
      obtain ⟨b, off, rfl, hb, hc⟩ := h hp
      have HL := Lib.hid (List.length_drop (l := q) (i := 1))
      by_cases hc1 : ca = 1
      · subst hc1
        go_enter Try.func48, Try.ntmps48
        go_wp2_with fail
        refine HQ.out.mono ?_; rintro e w1 ⟨rfl, b1⟩
        replace R := R.below b1
        replace KB := KB.trans (b1.mono KB.size)
        have hR := R.lt
        have hbw : b < w1.heap.size := by have := KB.size; omega
        clear b1 HQ
        obtain ⟨c0, c1⟩ := hc 0 hp
        rw [Nat.zero_mul, Nat.add_zero] at c0 c1
        have T : FstS w b off (ptg q 0).1 (ptg q 0).2 w1 := ⟨(KB.cell (p := ⟨b, off, none⟩) hb).trans c0, (KB.cell (p := ⟨b, off + 1, none⟩) hb).trans c1, KB⟩
        clear c0 c1 hc
        obtain ⟨x, hx⟩ : ∃ x, x = (ptg q 0).1 := ⟨_, rfl⟩
        obtain ⟨y, hy⟩ : ∃ y, y = (ptg q 0).2 := ⟨_, rfl⟩
        rw [← hx, ← hy] at T
        have HX := Lib.hid hx
        have HY := Lib.hid hy
        clear hx hy
        go_wp2_with fail
        refine wp_region_held_drew (S := (fun w' => FstS w b off x y w')) (by kernel_rfl) ?_ (fun hHeld => ?_)
        · exact ⟨T.1, T.2.1, T.2.2.drew⟩
        clear T
        refine wpAnyH_take (i := 0) (oi := ⟨some 15, _, _, _, _, _⟩) (v := .slice (some ⟨b, off, none⟩) q.length 1) rfl (by kernel_rfl) (by kernel_rfl) (by kernel_rfl) (fun _ _ _ h => h) (Or.inl ⟨by rfl, fun w' hw => ?hy⟩) hHeld ?_
        case hy => (try dsimp only at hw); go_simp
        simp only [Act.put, List.setIfInBounds_toArray, List.set_cons_zero, List.set_cons_succ]
        refine wpAnyH_take (i := 1) (oi := ⟨some 16, _, _, _, _, _⟩) (v := .pointer (some ⟨b, off, none⟩)) rfl (by kernel_rfl) (by kernel_rfl) (by kernel_rfl) (fun _ _ _ h => h) (Or.inl ⟨by rfl, fun w' hw => ?hy⟩) hHeld ?_
        case hy => (try dsimp only at hw); go_simp
        simp only [Act.put, List.setIfInBounds_toArray, List.set_cons_zero, List.set_cons_succ]
        refine wpAnyH_take (i := 2) (oi := ⟨some 17, _, _, _, _, _⟩) (v := .agg #[.int .i64 x, .int .i64 y]) rfl (by kernel_rfl) (by kernel_rfl) (by kernel_rfl) (fun _ _ _ h => h) (Or.inl ⟨by rfl, fun w' hw => ?hy⟩) hHeld ?_
        case hy => (try dsimp only at hw); have hx0 := hw.1; have hx1 := hw.2.1; clear hw; go_simp
        simp only [Act.put, List.setIfInBounds_toArray, List.set_cons_zero, List.set_cons_succ]
        refine wpAnyH_take (i := 4) (oi := ⟨some 19, _, _, _, _, _⟩) (v := .slice (some ⟨b, off, none⟩) q.length 1) rfl (by kernel_rfl) (by kernel_rfl) (by kernel_rfl) (fun _ _ _ h => h) (Or.inl ⟨by rfl, fun w' hw => ?hy⟩) hHeld ?_
        case hy => (try dsimp only at hw); go_simp
        simp only [Act.put, List.setIfInBounds_toArray, List.set_cons_zero, List.set_cons_succ]
        refine wpAnyH_take (i := 5) (oi := ⟨some 20, _, _, _, _, _⟩) (v := .slice (some ⟨b, off, none⟩) 0 0) rfl (by kernel_rfl) (by kernel_rfl) (by kernel_rfl) (fun _ _ _ h => h) (Or.inl ⟨by rfl, fun w' hw => ?hy⟩) hHeld ?_
        case hy => (try dsimp only at hw); go_simp
        simp only [Act.put, List.setIfInBounds_toArray, List.set_cons_zero, List.set_cons_succ]
        have KX : Below w.heap.size w (w1.drew.alloc (.cells #[] 45)) := KB.drew.alloc KB.size _
        have own0 := World.ownsRow_made (base := w1.heap.size) (size := 2) (e := 45) w1.drew #[] 0 (Nat.le_refl _) (by decide) rfl
        obtain ⟨v2, w2, hr, own', g2, -⟩ := run_append_items (ty := 43) _ _ _ _ own0 (some ⟨b, off, none⟩) 0 0 (q.drop 1) (by rw [HL.out]; omega) (isPts_tail_none (by omega)) (by omega) (by simp)
        have K2 : Below w.heap.size w w2 := KX.grown g2 KX.size (fun g e => by have := (World.ownsRow.lt own0 g e).1; have := KB.size; omega)
        have R2 := (R.alloc (.cells #[] 45)).grown' (w := w1.drew.alloc (.cells #[] 45)) g2 (fun g e => by have := (World.ownsRow.lt own0 g e).1; omega)
        have own2 : w2.ownsRow w1.heap.size 45 2 v2 (q.drop 1).length (cellsP (q.drop 1)) := by rw [show (q.drop 1).length = 0 by rw [HL.out]; omega]; simpa using own'
        clear own0 own' g2
        refine wpAnyH_ready (rs := [3]) (by kernel_rfl) (by simp) ?_
        refine AllReadyH.cons (o := ⟨some 18, _, _, _, _, _⟩) rfl (fun K hK => ?_) AllReadyH.nil
        go_simp
        refine hK.out _ _ ?_ (fun hHeld => ?_)
        · exact ⟨(below1 w1.drew (.cells #[] 45)).cell (p := ⟨b, off, none⟩) hbw ▸ hHeld.1, (below1 w1.drew (.cells #[] 45)).cell (p := ⟨b, off + 1, none⟩) hbw ▸ hHeld.2.1, KX⟩
        clear hK K
        try simp only [Act.put, List.setIfInBounds_toArray, List.set_cons_zero, List.set_cons_succ]
        refine wpAnyH_ready (rs := [6]) (by kernel_rfl) (by simp) ?_
        refine AllReadyH.cons (o := ⟨some 21, _, _, _, _, _⟩) rfl (fun K' hK => ?_) AllReadyH.nil
        refine step_append_run rfl (.tmp 18) (.tmp 20) _ _ rfl _ _ rfl rfl _ _ hr ?_
        refine hK.out _ _ ?_ (fun hHeld => ?_)
        · exact ⟨(K2.cell (p := ⟨b, off, none⟩) hb).trans ((KX.cell (p := ⟨b, off, none⟩) hb).symm.trans hHeld.1), (K2.cell (p := ⟨b, off + 1, none⟩) hb).trans ((KX.cell (p := ⟨b, off + 1, none⟩) hb).symm.trans hHeld.2.1), K2⟩
        clear hK K'
        try simp only [Act.put, List.setIfInBounds_toArray, List.set_cons_zero, List.set_cons_succ]
        obtain ⟨r0, r1, r2, r3⟩ := R2.cells
        refine wpAnyH_ready (rs := [7]) (by kernel_rfl) (by simp) ?_
        refine AllReadyH.cons (o := ⟨none, _, _, _, _, _⟩) rfl (fun K hK => ?_) AllReadyH.nil
        go_simp
        refine hK.out _ _ ?_ (fun hHeld => ?_)
        · exact ⟨by rw [World.cell?_setCell_far _ _ _ _ (by simp; omega), World.cell?_setCell_far _ _ _ _ (by simp; omega)]; exact hHeld.1, by rw [World.cell?_setCell_far _ _ _ _ (by simp; omega), World.cell?_setCell_far _ _ _ _ (by simp; omega)]; exact hHeld.2.1, (K2.setCell (by simp) _).setCell (by simp) _⟩
        clear hK K
        try simp only [Act.put, List.setIfInBounds_toArray, List.set_cons_zero, List.set_cons_succ]
        refine wpAnyH_take (i := 8) (oi := ⟨some 3, _, _, _, _, _⟩) (v := v2) rfl (by kernel_rfl) (by kernel_rfl) (by kernel_rfl) (fun _ _ _ h => h) (Or.inl ⟨by rfl, fun w' hw => ?hy⟩) hHeld ?_
        case hy => (try dsimp only at hw); go_simp
        simp only [Act.put, List.setIfInBounds_toArray, List.set_cons_zero, List.set_cons_succ]
        refine wpAnyH_take (i := 9) (oi := ⟨some 4, _, _, _, _, _⟩) (v := .bool true) rfl (by kernel_rfl) (by kernel_rfl) (by kernel_rfl) (fun _ _ _ h => h) (Or.inl ⟨by rfl, fun w' hw => ?hy⟩) hHeld ?_
        case hy => (try dsimp only at hw); go_simp
        simp only [Act.put, List.setIfInBounds_toArray, List.set_cons_zero, List.set_cons_succ]
        refine wpAnyH_done (by kernel_rfl) ?_ _
        clear hHeld
        obtain ⟨A2, c2, rfl, -, -⟩ := ownI_is own2
        have own3 := ownsRow_far (c := w.heap.size) (ownsRow_far (c := w.heap.size) own2 hR 0 (.int .i64 x)) hR 1 (.int .i64 y)
        go_wp2
        refine bodyPost_ret (v := .tuple #[.agg #[.int .i64 x, .int .i64 y], .slice A2 (q.drop 1).length c2, .bool true]) (by simp [results, Try.results48, go_sem, r0, r1]) rfl ?_
        rw [HX.out, HY.out]
        exact popMade_yes HP.out (ownsRow_base (by rw [HX.out, HY.out] at own3; exact own3) (Nat.le_of_lt hR)) ((K2.setCell (by simp) _).setCell (by simp) _)
      · have hc2 : 1 < ca := by omega
        go_enter Try.func48, Try.ntmps48
        go_wp2_with fail
        refine HQ.out.mono ?_; rintro e w1 ⟨rfl, b1⟩
        replace R := R.below b1
        replace KB := KB.trans (b1.mono KB.size)
        have hR := R.lt
        have hbw : b < w1.heap.size := by have := KB.size; omega
        clear b1 HQ
        obtain ⟨c0, c1⟩ := hc 0 hp
        rw [Nat.zero_mul, Nat.add_zero] at c0 c1
        have T : FstS w b off (ptg q 0).1 (ptg q 0).2 w1 := ⟨(KB.cell (p := ⟨b, off, none⟩) hb).trans c0, (KB.cell (p := ⟨b, off + 1, none⟩) hb).trans c1, KB⟩
        clear c0 c1 hc
        obtain ⟨x, hx⟩ : ∃ x, x = (ptg q 0).1 := ⟨_, rfl⟩
        obtain ⟨y, hy⟩ : ∃ y, y = (ptg q 0).2 := ⟨_, rfl⟩
        rw [← hx, ← hy] at T
        have HX := Lib.hid hx
        have HY := Lib.hid hy
        clear hx hy
        go_wp2_with fail
        refine wp_region_held_drew (S := (fun w' => FstS w b off x y w')) (by kernel_rfl) ?_ (fun hHeld => ?_)
        · exact ⟨T.1, T.2.1, T.2.2.drew⟩
        clear T
        refine wpAnyH_take (i := 0) (oi := ⟨some 15, _, _, _, _, _⟩) (v := .slice (some ⟨b, off, none⟩) q.length ca) rfl (by kernel_rfl) (by kernel_rfl) (by kernel_rfl) (fun _ _ _ h => h) (Or.inl ⟨by rfl, fun w' hw => ?hy⟩) hHeld ?_
        case hy => (try dsimp only at hw); go_simp
        simp only [Act.put, List.setIfInBounds_toArray, List.set_cons_zero, List.set_cons_succ]
        refine wpAnyH_take (i := 1) (oi := ⟨some 16, _, _, _, _, _⟩) (v := .pointer (some ⟨b, off, none⟩)) rfl (by kernel_rfl) (by kernel_rfl) (by kernel_rfl) (fun _ _ _ h => h) (Or.inl ⟨by rfl, fun w' hw => ?hy⟩) hHeld ?_
        case hy => (try dsimp only at hw); go_simp
        simp only [Act.put, List.setIfInBounds_toArray, List.set_cons_zero, List.set_cons_succ]
        refine wpAnyH_take (i := 2) (oi := ⟨some 17, _, _, _, _, _⟩) (v := .agg #[.int .i64 x, .int .i64 y]) rfl (by kernel_rfl) (by kernel_rfl) (by kernel_rfl) (fun _ _ _ h => h) (Or.inl ⟨by rfl, fun w' hw => ?hy⟩) hHeld ?_
        case hy => (try dsimp only at hw); have hx0 := hw.1; have hx1 := hw.2.1; clear hw; go_simp
        simp only [Act.put, List.setIfInBounds_toArray, List.set_cons_zero, List.set_cons_succ]
        refine wpAnyH_take (i := 4) (oi := ⟨some 19, _, _, _, _, _⟩) (v := .slice (some ⟨b, off, none⟩) q.length ca) rfl (by kernel_rfl) (by kernel_rfl) (by kernel_rfl) (fun _ _ _ h => h) (Or.inl ⟨by rfl, fun w' hw => ?hy⟩) hHeld ?_
        case hy => (try dsimp only at hw); go_simp
        simp only [Act.put, List.setIfInBounds_toArray, List.set_cons_zero, List.set_cons_succ]
        refine wpAnyH_take (i := 5) (oi := ⟨some 20, _, _, _, _, _⟩) (v := .slice (some ⟨b, off + 2, none⟩) (q.length - 1) (ca - 1)) rfl (by kernel_rfl) (by kernel_rfl) (by kernel_rfl) (fun _ _ _ h => h) (Or.inl ⟨by rfl, fun w' hw => ?hy⟩) hHeld ?_
        case hy => (try dsimp only at hw); go_simp
        simp only [Act.put, List.setIfInBounds_toArray, List.set_cons_zero, List.set_cons_succ]
        have KX : Below w.heap.size w (w1.drew.alloc (.cells #[] 45)) := KB.drew.alloc KB.size _
        have own0 := World.ownsRow_made (base := w1.heap.size) (size := 2) (e := 45) w1.drew #[] 0 (Nat.le_refl _) (by decide) rfl
        obtain ⟨v2, w2, hr, own', g2, -⟩ := run_append_items (ty := 43) _ _ _ _ own0 (some ⟨b, off + 2, none⟩) (q.length - 1) (ca - 1) (q.drop 1) HL.out (isPts_tail hp (h.below KX)) (by omega) (by simp)
        have K2 : Below w.heap.size w w2 := KX.grown g2 KX.size (fun g e => by have := (World.ownsRow.lt own0 g e).1; have := KB.size; omega)
        have R2 := (R.alloc (.cells #[] 45)).grown' (w := w1.drew.alloc (.cells #[] 45)) g2 (fun g e => by have := (World.ownsRow.lt own0 g e).1; omega)
        have own2 : w2.ownsRow w1.heap.size 45 2 v2 (q.drop 1).length (cellsP (q.drop 1)) := by rw [HL.out]; simpa using own'
        clear own0 own' g2
        refine wpAnyH_ready (rs := [3]) (by kernel_rfl) (by simp) ?_
        refine AllReadyH.cons (o := ⟨some 18, _, _, _, _, _⟩) rfl (fun K hK => ?_) AllReadyH.nil
        go_simp
        refine hK.out _ _ ?_ (fun hHeld => ?_)
        · exact ⟨(below1 w1.drew (.cells #[] 45)).cell (p := ⟨b, off, none⟩) hbw ▸ hHeld.1, (below1 w1.drew (.cells #[] 45)).cell (p := ⟨b, off + 1, none⟩) hbw ▸ hHeld.2.1, KX⟩
        clear hK K
        try simp only [Act.put, List.setIfInBounds_toArray, List.set_cons_zero, List.set_cons_succ]
        refine wpAnyH_ready (rs := [6]) (by kernel_rfl) (by simp) ?_
        refine AllReadyH.cons (o := ⟨some 21, _, _, _, _, _⟩) rfl (fun K' hK => ?_) AllReadyH.nil
        refine step_append_run rfl (.tmp 18) (.tmp 20) _ _ rfl _ _ rfl rfl _ _ hr ?_
        refine hK.out _ _ ?_ (fun hHeld => ?_)
        · exact ⟨(K2.cell (p := ⟨b, off, none⟩) hb).trans ((KX.cell (p := ⟨b, off, none⟩) hb).symm.trans hHeld.1), (K2.cell (p := ⟨b, off + 1, none⟩) hb).trans ((KX.cell (p := ⟨b, off + 1, none⟩) hb).symm.trans hHeld.2.1), K2⟩
        clear hK K'
        try simp only [Act.put, List.setIfInBounds_toArray, List.set_cons_zero, List.set_cons_succ]
        obtain ⟨r0, r1, r2, r3⟩ := R2.cells
        refine wpAnyH_ready (rs := [7]) (by kernel_rfl) (by simp) ?_
        refine AllReadyH.cons (o := ⟨none, _, _, _, _, _⟩) rfl (fun K hK => ?_) AllReadyH.nil
        go_simp
        refine hK.out _ _ ?_ (fun hHeld => ?_)
        · exact ⟨by rw [World.cell?_setCell_far _ _ _ _ (by simp; omega), World.cell?_setCell_far _ _ _ _ (by simp; omega)]; exact hHeld.1, by rw [World.cell?_setCell_far _ _ _ _ (by simp; omega), World.cell?_setCell_far _ _ _ _ (by simp; omega)]; exact hHeld.2.1, (K2.setCell (by simp) _).setCell (by simp) _⟩
        clear hK K
        try simp only [Act.put, List.setIfInBounds_toArray, List.set_cons_zero, List.set_cons_succ]
        refine wpAnyH_take (i := 8) (oi := ⟨some 3, _, _, _, _, _⟩) (v := v2) rfl (by kernel_rfl) (by kernel_rfl) (by kernel_rfl) (fun _ _ _ h => h) (Or.inl ⟨by rfl, fun w' hw => ?hy⟩) hHeld ?_
        case hy => (try dsimp only at hw); go_simp
        simp only [Act.put, List.setIfInBounds_toArray, List.set_cons_zero, List.set_cons_succ]
        refine wpAnyH_take (i := 9) (oi := ⟨some 4, _, _, _, _, _⟩) (v := .bool true) rfl (by kernel_rfl) (by kernel_rfl) (by kernel_rfl) (fun _ _ _ h => h) (Or.inl ⟨by rfl, fun w' hw => ?hy⟩) hHeld ?_
        case hy => (try dsimp only at hw); go_simp
        simp only [Act.put, List.setIfInBounds_toArray, List.set_cons_zero, List.set_cons_succ]
        refine wpAnyH_done (by kernel_rfl) ?_ _
        clear hHeld
        obtain ⟨A2, c2, rfl, -, -⟩ := ownI_is own2
        have own3 := ownsRow_far (c := w.heap.size) (ownsRow_far (c := w.heap.size) own2 hR 0 (.int .i64 x)) hR 1 (.int .i64 y)
        go_wp2
        refine bodyPost_ret (v := .tuple #[.agg #[.int .i64 x, .int .i64 y], .slice A2 (q.drop 1).length c2, .bool true]) (by simp [results, Try.results48, go_sem, r0, r1]) rfl ?_
        rw [HX.out, HY.out]
        exact popMade_yes HP.out (ownsRow_base (by rw [HX.out, HY.out] at own3; exact own3) (Nat.le_of_lt hR)) ((K2.setCell (by simp) _).setCell (by simp) _)

end Go.Proofs.Ytdobiapnkdgjoaa
