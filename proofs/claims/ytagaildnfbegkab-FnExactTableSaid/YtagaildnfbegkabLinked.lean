/-
  What slices.Grow (of nothing), slices.Concat (of two), spec.Linked and impl.Linked compute: one list behind the other.
-/
import Derived.Test.YtagaildnfbegkabSlices
import Derived.Test.YtagaildnfbegkabNetArcs
import Derived.Maps.AppendAt
import Derived.Lib.AppendZeros
import Derived.Deep.Upon
import Derived.Deep.AppendLies
namespace Go.Proofs.Ytagaildnfbegkab
open Go.RowKit Go.Deep

/-- Whether two lists can be linked. -/
def lnkB (xs ys : List Int) : Bool := decide (0 < xs.length) && decide (0 < ys.length) && decide (zg xs (xs.length - 1) = zg ys 0)
/-- The first list, then the second without its first element. -/
def lnk (xs ys : List Int) : List Int := if lnkB xs ys = true then xs ++ ys.drop 1 else []

theorem lnk_len (xs ys : List Int) : (lnk xs ys).length ≤ xs.length + ys.length := by
  unfold lnk; split
  · rw [List.length_append, List.length_drop]; omega
  · simp

/-- A list of the call's own and whether there is one. -/
def LnkMade (w : World) (zs : List Int) (b : Bool) (e : Ending) (w' : World) : Prop :=
  ∃ A cap, e = .returned (.tuple #[.slice A zs.length cap, .bool b]) ∧ zs.length ≤ cap ∧ OwnSl w' w.heap.size 3 A zs.length (zg zs) ∧ Below w.heap.size w w'

theorem lnkMade_no {w w' : World} {xs ys : List Int} (h : lnkB xs ys = false) (A : Option Addr) (c : Nat) (K : Below w.heap.size w w') : LnkMade w (lnk xs ys) (lnkB xs ys) (.returned (.tuple #[.slice A 0 c, .bool false])) w' := by
  have e : lnk xs ys = [] := by unfold lnk; rw [h]; simp
  rw [e, h]
  exact ⟨A, c, rfl, Nat.zero_le _, fun hp => by simp at hp, K⟩

theorem lnkMade_yes {w w' : World} {xs ys zs : List Int} {v : Value} (h : lnkB xs ys = true) (hz : zs = lnk xs ys) (own : w'.ownsRow w.heap.size 3 1 v zs.length (zs.map (Value.int .i64))) (K : Below w.heap.size w w') : LnkMade w (lnk xs ys) (lnkB xs ys) (.returned (.tuple #[v, .bool true])) w' := by
  obtain ⟨A, cap, rfl, h1, h2⟩ := ownSl_of_own own
  subst hz; rw [h]
  exact ⟨A, cap, rfl, h1, h2, K⟩

theorem add_at (b off j : Nat) : (⟨b, off, none⟩ : Addr).add j = ⟨b, off + j, none⟩ := by
  unfold Addr.add; split <;> simp_all

set_option maxRecDepth 100000 in
/-- Numbers appended to a row that is one's own, out of any slice. -/
theorem run_append_ints {w : World} (ty : TypeId) (base : Nat) (v : Value) (n : Nat) (xs : List Value) (hown : w.ownsRow base 3 1 v n xs) (A : Option Addr) (m c : Nat) (zs : List Int) (hm : zs.length = m) (hA : IsInts w A zs)
    (h63 : n + m ≤ 4194304) (hbase : base ≤ w.heap.size) :
    ∃ v' w', (Builtin.append_ #[22, 22] ty #[v, .slice A m c]).run Try.prog w = .ok v' w' ∧ w'.ownsRow base 3 1 v' (n + m) (xs ++ zs.map (Value.int .i64)) ∧ w.grownBy w' v.ownBlock := by
  obtain ⟨i0, hi, hz0, hz1, hz2⟩ := info_parts Try.infoInt
  subst hm
  rcases Nat.eq_zero_or_pos zs.length with h0 | hp
  · obtain rfl := List.eq_nil_of_length_eq_zero h0
    cases A with
    | none =>
      obtain ⟨a0, cap0, rfl, hle⟩ : ∃ a0 cap0, v = .slice a0 n cap0 ∧ n ≤ cap0 := by
        rcases hown.2 with ⟨h1, h2⟩ | ⟨g, cap, cur, h1, h2, h3, h4, _⟩
        · exact ⟨none, 0, by rw [h1, h2], by omega⟩
        · exact ⟨_, cap, h1, h4⟩
      refine ⟨_, w, run_append_nothing w 22 22 ty 3 i0 Try.underlying22 hi a0 n cap0 hle _ (Src.ofNil w Try.underlying22 c), ?_, ⟨rfl, rfl, rfl, Nat.le_refl _, fun _ _ _ => rfl⟩⟩
      simpa using hown
    | some a =>
      obtain ⟨v', w', h1, h2, h3, -⟩ := run_append_own_at (P := Try.prog) w base 22 ty 3 i0 (.int .i64 0) 1 8 Try.underlying22 hi hz0 hz1 hz2 rfl (by decide) v n xs hown a 0 c [] rfl (fun j u h => by simp at h) (fun u h => by cases h) (by unfold maxLen; simp at h63; omega) (by simp at h63; omega) hbase
      exact ⟨v', w', h1, h2, h3⟩
  · obtain ⟨b, off, rfl, hb, hc⟩ := hA hp
    obtain ⟨v', w', h1, h2, h3, -⟩ := run_append_own_at (P := Try.prog) w base 22 ty 3 i0 (.int .i64 0) 1 8 Try.underlying22 hi hz0 hz1 hz2 rfl (by decide) v n xs hown ⟨b, off, none⟩ zs.length c (zs.map (Value.int .i64)) (by simp)
      (fun j u h => by
        obtain ⟨x, hx, rfl⟩ : ∃ x, zs[j]? = some x ∧ .int .i64 x = u := by simpa using h
        have hj : j < zs.length := (List.getElem?_eq_some_iff.1 hx).1
        have e : zg zs j = x := by unfold zg; rw [List.getD_eq_getElem?_getD, hx]; rfl
        rw [← e, ← hc j hj]
        exact congrArg w.cell? (add_at b off j))
      (fun u h => by obtain ⟨x, -, rfl⟩ := List.mem_map.1 h; rfl) (by unfold maxLen; omega) (by omega) hbase
    exact ⟨v', w', h1, h2, h3⟩

theorem step_append_run {P : Program} {w : World} {ops : Array Oper} {o : Oper} {a : Act} {K : Act → World → Prop} {Q : Exit → Act → World → Prop} {E : Prop} (hgd : o.guard = none) (s x : Operand) (t tn : TypeId)
    (ho : o.op = .call { callee := .builtin .append, args := #[s, x], argTypes := #[t, tn] }) (vs vx : Value) (hs : a.eval s = vs) (hx : a.eval x = vx)
    (v' : Value) (w' : World) (hr : (Builtin.append_ #[t, tn] o.type #[vs, vx]).run P w = .ok v' w') (h : K (a.put o.dst v') w') :
    if Region.wanted o (yielded ops a.tmps) = true then Oper.wp P o a w K Q else E := by
  have hw : Region.wanted o (yielded ops a.tmps) = true := by simp [Region.wanted, hgd]
  rw [if_pos hw]
  exact Lib.wp_append_run w s x t tn ho vs vx hs hx v' w' hr h

/-- A row of one's own, made by slices.Grow of nothing. -/
def GrowMade (w : World) (e : Ending) (w' : World) : Prop := ∃ v, e = .returned v ∧ w'.ownsRow w.heap.size 3 1 v 0 [] ∧ Below w.heap.size w w'

set_option maxRecDepth 100000 in
set_option maxHeartbeats 1000000 in
theorem growNil_any (n : Nat) (w : World) (hn : n ≤ 2097152) : Calls Try.prog 76 #[.slice none 0 0, .int .i64 (n : Int)] w (GrowMade w) := by
  obtain ⟨i0, hi, hz0, hz1, hz2⟩ := info_parts Try.infoInt
  have h1 : ¬ ((n : Int) < 0) := by omega
  rcases Nat.eq_zero_or_pos n with rfl | hp
  · go_enter Try.func76, Try.ntmps76
    go_wp2
    go_ret
    exact ⟨_, rfl, World.ownsRow_nil _ _ _ _, Below.refl _ _⟩
  · have h4 : (n : Int) > 0 := by omega
    have hrz : ∀ ty, (Builtin.append_ #[22, 3] ty #[.slice none 0 0, .int .i64 (n : Int)]).run Try.prog w = _ := fun ty => Lib.run_append_nil_zeros w 22 3 ty 3 i0 (.int .i64 0) .i64 .i64 Try.underlying22 Try.underlying3 hi hz0 n hp (by omega) (by omega) (by rw [hz2]; omega)
    have hG := grownCap_ge w n 0 3
    have hG2 := grownCap_le_maxLen w n 0 3 (by unfold maxLen; omega)
    have hown : (w.drew.alloc (.cells (Builtin.zeroCells (Value.int .i64 0).cells n ++ Builtin.zeroCells (Value.int .i64 0).cells (grownCap w n 0 3 - n)) 3)).ownsRow w.heap.size 3 1 (.slice (some ⟨w.heap.size, 0, none⟩) 0 (grownCap w n 0 3)) 0 [] :=
      World.ownsRow_made (base := w.heap.size) (size := 1) w.drew _ (grownCap w n 0 3) (Nat.le_refl _) hG2 (by rw [Array.size_append, size_zeroCells, size_zeroCells]; simp only [Value.cells]; simp; omega)
    have K : Below w.heap.size w (w.drew.alloc (.cells (Builtin.zeroCells (Value.int .i64 0).cells n ++ Builtin.zeroCells (Value.int .i64 0).cells (grownCap w n 0 3 - n)) 3)) := (below_drewN (Below.refl _ w) 1).alloc (Nat.le_refl _) _
    generalize w.drew.alloc (.cells (Builtin.zeroCells (Value.int .i64 0).cells n ++ Builtin.zeroCells (Value.int .i64 0).cells (grownCap w n 0 3 - n)) 3) = W at hown K hrz
    have hG63 : grownCap w n 0 3 ≤ 9223372036854775807 := by unfold maxLen at hG2; omega
    generalize grownCap w n 0 3 = G at hown hrz hG hG2 hG63
    clear hi hz0 hz1 hz2
    go_enter Try.func76, Try.ntmps76
    go_wp2_with (at_builtin; refine Lib.wpList_append_run _ rfl _ _ _ _ rfl _ _ rfl rfl _ _ (hrz _) ?_)
    go_ret
    exact ⟨_, rfl, hown, K⟩

/-- How far the lengths of two lists are summed. -/
def Sum2 (a b : Nat) (s i : Value) : Prop :=
  (i = .int .i64 0 ∧ s = .int .i64 0) ∨ (i = .int .i64 1 ∧ s = .int .i64 (a : Int)) ∨ (i = .int .i64 2 ∧ s = .int .i64 ((a + b : Nat) : Int))
/-- How far two lists are appended. -/
def Cat2 (w : World) (xs ys : List Int) (v i : Value) (wr : World) : Prop :=
  ((i = .int .i64 0 ∧ wr.ownsRow w.heap.size 3 1 v 0 []) ∨ (i = .int .i64 1 ∧ wr.ownsRow w.heap.size 3 1 v xs.length (xs.map (Value.int .i64))) ∨
    (i = .int .i64 2 ∧ wr.ownsRow w.heap.size 3 1 v (xs ++ ys).length ((xs ++ ys).map (Value.int .i64)))) ∧ Below w.heap.size w wr

set_option maxRecDepth 100000 in
set_option maxHeartbeats 2000000 in
theorem concat_two (L : Nat) (A B : Option Addr) (ca cb : Nat) (xs ys : List Int) (w : World) (hx : xs.length ≤ 1048576) (hy : ys.length ≤ 1048576) (hL : L < w.heap.size)
    (h0 : w.cell? ⟨L, 0, none⟩ = some (.slice A xs.length ca)) (h1 : w.cell? ⟨L, 1, none⟩ = some (.slice B ys.length cb)) (ha : IsInts w A xs) (hb : IsInts w B ys) :
    Calls Try.prog 68 #[.slice (some ⟨L, 0, none⟩) 2 2] w (IntsMade w (xs ++ ys)) := by
  go_enter Try.func68, Try.ntmps68
  go_wp2
  go_loop [3, 11] (fun s i => Sum2 xs.length ys.length s i) (fun _ i => (2 - intOf i).toNat)
  case atStart => exact .inl ⟨rfl, rfl⟩
  case round =>
    rcases hrel with ⟨rfl, rfl⟩ | ⟨rfl, rfl⟩ | ⟨rfl, rfl⟩
    · have hn : ¬ ((xs.length : Int) < 0) := by omega
      go_wp2
      go_round
      case rel => exact .inr (.inl ⟨rfl, rfl⟩)
      case measure => simp [intOf]
    · have hn : ¬ ((xs.length : Int) + (ys.length : Int) < 0) := by omega
      go_wp2
      go_round
      case rel => exact .inr (.inr ⟨rfl, by go_num⟩)
      case measure => simp [intOf]
    · go_wp2_with fail
      refine (growNil_any (xs.length + ys.length) w (by omega)).mono ?_; rintro e w1 ⟨v1, rfl, own1, b1⟩
      go_wp2_with fail
      go_loopw [6, 27] (fun v i wr => Cat2 w xs ys v i wr) (fun _ i _ => (2 - intOf i).toNat)
      case atStart => exact ⟨.inl ⟨rfl, own1⟩, b1⟩
      case round =>
        obtain ⟨hrel, K⟩ := hrel
        have c0 := (K.cell (p := ⟨L, 0, none⟩) hL).trans h0
        have c1 := (K.cell (p := ⟨L, 1, none⟩) hL).trans h1
        have hs := K.size
        rcases hrel with ⟨rfl, own⟩ | ⟨rfl, own⟩ | ⟨rfl, own⟩
        · obtain ⟨v', w', hr, own', g'⟩ := run_append_ints (ty := 22) _ _ _ _ own A xs.length ca xs rfl (ha.below K) (by omega) hs
          have K' : Below w.heap.size w w' := K.grown g' hs (fun g e => (World.ownsRow.lt own g e).1)
          have own2 : w'.ownsRow w.heap.size 3 1 v' xs.length (xs.map (Value.int .i64)) := by simpa using own'
          clear own own' g'
          go_wp2_with (at_builtin; refine Lib.wpList_append_run _ rfl _ _ _ _ rfl _ _ rfl rfl _ _ hr ?_)
          go_roundw
          case rel => exact ⟨.inr (.inl ⟨rfl, own2⟩), K'⟩
          case measure => simp [intOf]
        · obtain ⟨v', w', hr, own', g'⟩ := run_append_ints (ty := 22) _ _ _ _ own B ys.length cb ys rfl (hb.below K) (by omega) hs
          have K' : Below w.heap.size w w' := K.grown g' hs (fun g e => (World.ownsRow.lt own g e).1)
          have own2 : w'.ownsRow w.heap.size 3 1 v' (xs ++ ys).length ((xs ++ ys).map (Value.int .i64)) := by rw [List.length_append, List.map_append]; exact own'
          clear own own' g'
          go_wp2_with (at_builtin; refine Lib.wpList_append_run _ rfl _ _ _ _ rfl _ _ rfl rfl _ _ hr ?_)
          go_roundw
          case rel => exact ⟨.inr (.inr ⟨rfl, own2⟩), K'⟩
          case measure => simp [intOf]
        · clear c0 c1
          go_wp2
          go_ret
          exact intsMade_of own K

theorem lnkMade_elder {w w1 w2 : World} {xs ys zs : List Int} {A : Option Addr} {cap : Nat} (h : lnkB xs ys = true) (hz : zs = lnk xs ys) (K : Below w.heap.size w w1) (h1 : zs.length ≤ cap) (h2 : OwnSl w2 w1.heap.size 3 A zs.length (zg zs)) (h3 : Below w1.heap.size w1 w2) :
    LnkMade w (lnk xs ys) (lnkB xs ys) (.returned (.tuple #[.slice A zs.length cap, .bool true])) w2 := by
  subst hz; rw [h]
  exact ⟨A, cap, rfl, h1, fun hp => by obtain ⟨g, off, e, hg, ho⟩ := h2 hp; exact ⟨g, off, e, Nat.le_trans K.size hg, ho⟩, K.trans (h3.mono K.size)⟩

theorem isInts_tail {w : World} {b off : Nat} {ys : List Int} (h : IntsAt w b off ys) (hb : b < w.heap.size) : IsInts w (some ⟨b, off + 1, none⟩) (ys.drop 1) := fun _ => ⟨b, off + 1, rfl, hb, fun i hi => by
  rw [List.length_drop] at hi
  have e : zg (ys.drop 1) i = zg ys (i + 1) := by unfold zg; simp
  rw [e, ← h (i + 1) (by omega)]
  exact congrArg w.cell? (congrArg (fun o => (⟨b, o, none⟩ : Addr)) (by omega))⟩

set_option maxRecDepth 100000 in
set_option maxHeartbeats 2000000 in
theorem implLinked_any (A B : Option Addr) (ca cb : Nat) (xs ys : List Int) (w : World) (hx : xs.length ≤ 1048576) (hy : ys.length ≤ 1048576) (hcx : xs.length ≤ ca) (hcy : ys.length ≤ cb) (ha : IsInts w A xs) (hb : IsInts w B ys) :
    Calls Try.prog 53 #[.slice A xs.length ca, .slice B ys.length cb] w (LnkMade w (lnk xs ys) (lnkB xs ys)) := by
  rcases Nat.eq_zero_or_pos xs.length with h0 | hpx
  · have hb0 : lnkB xs ys = false := by unfold lnkB; rw [h0]; rfl
    obtain rfl := List.eq_nil_of_length_eq_zero h0
    have HB := Lib.hid hb0
    clear h0 hb0 ha hx
    go_enter Try.func53, Try.ntmps53
    go_wp2
    go_quiet (fail)
    go_wp2
    go_ret2
    exact lnkMade_no HB.out _ _ (below_drewN (Below.refl _ _) _)
  have hx0 : ((xs.length : Int) == 0) = false := beq_false_of_ne (by omega)
  rcases Nat.eq_zero_or_pos ys.length with h0 | hpy
  · have hb0 : lnkB xs ys = false := by unfold lnkB; rw [h0]; simp
    obtain rfl := List.eq_nil_of_length_eq_zero h0
    have HB := Lib.hid hb0
    clear h0 hb0 hb hy
    go_enter Try.func53, Try.ntmps53
    go_wp2
    go_quiet (fail)
    go_wp2
    go_ret2
    exact lnkMade_no HB.out _ _ (below_drewN (Below.refl _ _) _)
  have hy0 : ((ys.length : Int) == 0) = false := beq_false_of_ne (by omega)
  obtain ⟨ba, oa, rfl, hba, hIa⟩ := ha hpx
  obtain ⟨bb, ob, rfl, hbb, hIb⟩ := hb hpy
  obtain ⟨j, hj⟩ : ∃ j, xs.length = j + 1 := ⟨xs.length - 1, by omega⟩
  have hca := hIa j (by omega)
  have hcb := hIb 0 hpy
  rw [Nat.add_zero] at hcb
  have hjl : j < xs.length := by omega
  have hji : (j : Int) < xs.length := by omega
  have hj0 : (0 : Int) ≤ j := by omega
  have hw1 : IntKind.i64.wrap ((xs.length : Int) - 1) = j := by rw [IntWalk.i64_in _ (by omega)]; omega
  have hw2 : (xs.length : Int) - 1 = j := by omega
  have HJ := Lib.hid hj
  have HIa := Lib.hid hIa
  have HIb := Lib.hid hIb
  have HW2 := Lib.hid hw2
  clear hj hIa hIb hw2
  by_cases hq : zg xs j = zg ys 0
  rotate_left
  · have hb0 : lnkB xs ys = false := by
      have := HJ.out
      unfold lnkB; rw [show xs.length - 1 = j by omega]; simp [hq]
    have HB := Lib.hid hb0
    have hne : (zg xs j != zg ys 0) = true := by simpa using hq
    generalize zg xs j = p at hca hne
    generalize zg ys 0 = q at hcb hne
    clear hb0 hq
    go_enter Try.func53, Try.ntmps53
    go_wp2
    go_quiet (fail)
    go_wp2
    go_ret2
    exact lnkMade_no HB.out _ _ (below_drewN (Below.refl _ _) _)
  have hb0 : lnkB xs ys = true := by
    have := HJ.out
    unfold lnkB; rw [show xs.length - 1 = j by omega]; simp [hq]; omega
  have hlk : xs ++ ys.drop 1 = lnk xs ys := by unfold lnk; rw [if_pos hb0]
  have HB := Lib.hid hb0
  have HQ := Lib.hid hq
  have HL := Lib.hid hlk
  rw [hq] at hca
  generalize zg ys 0 = q at hca hcb
  clear hb0 hq hlk
  go_enter Try.func53, Try.ntmps53
  go_wp2
  go_quiet (fail)
  go_wp2_with fail
  · have K := (below_drewN (Below.refl _ w) nq).alloc (Nat.le_refl _) (.cells #[.slice (some ⟨ba, oa, none⟩) xs.length ca, .slice (some ⟨bb, ob, none⟩) (ys.length - 1) 0] 22)
    refine (concat_two w.heap.size (some ⟨ba, oa, none⟩) (some ⟨bb, ob, none⟩) ca 0 xs (ys.drop 1) _ hx (by rw [List.length_drop]; omega) (by simp) ((cell_of_block (c := w.heap.size) (heap_alloc_new (w.drewN nq) _)).trans rfl) ((cell_of_block (c := w.heap.size) (heap_alloc_new (w.drewN nq) _)).trans (by rw [List.length_drop]; rfl)) (ha.below K) (fun hp => by rw [List.length_drop] at hp; omega)).mono ?_
    rintro e w1 hm
    generalize xs ++ ys.drop 1 = zs at HL hm
    obtain ⟨A1, c1, rfl, h1, h2, h3⟩ := hm
    go_wp2
    go_ret2
    exact lnkMade_elder (w := w) HB.out HL.out K h1 h2 h3
  · have K := (below_drewN (Below.refl _ w) nq).alloc (Nat.le_refl _) (.cells #[.slice (some ⟨ba, oa, none⟩) xs.length ca, .slice (some ⟨bb, ob + 1, none⟩) (ys.length - 1) (cb - 1)] 22)
    refine (concat_two w.heap.size (some ⟨ba, oa, none⟩) (some ⟨bb, ob + 1, none⟩) ca (cb - 1) xs (ys.drop 1) _ hx (by rw [List.length_drop]; omega) (by simp) ((cell_of_block (c := w.heap.size) (heap_alloc_new (w.drewN nq) _)).trans rfl) ((cell_of_block (c := w.heap.size) (heap_alloc_new (w.drewN nq) _)).trans (by rw [List.length_drop]; rfl)) (ha.below K) ((isInts_tail HIb.out hbb).below K)).mono ?_
    rintro e w1 hm
    generalize xs ++ ys.drop 1 = zs at HL hm
    obtain ⟨A1, c1, rfl, h1, h2, h3⟩ := hm
    go_wp2
    go_ret2
    exact lnkMade_elder (w := w) HB.out HL.out K h1 h2 h3

set_option maxRecDepth 100000 in
set_option maxHeartbeats 2000000 in
theorem specLinked_any (A B : Option Addr) (ca cb : Nat) (xs ys : List Int) (w : World) (hx : xs.length ≤ 1048576) (hy : ys.length ≤ 1048576) (hcx : xs.length ≤ ca) (hcy : ys.length ≤ cb) (ha : IsInts w A xs) (hb : IsInts w B ys) :
    Calls Try.prog 43 #[.slice A xs.length ca, .slice B ys.length cb] w (LnkMade w (lnk xs ys) (lnkB xs ys)) := by
  rcases Nat.eq_zero_or_pos xs.length with h0 | hpx
  · have hb0 : lnkB xs ys = false := by unfold lnkB; rw [h0]; rfl
    obtain rfl := List.eq_nil_of_length_eq_zero h0
    have HB := Lib.hid hb0
    clear h0 hb0 ha hx
    go_enter Try.func43, Try.ntmps43
    go_wp2
    go_quiet (fail)
    go_wp2
    go_ret2
    exact lnkMade_no HB.out _ _ (by first | exact below_drewN (Below.refl _ _) _ | exact (below_drewN (Below.refl _ w) _).alloc (Nat.le_refl _) _)
  have hx0 : ((xs.length : Int) == 0) = false := beq_false_of_ne (by omega)
  rcases Nat.eq_zero_or_pos ys.length with h0 | hpy
  · have hb0 : lnkB xs ys = false := by unfold lnkB; rw [h0]; simp
    obtain rfl := List.eq_nil_of_length_eq_zero h0
    have HB := Lib.hid hb0
    clear h0 hb0 hb hy
    go_enter Try.func43, Try.ntmps43
    go_wp2
    go_quiet (fail)
    go_wp2
    go_ret2
    exact lnkMade_no HB.out _ _ (by first | exact below_drewN (Below.refl _ _) _ | exact (below_drewN (Below.refl _ w) _).alloc (Nat.le_refl _) _)
  have hy0 : ((ys.length : Int) == 0) = false := beq_false_of_ne (by omega)
  obtain ⟨ba, oa, rfl, hba, hIa⟩ := ha hpx
  obtain ⟨bb, ob, rfl, hbb, hIb⟩ := hb hpy
  obtain ⟨j, hj⟩ : ∃ j, xs.length = j + 1 := ⟨xs.length - 1, by omega⟩
  have hca := hIa j (by omega)
  have hcb := hIb 0 hpy
  rw [Nat.add_zero] at hcb
  have hjl : j < xs.length := by omega
  have hji : (j : Int) < xs.length := by omega
  have hj0 : (0 : Int) ≤ j := by omega
  have hw1 : IntKind.i64.wrap ((xs.length : Int) - 1) = j := by rw [IntWalk.i64_in _ (by omega)]; omega
  have hw2 : (xs.length : Int) - 1 = j := by omega
  have HJ := Lib.hid hj
  have HIa := Lib.hid hIa
  have HIb := Lib.hid hIb
  have HW2 := Lib.hid hw2
  clear hj hIa hIb hw2
  by_cases hq : zg xs j = zg ys 0
  rotate_left
  · have hb0 : lnkB xs ys = false := by
      have := HJ.out
      unfold lnkB; rw [show xs.length - 1 = j by omega]; simp [hq]
    have HB := Lib.hid hb0
    have hne : (zg xs j != zg ys 0) = true := by simpa using hq
    generalize zg xs j = p at hca hne
    generalize zg ys 0 = q at hcb hne
    clear hb0 hq
    go_enter Try.func43, Try.ntmps43
    go_wp2
    go_quiet (fail)
    go_wp2
    go_ret2
    exact lnkMade_no HB.out _ _ (by first | exact below_drewN (Below.refl _ _) _ | exact (below_drewN (Below.refl _ w) _).alloc (Nat.le_refl _) _)
  have hb0 : lnkB xs ys = true := by
    have := HJ.out
    unfold lnkB; rw [show xs.length - 1 = j by omega]; simp [hq]; omega
  have hlk : xs ++ ys.drop 1 = lnk xs ys := by unfold lnk; rw [if_pos hb0]
  have HB := Lib.hid hb0
  have HQ := Lib.hid hq
  have HL := Lib.hid hlk
  rw [hq] at hca
  generalize zg ys 0 = q at hca hcb
  clear hb0 hq hlk
  have hy1 : ¬ ((ys.length : Int) < 1) := by omega
  by_cases hc1 : cb = 1
  · subst hc1
    go_enter Try.func43, Try.ntmps43
    go_wp2
    go_quiet (fail)
    go_wp2_with fail
    refine wp_region_held_drew (S := (fun w' => Below w.heap.size w w')) (by kernel_rfl) ?_ (fun hHeld => ?_)
    · exact below_drewN (Below.refl _ w) (nq + 1)
    refine wpAnyH_take (i := 1) (oi := ⟨some 28, _, _, _, _, _⟩) (v := .slice (some ⟨ba, oa, none⟩) xs.length ca) rfl (by kernel_rfl) (by kernel_rfl) (by kernel_rfl) (fun _ _ _ h => h) (Or.inl ⟨by rfl, fun w' hw => ?hy⟩) hHeld ?_
    case hy => (try dsimp only at hw); go_simp
    simp only [Act.put, List.setIfInBounds_toArray, List.set_cons_zero, List.set_cons_succ]
    refine wpAnyH_take (i := 3) (oi := ⟨some 30, _, _, _, _, _⟩) (v := .slice (some ⟨bb, ob, none⟩) ys.length 1) rfl (by kernel_rfl) (by kernel_rfl) (by kernel_rfl) (fun _ _ _ h => h) (Or.inl ⟨by rfl, fun w' hw => ?hy⟩) hHeld ?_
    case hy => (try dsimp only at hw); go_simp
    simp only [Act.put, List.setIfInBounds_toArray, List.set_cons_zero, List.set_cons_succ]
    refine wpAnyH_take (i := 4) (oi := ⟨some 31, _, _, _, _, _⟩) (v := .slice (some ⟨bb, ob, none⟩) 0 0) rfl (by kernel_rfl) (by kernel_rfl) (by kernel_rfl) (fun _ _ _ h => h) (Or.inl ⟨by rfl, fun w' hw => ?hy⟩) hHeld ?_
    case hy => (try dsimp only at hw); go_simp
    simp only [Act.put, List.setIfInBounds_toArray, List.set_cons_zero, List.set_cons_succ]
    have own0 := World.ownsRow_made (base := w.heap.size) (size := 1) (e := 3) (w.drewN nq).drew #[] 0 (Nat.le_refl _) (by decide) rfl
    have K0 : Below w.heap.size w ((w.drewN nq).drew.alloc (.cells #[] 3)) := (below_drewN (Below.refl _ w) (nq + 1)).alloc (Nat.le_refl _) (.cells #[] 3)
    obtain ⟨v1, W1, hr1, own1, g1⟩ := run_append_ints (ty := 22) _ _ _ _ own0 (some ⟨ba, oa, none⟩) xs.length ca xs rfl (ha.below K0) (by omega) (by simp)
    have K1 : Below w.heap.size w W1 := K0.grown g1 K0.size (fun g e => (World.ownsRow.lt own0 g e).1)
    obtain ⟨v2, W2, hr2, own2, g2⟩ := run_append_ints (ty := 22) _ _ _ _ own1 (some ⟨bb, ob, none⟩) 0 0 (ys.drop 1) (by rw [List.length_drop] <;> omega) (fun hp => by rw [List.length_drop] at hp; omega) (by omega) K1.size
    have K2 : Below w.heap.size w W2 := K1.grown g2 K1.size (fun g e => (World.ownsRow.lt own1 g e).1)
    have own3 : W2.ownsRow w.heap.size 3 1 v2 (xs ++ ys.drop 1).length ((xs ++ ys.drop 1).map (Value.int .i64)) := by
      rw [List.length_append, List.map_append, show (ys.drop 1).length = 0 by rw [List.length_drop] <;> omega]; simpa using own2
    clear own0 g1 own1 g2 own2
    refine wpAnyH_ready (rs := [0]) (by kernel_rfl) (by simp) ?_
    refine AllReadyH.cons (o := ⟨some 27, _, _, _, _, _⟩) rfl (fun K hK => ?_) AllReadyH.nil
    go_simp
    refine hK.out _ _ ?_ (fun hHeld => ?_)
    · exact K0
    clear hK K
    try simp only [Act.put, List.setIfInBounds_toArray, List.set_cons_zero, List.set_cons_succ]
    refine wpAnyH_ready (rs := [2]) (by kernel_rfl) (by simp) ?_
    refine AllReadyH.cons (o := ⟨some 29, _, _, _, _, _⟩) rfl (fun K hK => ?_) AllReadyH.nil
    refine step_append_run rfl (.tmp 27) (.tmp 28) _ _ rfl _ _ rfl rfl _ _ hr1 ?_
    refine hK.out _ _ ?_ (fun hHeld => ?_)
    · exact K1
    clear hK K
    try simp only [Act.put, List.setIfInBounds_toArray, List.set_cons_zero, List.set_cons_succ]
    refine wpAnyH_ready (rs := [5]) (by kernel_rfl) (by simp) ?_
    refine AllReadyH.cons (o := ⟨some 32, _, _, _, _, _⟩) rfl (fun K hK => ?_) AllReadyH.nil
    refine step_append_run rfl (.tmp 29) (.tmp 31) _ _ rfl _ _ rfl rfl _ _ hr2 ?_
    refine hK.out _ _ ?_ (fun hHeld => ?_)
    · exact K2
    clear hK K
    try simp only [Act.put, List.setIfInBounds_toArray, List.set_cons_zero, List.set_cons_succ]
    refine wpAnyH_take (i := 6) (oi := ⟨some 4, _, _, _, _, _⟩) (v := v2) rfl (by kernel_rfl) (by kernel_rfl) (by kernel_rfl) (fun _ _ _ h => h) (Or.inl ⟨by rfl, fun w' hw => ?hy⟩) hHeld ?_
    case hy => (try dsimp only at hw); go_simp
    simp only [Act.put, List.setIfInBounds_toArray, List.set_cons_zero, List.set_cons_succ]
    refine wpAnyH_take (i := 7) (oi := ⟨some 5, _, _, _, _, _⟩) (v := .bool true) rfl (by kernel_rfl) (by kernel_rfl) (by kernel_rfl) (fun _ _ _ h => h) (Or.inl ⟨by rfl, fun w' hw => ?hy⟩) hHeld ?_
    case hy => (try dsimp only at hw); go_simp
    simp only [Act.put, List.setIfInBounds_toArray, List.set_cons_zero, List.set_cons_succ]
    refine wpAnyH_done (by kernel_rfl) ?_ _
    go_wp2
    go_ret2
    exact lnkMade_yes HB.out HL.out own3 K2
  · have hc2 : 1 < cb := by omega
    go_enter Try.func43, Try.ntmps43
    go_wp2
    go_quiet (fail)
    go_wp2_with fail
    refine wp_region_held_drew (S := (fun w' => Below w.heap.size w w')) (by kernel_rfl) ?_ (fun hHeld => ?_)
    · exact below_drewN (Below.refl _ w) (nq + 1)
    refine wpAnyH_take (i := 1) (oi := ⟨some 28, _, _, _, _, _⟩) (v := .slice (some ⟨ba, oa, none⟩) xs.length ca) rfl (by kernel_rfl) (by kernel_rfl) (by kernel_rfl) (fun _ _ _ h => h) (Or.inl ⟨by rfl, fun w' hw => ?hy⟩) hHeld ?_
    case hy => (try dsimp only at hw); go_simp
    simp only [Act.put, List.setIfInBounds_toArray, List.set_cons_zero, List.set_cons_succ]
    refine wpAnyH_take (i := 3) (oi := ⟨some 30, _, _, _, _, _⟩) (v := .slice (some ⟨bb, ob, none⟩) ys.length cb) rfl (by kernel_rfl) (by kernel_rfl) (by kernel_rfl) (fun _ _ _ h => h) (Or.inl ⟨by rfl, fun w' hw => ?hy⟩) hHeld ?_
    case hy => (try dsimp only at hw); go_simp
    simp only [Act.put, List.setIfInBounds_toArray, List.set_cons_zero, List.set_cons_succ]
    refine wpAnyH_take (i := 4) (oi := ⟨some 31, _, _, _, _, _⟩) (v := .slice (some ⟨bb, ob + 1, none⟩) (ys.length - 1) (cb - 1)) rfl (by kernel_rfl) (by kernel_rfl) (by kernel_rfl) (fun _ _ _ h => h) (Or.inl ⟨by rfl, fun w' hw => ?hy⟩) hHeld ?_
    case hy => (try dsimp only at hw); go_simp
    simp only [Act.put, List.setIfInBounds_toArray, List.set_cons_zero, List.set_cons_succ]
    have own0 := World.ownsRow_made (base := w.heap.size) (size := 1) (e := 3) (w.drewN nq).drew #[] 0 (Nat.le_refl _) (by decide) rfl
    have K0 : Below w.heap.size w ((w.drewN nq).drew.alloc (.cells #[] 3)) := (below_drewN (Below.refl _ w) (nq + 1)).alloc (Nat.le_refl _) (.cells #[] 3)
    obtain ⟨v1, W1, hr1, own1, g1⟩ := run_append_ints (ty := 22) _ _ _ _ own0 (some ⟨ba, oa, none⟩) xs.length ca xs rfl (ha.below K0) (by omega) (by simp)
    have K1 : Below w.heap.size w W1 := K0.grown g1 K0.size (fun g e => (World.ownsRow.lt own0 g e).1)
    obtain ⟨v2, W2, hr2, own2, g2⟩ := run_append_ints (ty := 22) _ _ _ _ own1 (some ⟨bb, ob + 1, none⟩) (ys.length - 1) (cb - 1) (ys.drop 1) (by rw [List.length_drop] <;> omega) ((isInts_tail HIb.out hbb).below K1) (by omega) K1.size
    have K2 : Below w.heap.size w W2 := K1.grown g2 K1.size (fun g e => (World.ownsRow.lt own1 g e).1)
    have own3 : W2.ownsRow w.heap.size 3 1 v2 (xs ++ ys.drop 1).length ((xs ++ ys.drop 1).map (Value.int .i64)) := by
      rw [List.length_append, List.map_append, show (ys.drop 1).length = ys.length - 1 by rw [List.length_drop] <;> omega]; simpa using own2
    clear own0 g1 own1 g2 own2
    refine wpAnyH_ready (rs := [0]) (by kernel_rfl) (by simp) ?_
    refine AllReadyH.cons (o := ⟨some 27, _, _, _, _, _⟩) rfl (fun K hK => ?_) AllReadyH.nil
    go_simp
    refine hK.out _ _ ?_ (fun hHeld => ?_)
    · exact K0
    clear hK K
    try simp only [Act.put, List.setIfInBounds_toArray, List.set_cons_zero, List.set_cons_succ]
    refine wpAnyH_ready (rs := [2]) (by kernel_rfl) (by simp) ?_
    refine AllReadyH.cons (o := ⟨some 29, _, _, _, _, _⟩) rfl (fun K hK => ?_) AllReadyH.nil
    refine step_append_run rfl (.tmp 27) (.tmp 28) _ _ rfl _ _ rfl rfl _ _ hr1 ?_
    refine hK.out _ _ ?_ (fun hHeld => ?_)
    · exact K1
    clear hK K
    try simp only [Act.put, List.setIfInBounds_toArray, List.set_cons_zero, List.set_cons_succ]
    refine wpAnyH_ready (rs := [5]) (by kernel_rfl) (by simp) ?_
    refine AllReadyH.cons (o := ⟨some 32, _, _, _, _, _⟩) rfl (fun K hK => ?_) AllReadyH.nil
    refine step_append_run rfl (.tmp 29) (.tmp 31) _ _ rfl _ _ rfl rfl _ _ hr2 ?_
    refine hK.out _ _ ?_ (fun hHeld => ?_)
    · exact K2
    clear hK K
    try simp only [Act.put, List.setIfInBounds_toArray, List.set_cons_zero, List.set_cons_succ]
    refine wpAnyH_take (i := 6) (oi := ⟨some 4, _, _, _, _, _⟩) (v := v2) rfl (by kernel_rfl) (by kernel_rfl) (by kernel_rfl) (fun _ _ _ h => h) (Or.inl ⟨by rfl, fun w' hw => ?hy⟩) hHeld ?_
    case hy => (try dsimp only at hw); go_simp
    simp only [Act.put, List.setIfInBounds_toArray, List.set_cons_zero, List.set_cons_succ]
    refine wpAnyH_take (i := 7) (oi := ⟨some 5, _, _, _, _, _⟩) (v := .bool true) rfl (by kernel_rfl) (by kernel_rfl) (by kernel_rfl) (fun _ _ _ h => h) (Or.inl ⟨by rfl, fun w' hw => ?hy⟩) hHeld ?_
    case hy => (try dsimp only at hw); go_simp
    simp only [Act.put, List.setIfInBounds_toArray, List.set_cons_zero, List.set_cons_succ]
    refine wpAnyH_done (by kernel_rfl) ?_ _
    go_wp2
    go_ret2
    exact lnkMade_yes HB.out HL.out own3 K2

end Go.Proofs.Ytagaildnfbegkab
