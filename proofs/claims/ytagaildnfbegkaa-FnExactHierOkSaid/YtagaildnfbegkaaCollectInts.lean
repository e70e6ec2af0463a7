/-
  What slices.AppendSeq and slices.Collect give over an iterator of integers.
-/
import Derived.Test.YtagaildnfbegkaaSeqKeep
import Derived.Maps.AppendAt
namespace Go.Proofs.Ytagaildnfbegkaa
open Go.RowKit Go.Deep

attribute [local go_sem] Oper.semAt_some noPanic_normal noPanic_ret

theorem ownsRow_least {w : World} {base : Nat} {e : TypeId} {size : Nat} {v : Value} {n : Nat} {xs : List Value} (h : w.ownsRow base e size v n xs) (hn : base ≤ w.heap.size) :
    ∃ T, base ≤ T ∧ T ≤ w.heap.size ∧ w.ownsRow T e size v n xs ∧ ∀ k, (∀ j, v.ownBlock = some j → k ≤ j) → k ≤ w.heap.size → k ≤ T := by
  rcases h.2 with ⟨h1, h2⟩ | ⟨g, cap, cur, h1, h2, h3, h4⟩
  · exact ⟨w.heap.size, hn, Nat.le_refl _, ⟨h.1, .inl ⟨h1, h2⟩⟩, fun k _ hk => hk⟩
  · exact ⟨g, h2, Nat.le_of_lt (Array.getElem?_eq_some_iff.1 h3).1, ⟨h.1, .inr ⟨g, cap, cur, h1, Nat.le_refl _, h3, h4⟩⟩, fun k hk _ => hk g (by rw [h1]; rfl)⟩

theorem ownsRow_from {w : World} {base : Nat} {e : TypeId} {size : Nat} {v : Value} {n : Nat} {xs : List Value} (h : w.ownsRow base e size v n xs) {k : Nat} (e' : v.ownBlock = some k) : base ≤ k := by
  rcases h.2 with ⟨h1, -⟩ | ⟨g, cap, cur, h1, h2, -⟩
  · rw [h1] at e'; cases e'
  · rw [h1] at e'; cases e'; exact h2

/-- What a round that appends keeps for the iterator. -/
theorem Kpt.appended {W w1 : World} {B T : Nat} {t : TypeId} {v v' : Value} {tmp : Obj} {e : TypeId} {size m : Nat} {ys : List Value}
    (hv : Boxed W B t v) (hv2 : Boxed (w1.setCell ⟨B, 0, none⟩ v') B t v') (hown' : w1.ownsRow T e size v' m ys) (hgrow : (W.alloc tmp).grownBy w1 v.ownBlock)
    (hT : ∀ k, (∀ j, v.ownBlock = some j → k ≤ j) → k ≤ W.heap.size → k ≤ T) : Kpt B W (w1.setCell ⟨B, 0, none⟩ v') :=
  ⟨by
    have h1 := hgrow.size
    have h2 : (w1.setCell ⟨B, 0, none⟩ v').heap.size = w1.heap.size := by show (w1.heap.modify _ _).size = _; rw [Array.size_modify]
    rw [h2]; simp at h1; omega, fun U hU hr => ⟨fun u x k e' ek => by
      have hx := hv2.symm.trans e'
      simp at hx
      rw [← hx.1] at ek
      exact Nat.le_trans (hT U (fun j ej => hr _ _ j hv ej) hU) (ownsRow_from hown' ek), fun k cs t z hk hB h => by
      have hk' : k < W.heap.size := by omega
      refine (Below.heap_setCell _ _ _ k hB).trans ((hgrow.block k (by simp; omega) (fun e' => ?_)).trans (Below.heap_alloc W tmp k hk'))
      have := hr _ _ k hv e'.symm
      omega⟩⟩

set_option maxRecDepth 100000 in
set_option maxHeartbeats 4000000 in
/-- slices.AppendSeq(nil, seq): the iterator may lean on every block of cells but the variable's (block w.heap.size) and its row. -/
theorem appendSeq_any {S : List Int → Prop} {Sp : List Int → Prop} {N : Nat} (g : Nat) (lb : Array Value) (w : World) (eg : ∀ args w, (callFunc g args).run Try.prog w = .ok (.enter g args) w) (hN : N ≤ 2097152)
    (hseq : SeqStopsK Fence.wide 8 Try.prog g lb (fun x : Int => #[Value.int .i64 x]) (Kpt w.heap.size) S Sp N (w.alloc (.cells #[.slice none 0 0] 24))) :
    Calls Try.prog 117 #[.slice none 0 0, .func (.func g) #[] lb] w fun e w' => ∃ xs, S xs ∧ IntsMade w xs e w' := by
  obtain ⟨i0, hi, hz0, hz1, hz2⟩ := info_parts Try.infoInt
  refine (callsIn_wide (n := 9)).1 (callsIn_of_wp_marks Try.func117 rfl trivial ?_)
  simp only [Try.ntmps117, List.size_toArray, List.length_cons, List.length_nil, Nat.reduceAdd, Nat.reduceSub, Array.replicate_succ, Array.replicate_zero, List.push_toArray, List.append_toArray, List.nil_append, List.cons_append]
  refine wp_noPanic ?_
  have F := Boxed.new w 24 (.slice none 0 0)
  have K := below1 w (.cells #[.slice none 0 0] 24)
  go_wp2_with fail
  obtain ⟨w2, hw2⟩ : ∃ w2, w2 = w.alloc (.cells #[.slice none 0 0] 24) := ⟨_, rfl⟩
  have hs2 : w.heap.size < w2.heap.size := by rw [hw2]; simp
  rw [← hw2] at F K hseq ⊢
  clear hw2
  refine wpIn_wide.1 (wpIn_rangeFunc_ownF (n := 9) rfl (by omega) (gf := g) (lb := lb) rfl trivial eg hseq
    (fun h k => Kpt.trans h k) (fun W l o o' hl h hc _ => Kpt.putObj o' h hc (by omega)) (Below.refl _ _) (fun _ => rfl)
    (fun (pre : List Int) W => (∃ v, Boxed W w.heap.size 24 v ∧ W.ownsRow w.heap.size 3 1 v pre.length (pre.map (Value.int .i64)) ∧ True) ∧ Below w.heap.size w W)
    (fun _ _ _ => False)
    (OwnFrom.and (Own.from (holdsRow_own w.heap.size w.heap.size 24 3 1 (fun (pre : List Int) => pre.length) (fun (pre : List Int) => pre.map (Value.int .i64)) (fun _ _ => True)) _) (ownFrom_below (Nat.le_refl _) (by omega)))
    (fun _ _ _ _ _ hs _ _ => hs)
    ⟨⟨_, F, World.ownsRow_nil _ _ _ _, trivial⟩, K⟩
    (fun x => { tmps := #[.slice none 0 0, .func (.func g) #[] lb, .pointer (some ⟨w.heap.size, 0, none⟩), undef, .slice none 0 0, .int .i64 x, .func (.func g) #[] lb, .int .i64 x, undef, undef, undef, undef, undef], defers := [] }) ?assign ?body ?done ?stop)
  case assign =>
    intro l x W K hK
    gi_wp2
    exact hK
  case body =>
    rintro l pre x W ⟨⟨v, hv, hrow, -⟩, hB⟩ hlt
    have hc := hv.cell
    have hBs := hB.size
    obtain ⟨T, hT1, hT2, hrT, hT3⟩ := ownsRow_least hrow hBs
    gi_wp2_with (gi_at_builtin; refine wpListIn_append_own _ rfl _ _ 24 rfl T 3 i0 (.int .i64 0) 1 8 Try.underlying24 hi hz0 hz1 hz2 rfl (by decide) _ _ _ rfl (hrT.alloc _) ⟨W.heap.size, 0, none⟩ 1 1 [.int .i64 x] rfl rfl (cell_one_new _ _ _) (by simp [Value.oneCell']) (by unfold maxLen; omega) (by omega) (by simp; omega) ?_; intro v' w1 hown' hgrow _; obtain ⟨g', cap', rfl⟩ := ownsRow_succ hown'; obtain ⟨hv1, hv2, hr2, hk2, hb2⟩ := hv.appended (by decide) hrow hBs (Nat.le_refl _) (ownsRow_base hown' hT1) hgrow; have HKP := Lib.hid (Kpt.appended hv hv2 hown' hgrow hT3); have hc1 := hv1.cell; have hf1 := hv1.frozen)
    exact ⟨hk2, HKP.out, ⟨_, hv2, by simpa using hr2, trivial⟩, hB.trans hb2⟩
  case done =>
    rintro D ys W hD hS ⟨⟨v, hv, hrow, -⟩, hB⟩ hK
    have hc := hv.cell
    go_wp2
    refine (show LeavesInM _ _ _ _ _ _ _ _ _ from ⟨by simp, .inl ⟨D, _, rfl, run_takeDeferred hK, ?_⟩⟩)
    refine ⟨_, results_tmp (t := 4) rfl _ _ _, ys, hS, ?_⟩
    exact intsMade_of (ownsRow_putObj hrow _ hK rfl) (hB.trans (belowK_b (w := w) (Nat.le_refl _) _ D _ _ (by omega) hK rfl rfl))
  case stop =>
    rintro D c pre W _ _ h _
    exact h.elim

theorem collect_any {S : List Int → Prop} {Sp : List Int → Prop} {N : Nat} (g : Nat) (lb : Array Value) (w : World) (eg : ∀ args w, (callFunc g args).run Try.prog w = .ok (.enter g args) w) (hN : N ≤ 2097152)
    (hseq : SeqStopsK Fence.wide 8 Try.prog g lb (fun x : Int => #[Value.int .i64 x]) (Kpt w.heap.size) S Sp N (w.alloc (.cells #[.slice none 0 0] 24))) :
    Calls Try.prog 101 #[.func (.func g) #[] lb] w fun e w' => ∃ xs, S xs ∧ IntsMade w xs e w' := by
  go_enter Try.func101, Try.ntmps101
  go_wp2_with fail
  refine (appendSeq_any g lb w eg hN hseq).mono ?_; rintro e w1 ⟨xs, hS, A1, c1, rfl, h1, h2, h3⟩
  go_wp2
  go_ret
  exact ⟨xs, hS, A1, c1, rfl, h1, h2, h3⟩

end Go.Proofs.Ytagaildnfbegkaa
