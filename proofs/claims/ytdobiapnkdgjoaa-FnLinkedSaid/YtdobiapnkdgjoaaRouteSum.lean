/-
  What spec.RouteLen and impl.RouteLen compute.
-/
import Derived.Test.YtdobiapnkdgjoaaRouteLen
namespace Go.Proofs.Ytdobiapnkdgjoaa
open Go.RowKit Go.Deep

attribute [local go_sem] Oper.semAt_some noPanic_normal noPanic_ret

theorem own_ints_at {w : World} {base : Nat} {A : Option Addr} {zs : List Int} (h : OwnSl w base 3 A zs.length (zg zs)) {k : Nat} (hk : k < zs.length) : ∃ b off, A = some ⟨b, off, none⟩ ∧ w.cell? ⟨b, off + k, none⟩ = some (.int .i64 (zg zs k)) := by
  obtain ⟨g, off, e, -, O⟩ := h (by omega)
  exact ⟨g, off, e, O.cell hk⟩

/-- The sum that the loop makes. -/
def sumR (rs : List A3) (pre : List Int) : Int := pre.foldl (fun s x => IntKind.i64.wrap (s + (arg rs x.toNat).2.2)) 0
theorem sumR_snoc (rs : List A3) (pre : List Int) (x : Int) : sumR rs (pre ++ [x]) = IntKind.i64.wrap (sumR rs pre + (arg rs x.toNat).2.2) := by simp [sumR]
theorem sumR_len {ps : List (Int × Int)} {rs : List A3} {zs : List Int} (h : rtB ps rs zs = true) (hz : zs.length ≤ 1048576) : ∀ k, k + 1 ≤ zs.length → sumR rs (upto (arcK rs zs) k) = lenK rs zs k
  | 0, _ => rfl
  | k + 1, hk => by
    obtain ⟨h1, h2⟩ := lenK_bd h k (by omega)
    obtain ⟨i, e, -, h3, h4⟩ := rt_arc h (k := k) (by omega)
    rw [upto_succ, sumR_snoc, sumR_len h hz k (by omega)]
    show _ = lenK rs zs k + (arg rs (arcK rs zs k).toNat).2.2
    rw [e]
    exact IntWalk.i64_in _ (by simp only [Int.toNat_natCast]; omega)

/-- An arc's number, where there is one to come. -/
abbrev Idx (m : Nat) (rs : List A3) := { i : Int // m ≤ 1 ∨ (0 ≤ i ∧ i < rs.length) }
theorem idx_ok {ps : List (Int × Int)} {rs : List A3} {zs : List Int} (h : rtB ps rs zs = true) (k : Nat) : zs.length ≤ 1 ∨ (0 ≤ arcK rs zs (min k (zs.length - 2)) ∧ arcK rs zs (min k (zs.length - 2)) < rs.length) := by
  by_cases hl : zs.length ≤ 1
  · exact .inl hl
  · obtain ⟨i, e, hi, -⟩ := rt_arc h (k := min k (zs.length - 2)) (by omega)
    exact .inr (by rw [e]; omega)

set_option maxRecDepth 100000 in
set_option maxHeartbeats 4000000 in
theorem implRouteLen_any (A B : Option Addr) (ca cb : Nat) (ps : List (Int × Int)) (rs : List A3) (R : Option Addr) (cr : Nat) (zs : List Int) (w : World) (hn : ps.length ≤ 1048576) (hm : rs.length ≤ 1048576) (hz : zs.length ≤ 1048576) (ha : IsPts w A ps) (hb : IsArcs w B rs) (hi : IsInts w R zs) :
    Calls Try.prog 20 #[.agg #[.slice A ps.length ca, .slice B rs.length cb], .slice R zs.length cr] w fun e w' => e = .returned (.int .i64 (rtLen ps rs zs)) ∧ Below w.heap.size w w' := by
  have X := Pair.new w 27 (.slice A ps.length ca) (.slice B rs.length cb)
  have K := below1 w (.cells #[.slice A ps.length ca, .slice B rs.length cb] 27)
  have HR := Lib.hid (fun W hb' => implRouteOk_any A B ca cb ps rs R cr zs W hn hm hz (ha.below hb') (hb.below hb') (hi.below hb'))
  refine (callsIn_wide (n := 9)).1 (callsIn_of_wp_marks Try.func20 rfl trivial ?_)
  simp only [Try.ntmps20, List.size_toArray, List.length_cons, List.length_nil, Nat.reduceAdd, Nat.reduceSub, Array.replicate_succ, Array.replicate_zero, List.push_toArray, List.append_toArray, List.nil_append, List.cons_append]
  refine wp_noPanic ?_
  cases hq : rtB ps rs zs with
  | false =>
    rw [hq] at HR
    have HQ := Lib.hid (rtLen_no hq)
    go_wp2_with fail
    refine (HR.out _ K).mono ?_; rintro e w1 ⟨rfl, b1⟩
    replace K := K.trans (b1.mono K.size)
    clear b1 X
    go_wp2
    exact ⟨_, results_tmp (t := 4) rfl _ _ _, (show Ending.returned (.int .i64 (-1)) = _ from retI HQ.out.symm), K⟩
  | true =>
    rw [hq] at HR
    have HQ := Lib.hid (rtLen_yes hq)
    have HN := Lib.hid (arcAt_net (rtB_iff.1 hq).1)
    have h0 : 0 < zs.length := (rtB_iff.1 hq).2.1
    go_wp2_with fail
    refine (HR.out _ K).mono ?_; rintro e w1 ⟨rfl, b1⟩
    replace K := K.trans (b1.mono K.size)
    replace X := (X.below b1).alloc (.cells #[.int .i64 0] 3)
    have F := Boxed.new w1 3 (.int .i64 0)
    replace K := K.trans ((below1 w1 (.cells #[.int .i64 0] 3)).mono K.size)
    have hs1 := b1.size
    clear b1 HR
    obtain ⟨x0, x1, -, -⟩ := X.cells
    go_wp2_with fail
    clear x0 x1
    obtain ⟨w2, hw2⟩ : ∃ w2, w2 = w1.alloc (.cells #[.int .i64 0] 3) := ⟨_, rfl⟩
    have hs2 : w1.heap.size < w2.heap.size := by rw [hw2]; simp
    have hw1 : w.heap.size < w1.heap.size := by simp at hs1; omega
    rw [← hw2] at X K F ⊢
    clear hw2 hs1
    refine (arcsAlong_any A B _ ps.length rs.length zs.length ca cb cr _).mono ?_; rintro e w3 ⟨rfl, hw3⟩
    obtain ⟨y0, y1, -, -⟩ := ((Pair.new w2 27 (.slice A ps.length ca) (.slice B rs.length cb)).alloc (.cells #[.slice R zs.length cr] 30)).cells
    have y2 := (Boxed.new (w2.alloc (.cells #[.slice A ps.length ca, .slice B rs.length cb] 27)) 30 (.slice R zs.length cr)).cell
    have F3 := (F.alloc (.cells #[.slice A ps.length ca, .slice B rs.length cb] 27)).alloc (.cells #[.slice R zs.length cr] 30)
    have X3 := ((X.alloc (.cells #[.slice A ps.length ca, .slice B rs.length cb] 27)).alloc (.cells #[.slice R zs.length cr] 30)).cells.2.1
    have K3 := K.trans ((below2 w2 (.cells #[.slice A ps.length ca, .slice B rs.length cb] 27) (.cells #[.slice R zs.length cr] 30)).mono K.size)
    have hs3 : w2.heap.size + 1 < w3.heap.size := by rw [hw3]; simp
    rw [World.size_alloc] at y2
    rw [← hw3] at y0 y1 y2 F3 K3 X3
    clear hw3 F X K
    have HID := Lib.hid (idx_ok hq)
    have HSL := Lib.hid (sumR_len hq hz (zs.length - 1) (by omega))
    have hmix : Try.prog.follows .mixedOrders = true := by kernel_rfl
    go_wp2_with fail
    refine wpIn_wide.1 (wpIn_rangeFunc_ownF (n := 9) rfl (by omega) (gf := 112) (lb := #[.pointer (some ⟨w2.heap.size + 1, 0, none⟩), .pointer (some ⟨w2.heap.size, 0, none⟩)]) rfl trivial (enters_of Try.func112 (by kernel_rfl) rfl)
      (along_stops (fun k => (⟨arcK rs zs (min k (zs.length - 2)), HID.out k⟩ : Idx zs.length rs)) (fun x => x.1) 8 w2.heap.size (w2.heap.size + 1) A B ca cb R cr ps rs zs hn hm hz (fun k hk => by show arcK rs zs (min k (zs.length - 2)) = _; rw [show min k (zs.length - 2) = k by omega]; exact (HN.out _ _).symm) w1.heap.size w w3 K3 (by omega) F3.lt (fun u v e => by have := F3.symm.trans e; simp at this; rw [← this.1]; rfl) (by omega) (by omega) y0 y1 y2 ha hb hi)
      (fun h k => Kpt.trans h k) (fun W l o o' hl h hc _ => Kpt.putObj o' h hc (by omega)) (Below.refl _ _) (fun _ => rfl)
      (fun pre W => (Boxed W w1.heap.size 3 (.int .i64 (sumR rs (pre.map (·.1)))) ∧ W.cell? ⟨w.heap.size, 1, none⟩ = some (.slice B rs.length cb)) ∧ Below w.heap.size w W)
      (fun _ _ _ => False)
      (OwnFrom.and (OwnFrom.and (Own.from (boxed_own _ _ _) _) (Own.from (fun s A B row hs hg hr => cell_kept hs hg hr) _)) (ownFrom_below (Nat.le_refl _) (by omega)))
      (fun _ _ _ _ _ hs _ _ => hs)
      ⟨⟨F3, X3⟩, K3⟩
      (fun x => { tmps := #[.agg #[.slice A ps.length ca, .slice B rs.length cb], .slice R zs.length cr, .pointer (some ⟨w.heap.size, 0, none⟩), undef, .int .i64 0, .pointer (some ⟨w1.heap.size, 0, none⟩), .int .i64 x.1, .agg #[.slice A ps.length ca, .slice B rs.length cb], .slice R zs.length cr, .bool true, .bool false, .agg #[.slice A ps.length ca, .slice B rs.length cb], .slice R zs.length cr,
        .func (.func 112) #[] #[.pointer (some ⟨w2.heap.size + 1, 0, none⟩), .pointer (some ⟨w2.heap.size, 0, none⟩)], .int .i64 x.1, undef, undef, undef, undef, undef, undef, undef, undef, undef], defers := [] }) ?assign ?body ?done ?stop)
    case assign =>
      intro l x W K hK
      gi_wp2
      exact hK
    case body =>
      rintro l pre ⟨x, hx⟩ W ⟨⟨hF, hc⟩, hB⟩ hl
      obtain ⟨i, rfl, hil⟩ : ∃ i : Nat, x = i ∧ i < rs.length := ⟨x.toNat, by omega, by omega⟩
      have hFc := hF.cell
      have hFf := hF.frozen
      obtain ⟨b2, o2, rfl, -, -, -, y5⟩ := (hb.below hB).at_ hil
      have hil' : (i : Int) < rs.length := by omega
      have HS := Lib.hid (sumR_snoc rs (pre.map (·.1)) (i : Int))
      obtain ⟨S, hS⟩ : ∃ S, S = sumR rs (pre.map (·.1)) := ⟨_, rfl⟩
      rw [← hS] at hF hFc HS
      clear hS
      have HFIN : Hid (KeepsOthers W (W.setCell ⟨w1.heap.size, 0, none⟩ (.int .i64 (IntKind.i64.wrap (S + (arg rs i).2.2)))).drew ∧ Kpt w1.heap.size W (W.setCell ⟨w1.heap.size, 0, none⟩ (.int .i64 (IntKind.i64.wrap (S + (arg rs i).2.2)))).drew ∧
          (Boxed (W.setCell ⟨w1.heap.size, 0, none⟩ (.int .i64 (IntKind.i64.wrap (S + (arg rs i).2.2)))).drew w1.heap.size 3 (.int .i64 (sumR rs ((pre ++ [(⟨(i : Int), hx⟩ : Idx zs.length rs)]).map (fun y => y.1)))) ∧ (W.setCell ⟨w1.heap.size, 0, none⟩ (.int .i64 (IntKind.i64.wrap (S + (arg rs i).2.2)))).drew.cell? ⟨w.heap.size, 1, none⟩ = some (.slice (some ⟨b2, o2, none⟩) rs.length cb)) ∧
          Below w.heap.size w (W.setCell ⟨w1.heap.size, 0, none⟩ (.int .i64 (IntKind.i64.wrap (S + (arg rs i).2.2)))).drew) := by
        refine Lib.hid ⟨(KeepsOthers.setCell _ _ _).trans (KeepsOthers.drew _), (Kpt.set hF rfl).trans Kpt.drew, ⟨?_, (((Below.refl w1.heap.size W).setCell (p := ⟨w1.heap.size, 0, none⟩) (Nat.le_refl _) _).drew.cell (p := ⟨w.heap.size, 1, none⟩) hw1).trans hc⟩, (hB.setCell (p := ⟨w1.heap.size, 0, none⟩) (Nat.le_of_lt hw1) _).drew⟩
        rw [List.map_append]
        rw [show List.map (fun x : Idx zs.length rs => x.1) [⟨(i : Int), hx⟩] = [(i : Int)] from rfl, HS.out]
        exact hF.set _
      gi_wp2
      gi_region_with_o (fail)
      all_goals exact HFIN.out
    case done =>
      rintro D ys W hD rfl ⟨⟨hF, hc⟩, hB⟩ hK
      have hFc := hF.cell
      go_wp2
      refine (show LeavesInM _ _ _ _ _ _ _ _ _ from ⟨by simp, .inl ⟨D, _, rfl, run_takeDeferred hK, ?_⟩⟩)
      refine ⟨_, results_tmp (t := 4) rfl _ _ _, ?_, hB.trans (belowK_b (w := w) (Nat.le_refl _) _ D _ _ (by omega) hK rfl rfl)⟩
      show Ending.returned (.int .i64 (sumR rs _)) = _
      refine retI ?_
      rw [HQ.out, ← HSL.out]
      congr 1
      unfold upto
      rw [List.unattach, List.map_map]
      refine List.map_congr_left fun k hk => ?_
      have := List.mem_range.1 hk
      show arcK rs zs (min k (zs.length - 2)) = _
      rw [show min k (zs.length - 2) = k by omega]
    case stop =>
      rintro D c pre W _ _ h _
      exact h.elim

end Go.Proofs.Ytdobiapnkdgjoaa
