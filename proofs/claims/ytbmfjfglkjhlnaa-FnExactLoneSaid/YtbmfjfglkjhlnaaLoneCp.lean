/-
  The copy of a network.
-/
import Derived.Test.YtbmfjfglkjhlnaaLoneIm
namespace Go.Proofs.Ytbmfjfglkjhlnaa
open Go.RowKit Go.Deep Go.Maps

set_option maxRecDepth 100000 in
/-- All of a slice appended to none of it. -/
theorem append_all {e : TypeId} {t : TypeId} {i : TypeInfo} {z : Value} {size bytes : Nat} (ht : Try.prog.underlying t = some (.slice e)) (hi : Try.prog.info? e = some i) (hz : i.zero = some z) (hs : i.size = size) (hby : i.bytes = bytes) (hb24 : bytes ≤ 24) (A : Option Addr) (n c : Nat) (cs : List Value) (f : Nat → Int) (hcl : cs.length = n * size) (hcf : ∀ j, j < n * size → cs[j]? = some (.int .i64 (f j))) (hn : n ≤ 1048576) (W : World)
    (h : 0 < n → ∃ b off, A = some ⟨b, off, none⟩ ∧ ∀ j, j < n * size → W.cell? ⟨b, off + j, none⟩ = some (.int .i64 (f j))) :
    ∃ A' c' w', (Builtin.append_ #[t, t] t #[.slice A 0 0, .slice A n c]).run Try.prog W = .ok (.slice A' n c') w' ∧ n ≤ c' ∧ (0 < n → ∃ g, A' = some ⟨g, 0, none⟩ ∧ W.heap.size ≤ g ∧ OwnAt w' g e 0 (n * size) f) ∧ Below W.heap.size W w' := by
  rcases Nat.eq_zero_or_pos n with h0 | h0
  · subst h0
    refine ⟨A, 0, W, ?_, Nat.le_refl _, fun hp => by omega, Below.refl _ _⟩
    cases A with
    | none => exact run_append_nothing W t t t e i ht hi none 0 0 (Nat.le_refl _) _ (Src.ofNil W ht c)
    | some a => exact run_append_nothing W t t t e i ht hi (some a) 0 0 (Nat.le_refl _) _ (Src.ofSlice W ht a 0 c [] (by simp) (by simp) (by simp))
  · obtain ⟨b, off, rfl, hc⟩ := h h0
    have hfit : Builtin.nextslicecap (0 + n) 0 * i.bytes ≤ 281474976710656 := growslice_fits (by omega) (by
      rw [hby]
      have q1 : (0 + n) * bytes ≤ (0 + n) * 24 := Nat.mul_le_mul_left _ hb24
      have q2 : (0 + n) * 24 ≤ 1048576 * 24 := Nat.mul_le_mul_right _ (by omega)
      exact Nat.le_trans q1 (Nat.le_trans q2 (by decide)))
    have hnw : ∀ j v, cs[j]? = some v → W.cell? ((⟨b, off, none⟩ : Addr).add j) = some v := fun j v hj => by
      have hj' : j < n * size := by rw [← hcl]; exact (List.getElem?_eq_some_iff.1 hj).1
      rw [hcf j hj'] at hj
      injection hj with hj
      rw [Addr.add_lit, hc j hj', hj]
    have hr := run_append_grow (P := Try.prog) (w := W) t t e i z ht hi hz ⟨b, off, none⟩ 0 0 [] (by simp) (by simp) ⟨b, off, none⟩ n c cs (by rw [hcl, hs]) hnw (by omega) (by omega) hfit
    generalize hcap : grownCap W (0 + n) 0 e = cap at hr
    have hge : 0 + n ≤ cap := by rw [← hcap]; exact grownCap_ge W (0 + n) 0 e
    clear hcap hfit
    rw [Nat.zero_add] at hr hge
    refine ⟨_, _, _, hr, hge, fun _ => ⟨W.heap.size, rfl, Nat.le_refl _, _, heap_alloc_new _ _, by simp [hcl], fun j hj => ?_⟩, (Below.refl _ W).drew.trans (show Below W.heap.size W.drew _ from below1 W.drew _)⟩
    have := hcf j hj
    rw [Nat.zero_add, Array.getElem?_append_left (by simp [hcl]; exact hj)]
    simpa using this

theorem cellsP_at {ps : List (Int × Int)} {j : Nat} (hj : j < ps.length * 2) : (cellsP ps)[j]? = some (.int .i64 (flatP ps j)) := cellsP_get ps j hj
theorem cellsA_at {rs : List A3} {j : Nat} (hj : j < rs.length * 3) : (cellsA rs)[j]? = some (.int .i64 (flatA rs j)) := cellsA_get rs j hj
theorem IsPts.flat {w : World} {A : Option Addr} {ps : List (Int × Int)} (h : IsPts w A ps) (hp : 0 < ps.length) : ∃ b off, A = some ⟨b, off, none⟩ ∧ ∀ j, j < ps.length * 2 → w.cell? ⟨b, off + j, none⟩ = some (.int .i64 (flatP ps j)) := by
  obtain ⟨b, off, rfl, -, c⟩ := h hp
  refine ⟨b, off, rfl, fun j hj => ?_⟩
  obtain ⟨c0, c1⟩ := c (j / 2) (by omega)
  obtain ⟨k, hk⟩ : ∃ k, k = j / 2 := ⟨_, rfl⟩
  rw [← hk] at c0 c1
  rcases (show j = k * 2 ∨ j = k * 2 + 1 by omega) with r | r
  · rw [r, flatP_0, c0]
  · rw [r, flatP_1, ← Nat.add_assoc, c1]
theorem IsArcs.flat {w : World} {A : Option Addr} {rs : List A3} (h : IsArcs w A rs) (hp : 0 < rs.length) : ∃ b off, A = some ⟨b, off, none⟩ ∧ ∀ j, j < rs.length * 3 → w.cell? ⟨b, off + j, none⟩ = some (.int .i64 (flatA rs j)) := by
  obtain ⟨b, off, rfl, -, c⟩ := h hp
  refine ⟨b, off, rfl, fun j hj => ?_⟩
  obtain ⟨c0, c1, c2⟩ := c (j / 3) (by omega)
  obtain ⟨k, hk⟩ : ∃ k, k = j / 3 := ⟨_, rfl⟩
  rw [← hk] at c0 c1 c2
  rcases (show j = k * 3 ∨ j = k * 3 + 1 ∨ j = k * 3 + 2 by omega) with r | r | r
  · rw [r, flatA_0, c0]
  · rw [r, flatA_1, ← Nat.add_assoc, c1]
  · rw [r, flatA_2, ← Nat.add_assoc, c2]

set_option maxRecDepth 100000 in
set_option maxHeartbeats 4000000 in
theorem copied_any (A B : Option Addr) (ca cb : Nat) (ps : List (Int × Int)) (rs : List A3) (w : World) (hn : ps.length ≤ 1048576) (hm : rs.length ≤ 1048576) (ha : IsPts w A ps) (hb : IsArcs w B rs) :
    Calls Try.prog 87 #[.agg #[.slice A ps.length ca, .slice B rs.length cb]] w fun e w' => ∃ A' B' ca' cb', e = .returned (.agg #[.slice A' ps.length ca', .slice B' rs.length cb']) ∧ rs.length ≤ cb' ∧ OwnSl w' w.heap.size 104 A' (ps.length * 2) (flatP ps) ∧ (0 < rs.length → ∃ g, B' = some ⟨g, 0, none⟩ ∧ w.heap.size ≤ g ∧ OwnAt w' g 80 0 (rs.length * 3) (flatA rs)) ∧ (∀ g, blk A' (ps.length * 2) = some g → ∀ g', blk B' (rs.length * 3) = some g' → g ≠ g') ∧ Below w.heap.size w w' := by
  obtain ⟨i0, hi, hz0, hz1, hz2⟩ := info_parts Try.infoPt
  obtain ⟨i1, hj, hy0, hy1, hy2⟩ := info_parts Try.infoArc
  have X := (Pair.new w 34 (.slice A ps.length ca) (.slice B rs.length cb)).alloc (.cells #[.slice none 0 0, .slice none 0 0] 34)
  have Y : Pair ((w.alloc (.cells #[.slice A ps.length ca, .slice B rs.length cb] 34)).alloc (.cells #[.slice none 0 0, .slice none 0 0] 34)) (w.heap.size + 1) 34 (.slice none 0 0) (.slice none 0 0) := by
    have := Pair.new (w.alloc (.cells #[.slice A ps.length ca, .slice B rs.length cb] 34)) 34 (.slice none 0 0) (.slice none 0 0); rwa [World.size_alloc] at this
  have K := below2 w (.cells #[.slice A ps.length ca, .slice B rs.length cb] 34) (.cells #[.slice none 0 0, .slice none 0 0] 34)
  obtain ⟨W, hW⟩ : ∃ W, W = ((w.alloc (.cells #[.slice A ps.length ca, .slice B rs.length cb] 34)).alloc (.cells #[.slice none 0 0, .slice none 0 0] 34)) := ⟨_, rfl⟩
  have hWs : W.heap.size = w.heap.size + 2 := by rw [hW]; simp
  rw [← hW] at X Y K
  have HW := Lib.hid hW
  clear hW
  have kd : Below W.heap.size W W.drew := (Below.refl _ W).drew
  have hap := fun (V : World) (k : Below W.heap.size W V) => append_all (e := 104) (t := 31) Try.underlying31 hi hz0 hz1 hz2 (by decide) A ps.length ca (cellsP ps) (flatP ps) (cellsP_len _) (fun j h => cellsP_at h) hn V (fun hp => ((ha.below K).below k).flat hp)
  have haa := fun (V : World) (k : Below W.heap.size W V) => append_all (e := 80) (t := 32) Try.underlying32 hj hy0 hy1 hy2 (by decide) B rs.length cb (cellsA rs) (flatA rs) (cellsA_len _) (fun j h => cellsA_at h) hm V (fun hp => ((hb.below K).below k).flat hp)
  obtain ⟨A1, c1, wP, hrP, -, oP, kP⟩ := hap W.drew kd
  have kP' := kd.trans (kP.mono kd.size)
  obtain ⟨B2, d2, wPA, hrPA, hd2, oPA, kPA⟩ := haa wP kP'
  have kPA' := kP'.trans (kPA.mono kP'.size)
  obtain ⟨B1, d1, wA, hrA, hd1, oA, kA⟩ := haa W.drew kd
  have kA' := kd.trans (kA.mono kd.size)
  obtain ⟨A2, c2, wAP, hrAP, -, oAP, kAP⟩ := hap wA kA'
  have kAP' := kA'.trans (kAP.mono kA'.size)
  have hdw : W.drew.heap.size = W.heap.size := rfl
  have HF1 : Hid (∀ u v, Pair wPA (w.heap.size + 1) 34 u v → ∃ A' B' ca' cb', (Ending.returned (.agg #[.slice A1 ps.length c1, .slice B2 rs.length d2])) = .returned (.agg #[.slice A' ps.length ca', .slice B' rs.length cb']) ∧ rs.length ≤ cb' ∧ OwnSl ((wPA.setCell ⟨w.heap.size + 1, 0, none⟩ (.slice A1 ps.length c1)).setCell ⟨w.heap.size + 1, 1, none⟩ (.slice B2 rs.length d2)) w.heap.size 104 A' (ps.length * 2) (flatP ps) ∧ (0 < rs.length → ∃ g, B' = some ⟨g, 0, none⟩ ∧ w.heap.size ≤ g ∧ OwnAt ((wPA.setCell ⟨w.heap.size + 1, 0, none⟩ (.slice A1 ps.length c1)).setCell ⟨w.heap.size + 1, 1, none⟩ (.slice B2 rs.length d2)) g 80 0 (rs.length * 3) (flatA rs)) ∧ (∀ g, blk A' (ps.length * 2) = some g → ∀ g', blk B' (rs.length * 3) = some g' → g ≠ g') ∧ Below w.heap.size w ((wPA.setCell ⟨w.heap.size + 1, 0, none⟩ (.slice A1 ps.length c1)).setCell ⟨w.heap.size + 1, 1, none⟩ (.slice B2 rs.length d2))) := Lib.hid (fun u v _ => by
    have hsz := kP.size
    refine ⟨A1, B2, c1, d2, rfl, hd2, fun hp => ?_, fun hp => ?_, fun g e g' e' => ?_, ((K.trans (kPA'.mono K.size)).setCell (by simp) _).setCell (by simp) _⟩
    · obtain ⟨g, rfl, h1, h2⟩ := oP (by omega)
      have hl := h2.lt
      exact ⟨g, 0, rfl, by omega, OwnAt.of_block h2 (by rw [Below.heap_setCell _ _ _ _ (by simp; omega), Below.heap_setCell _ _ _ _ (by simp; omega)]; exact kPA.block g hl)⟩
    · obtain ⟨g, rfl, h1, h2⟩ := oPA hp
      exact ⟨g, rfl, by omega, OwnAt.of_block h2 (by rw [Below.heap_setCell _ _ _ _ (by simp; omega), Below.heap_setCell _ _ _ _ (by simp; omega)])⟩
    · unfold blk at e e'
      split at e
      · split at e'
        · obtain ⟨q, rfl, -, h2⟩ := oP (by omega)
          obtain ⟨q', rfl, h3, -⟩ := oPA (by omega)
          have hl := h2.lt
          simp at e e'; omega
        · cases e'
      · cases e)
  have HF2 : Hid (∀ u v, Pair wAP (w.heap.size + 1) 34 u v → ∃ A' B' ca' cb', (Ending.returned (.agg #[.slice A2 ps.length c2, .slice B1 rs.length d1])) = .returned (.agg #[.slice A' ps.length ca', .slice B' rs.length cb']) ∧ rs.length ≤ cb' ∧ OwnSl ((wAP.setCell ⟨w.heap.size + 1, 0, none⟩ (.slice A2 ps.length c2)).setCell ⟨w.heap.size + 1, 1, none⟩ (.slice B1 rs.length d1)) w.heap.size 104 A' (ps.length * 2) (flatP ps) ∧ (0 < rs.length → ∃ g, B' = some ⟨g, 0, none⟩ ∧ w.heap.size ≤ g ∧ OwnAt ((wAP.setCell ⟨w.heap.size + 1, 0, none⟩ (.slice A2 ps.length c2)).setCell ⟨w.heap.size + 1, 1, none⟩ (.slice B1 rs.length d1)) g 80 0 (rs.length * 3) (flatA rs)) ∧ (∀ g, blk A' (ps.length * 2) = some g → ∀ g', blk B' (rs.length * 3) = some g' → g ≠ g') ∧ Below w.heap.size w ((wAP.setCell ⟨w.heap.size + 1, 0, none⟩ (.slice A2 ps.length c2)).setCell ⟨w.heap.size + 1, 1, none⟩ (.slice B1 rs.length d1))) := Lib.hid (fun u v _ => by
    have hsz := kA.size
    refine ⟨A2, B1, c2, d1, rfl, hd1, fun hp => ?_, fun hp => ?_, fun g e g' e' => ?_, ((K.trans (kAP'.mono K.size)).setCell (by simp) _).setCell (by simp) _⟩
    · obtain ⟨g, rfl, h1, h2⟩ := oAP (by omega)
      exact ⟨g, 0, rfl, by omega, OwnAt.of_block h2 (by rw [Below.heap_setCell _ _ _ _ (by simp; omega), Below.heap_setCell _ _ _ _ (by simp; omega)])⟩
    · obtain ⟨g, rfl, h1, h2⟩ := oA hp
      have hl := h2.lt
      exact ⟨g, rfl, by omega, OwnAt.of_block h2 (by rw [Below.heap_setCell _ _ _ _ (by simp; omega), Below.heap_setCell _ _ _ _ (by simp; omega)]; exact kAP.block g hl)⟩
    · unfold blk at e e'
      split at e
      · split at e'
        · obtain ⟨q, rfl, h3, -⟩ := oAP (by omega)
          obtain ⟨q', rfl, -, h2⟩ := oA (by omega)
          have hl := h2.lt
          simp at e e'; omega
        · cases e'
      · cases e)
  obtain ⟨x0, x1, -, -⟩ := X.cells
  obtain ⟨xd0, xd1, -, -⟩ := (X.below kd).cells
  obtain ⟨xp0, xp1, -, -⟩ := (X.below kP').cells
  obtain ⟨xa0, xa1, -, -⟩ := (X.below kA').cells
  have Y1 := Y.below kPA'
  have Y2 := Y.below kAP'
  have HF1' := Lib.hid (HF1.out _ _ Y1)
  have HF2' := Lib.hid (HF2.out _ _ Y2)
  obtain ⟨y0, y1, y2, y3⟩ := Y1.cells
  obtain ⟨v0, v1, v2, v3⟩ := Y2.cells
  obtain ⟨s0, s1, -, -⟩ := ((Y1.set0 (.slice A1 ps.length c1)).set1 (.slice B2 rs.length d2)).cells
  obtain ⟨t0, t1, -, -⟩ := ((Y2.set0 (.slice A2 ps.length c2)).set1 (.slice B1 rs.length d1)).cells
  clear HF1 HF2 hap haa oP oA oPA oAP kP kA kPA kAP kP' kA' kPA' kAP' X Y Y1 Y2 K kd hdw hi hz0 hz1 hz2 hj hy0 hy1 hy2 hd1 hd2
  go_enter Try.func87, Try.ntmps87
  go_wp2_with fail
  rw [← HW.out]
  clear HW hWs
  go_region_law (first | (refine step_append_run rfl (.tmp 5) (.tmp 7) _ _ rfl _ _ rfl rfl _ _ hrP ?_) | (refine step_append_run rfl (.tmp 11) (.tmp 13) _ _ rfl _ _ rfl rfl _ _ hrPA ?_) | (refine step_append_run rfl (.tmp 11) (.tmp 13) _ _ rfl _ _ rfl rfl _ _ hrA ?_) | (refine step_append_run rfl (.tmp 5) (.tmp 7) _ _ rfl _ _ rfl rfl _ _ hrAP ?_))
  all_goals (
    go_wp2
    first
      | exact bodyPost_ret (v := .agg #[.slice A1 ps.length c1, .slice B2 rs.length d2]) (by simp [results, Try.results87, go_sem, s0, s1]) rfl HF1'.out
      | exact bodyPost_ret (v := .agg #[.slice A2 ps.length c2, .slice B1 rs.length d1]) (by simp [results, Try.results87, go_sem, t0, t1]) rfl HF2'.out)

end Go.Proofs.Ytbmfjfglkjhlnaa
