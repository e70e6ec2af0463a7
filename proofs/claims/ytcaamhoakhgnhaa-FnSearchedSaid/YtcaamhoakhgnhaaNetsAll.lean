/-
  What anyNet leaves: a network of the call's own, one in so many spoilt. What spec.DrawTurned leaves: some network. What (*l01Cur).node, spec.DrawDistFrom and spec.DrawParts leave: some number; some network and a number; some network.
-/
import Derived.Test.YtcaamhoakhgnhaaDrawNet
namespace Go.Proofs.Ytcaamhoakhgnhaa
open Go.RowKit Go.Deep

/-- What anyNet leaves. -/
def AnyDrawn (w : World) (c : Nat) (C : Option Addr) (len cap m : Nat) (e : Ending) (w' : World) : Prop :=
  ∃ (NV V : Value) (ps : List (Int × Int)) (rs : List A3), e = .returned (.agg #[NV, V]) ∧ 2 ≤ ps.length ∧ ps.length ≤ 21 ∧ rs.length ≤ 100 ∧ w'.ownsRow w.heap.size 85 2 NV ps.length (cellsP ps) ∧ w'.ownsRow w.heap.size 75 3 V rs.length (cellsA rs) ∧
    CurAt w' c C len cap (m + 2000) ∧ w.grownBy w' (some c)
/-- A cell of a row of the call's own is written. -/
theorem ownsRow_put {w : World} {base : Nat} {e : TypeId} {size g n cap : Nat} {xs : List Value} (h : w.ownsRow base e size (.slice (some ⟨g, 0, none⟩) n cap) n xs) (i : Nat) (v : Value) : (w.setCell ⟨g, i, none⟩ v).ownsRow base e size (.slice (some ⟨g, 0, none⟩) n cap) n (xs.set i v) := by
  refine ⟨by rw [List.length_set]; exact h.1, ?_⟩
  rcases h.2 with ⟨h1, -⟩ | ⟨g', cap', cur, h1, h2, h3, h4, h5, h6, h7⟩
  · injection h1 with h1; cases h1
  · injection h1 with h1 h1b h1c
    injection h1 with h1
    injection h1 with h1
    subst h1 h1c
    refine .inr ⟨g, cap, cur.setIfInBounds i v, rfl, h2, block_set v h3, h4, h5, by simpa using h6, ?_⟩
    rw [Array.toList_setIfInBounds, ← h7, List.take_set]
theorem ownsRow_other {w : World} {base : Nat} {e : TypeId} {size : Nat} {v : Value} {n : Nat} {xs : List Value} (h : w.ownsRow base e size v n xs) {g : Nat} (hg : v.ownBlock ≠ some g) (i : Nat) (x : Value) : (w.setCell ⟨g, i, none⟩ x).ownsRow base e size v n xs :=
  h.kept (row := some g) (grown_set (World.grownBy.refl w _) i x) (.inr hg)
theorem cellsP_put (ps : List (Int × Int)) (h : 0 < ps.length) (x : Int) : ∃ qs : List (Int × Int), qs.length = ps.length ∧ (cellsP ps).set 0 (.int .i64 x) = cellsP qs := by
  cases ps with
  | nil => simp at h
  | cons p r => exact ⟨(x, p.2) :: r, rfl, rfl⟩
theorem cellsA_put (rs : List A3) (h : 0 < rs.length) (x : Int) : ∃ qs : List A3, qs.length = rs.length ∧ (cellsA rs).set 2 (.int .i64 x) = cellsA qs := by
  cases rs with
  | nil => simp at h
  | cons p r => exact ⟨(p.1, p.2.1, x) :: r, rfl, rfl⟩
theorem four_at (w w' : World) (c : Nat) (x : Int) (q : Nat) (hq : q < 4) (hc : c < w.heap.size) (hg : (w.alloc (.cells #[.int .i64 x, .int .i64 0, .int .i64 10000, .int .i64 10001] 3)).grownBy w' (some c)) : ∃ z : Int, w'.cell? ⟨w.heap.size, q, none⟩ = some (.int .i64 z) :=
  ⟨_, made_cell (zs := [x, 0, 10000, 10001]) hc hg (by simp; omega)⟩
theorem own_cell {w : World} {base : Nat} {e : TypeId} {size g n cap : Nat} {xs : List Value} (h : w.ownsRow base e size (.slice (some ⟨g, 0, none⟩) n cap) n xs) (i : Nat) (u : Value) (hi : xs[i]? = some u) : w.cell? ⟨g, i, none⟩ = some u ∧ w.frozen? ⟨g, i, none⟩ = false := by
  refine ⟨by have := World.ownsRow.cells h (g := g) rfl i u hi; rwa [Addr.add_lit, Nat.zero_add] at this, ?_⟩
  rcases h.2 with ⟨h1, -⟩ | ⟨g', cap', cur, h1, h2, h3, -⟩
  · injection h1 with h1; cases h1
  · injection h1 with h1
    injection h1 with h1
    injection h1 with h1
    subst h1
    exact frozen_of_block h3
theorem raw_at (w : World) (c : Nat) (A : Option Addr) (len cap m : Nat) (h : CurAt w c A len cap m) (hm : m ≤ 500000000) : Calls Try.prog 74 #[.pointer (some ⟨c, 0, none⟩)] w (Drawn w c A len cap (m + 2)) := raw_any w c A len cap m hm h
theorem four_new (w : World) (x : Int) (q : Nat) (hq : q < 4) : ∃ z : Int, (w.alloc (.cells #[.int .i64 x, .int .i64 0, .int .i64 10000, .int .i64 10001] 3)).cell? ⟨w.heap.size, q, none⟩ = some (.int .i64 z) := ⟨_, laid_cell w [x, 0, 10000, 10001] 3 (by simp; omega)⟩
theorem own_ne {w : World} {base : Nat} {e t : TypeId} {size : Nat} {v : Value} {n : Nat} {xs : List Value} {b : Nat} {x y : Value} (h : w.ownsRow base e size v n xs) (hp : Pair w b t x y) (ht : t ≠ e) : v.ownBlock ≠ some b := by
  rcases h.2 with ⟨h1, -⟩ | ⟨g, cap, cur, h1, -, h3, -⟩
  · rw [h1]; simp [Value.ownBlock]
  · intro e2
    rw [h1] at e2
    have eg : g = b := by simpa [Value.ownBlock] using e2
    subst eg
    unfold Pair at hp
    rw [h3] at hp
    injection hp with hp
    injection hp with _ hp _
    exact ht hp.symm
/-- The length of the slice in the first cell of block b. -/
def lenAt (w : World) (b : Nat) : Nat := match w.cell? ⟨b, 0, none⟩ with
  | some (.slice _ n _) => n
  | _ => 0
theorem lenAt_of {w : World} {b : Nat} {A : Option Addr} {n c : Nat} (h : w.cell? ⟨b, 0, none⟩ = some (.slice A n c)) : lenAt w b = n := by unfold lenAt; rw [h]

set_option maxRecDepth 100000 in
set_option maxHeartbeats 4000000 in
theorem anyNet_any (w : World) (c : Nat) (C : Option Addr) (len cap m : Nat) (hm : m ≤ 50000) (h : CurAt w c C len cap m) :
    Calls Try.prog 42 #[.pointer (some ⟨c, 0, none⟩)] w (AnyDrawn w c C len cap m) := by
  obtain ⟨i0, hi, hz0, hz1, hz2⟩ := info_parts Try.infoPt
  obtain ⟨i1, hj, hy0, hy1, hy2⟩ := info_parts Try.infoArc
  have hcl := h.lt
  have k0 := h.alloc (.cells #[.slice none 0 0, .slice none 0 0] 32)
  have R := Pair.new w 32 (.slice none 0 0) (.slice none 0 0)
  have G := only_alloc (World.grownBy.refl w (some c)) (.cells #[.slice none 0 0, .slice none 0 0] 32)
  go_enter Try.func42, Try.ntmps42
  go_wp2_with fail
  refine (net_any _ c C len cap m (by omega) k0).mono ?_
  rintro e w1 ⟨NV, V, ps, rs, rfl, hp2, hp8, hr40, own, ownA, hpt, kc, g1⟩
  rw [World.size_alloc] at own ownA
  replace R := R.grown' g1 (fun g e => by injection e with e; omega)
  replace G := only_trans G g1
  have hrl := R.lt
  clear g1 k0
  obtain ⟨NA, nc, rfl, -, hNA⟩ := ownP_is own
  obtain ⟨VA, vc, rfl, -, -, hVA⟩ := ownA_is ownA
  obtain ⟨ng, rfl, hng, -⟩ := hNA (by omega)
  clear hNA
  have hngl := (World.ownsRow.lt own ng rfl).2
  have HVL := Lib.hid (fun g e => World.ownsRow.lt ownA g e)
  have HPT := Lib.hid (hpt ng rfl)
  clear hpt
  have Q := Pair.new w1 32 (.slice (some ⟨ng, 0, none⟩) ps.length nc) (.slice VA rs.length vc)
  have b1 := below1 w1 (.cells #[.slice (some ⟨ng, 0, none⟩) ps.length nc, .slice VA rs.length vc] 32)
  replace R := R.below b1
  replace own := ownsRow_below own b1
  replace ownA := ownsRow_below ownA b1
  replace kc := kc.below b1
  replace G := only_alloc G (.cells #[.slice (some ⟨ng, 0, none⟩) ps.length nc, .slice VA rs.length vc] 32)
  clear b1
  obtain ⟨ob, hob⟩ : ∃ ob, ob = w1.heap.size := ⟨_, rfl⟩
  rw [← hob] at Q hrl hngl
  have HVL2 := Lib.hid (show ∀ g, (Value.slice VA rs.length vc).ownBlock = some g → g < ob from fun g e => by rw [hob]; exact (HVL.out g e).2)
  clear HVL
  have HOB := Lib.hid hob
  clear hob
  have kq := kc
  go_wp2_with fail
  rw [← HOB.out]
  refine (once_any _ c C len cap _ 10 (by omega) kq (by omega) (by omega)).mono ?_
  rintro e w2 ⟨bo, rfl, k2, g2⟩
  replace R := R.grown' g2 (fun g e => by injection e with e; omega)
  replace Q := Q.grown' g2 (fun g e => by injection e with e; omega)
  replace own := ownsRow_only own g2 (by omega)
  replace ownA := ownsRow_only ownA g2 (by omega)
  replace G := only_trans G g2
  clear kc kq
  have kc := k2
  clear k2 g2
  cases bo with
  | false =>
    obtain ⟨r0, r1, r2, r3⟩ := R.cells
    obtain ⟨q0, q1, -, -⟩ := Q.cells
    go_wp2
    refine bodyPost_ret (v := .agg #[(.slice (some ⟨ng, 0, none⟩) ps.length nc), (.slice VA rs.length vc)]) (by simp [results, Try.results42, go_sem, r0, r1]) rfl
      ⟨(.slice (some ⟨ng, 0, none⟩) ps.length nc), (.slice VA rs.length vc), ps, rs, rfl, by omega, by omega, by omega, ?_, ?_, ?_, ?_⟩
    · exact ownsRow_base (ownsRow_far (c := w.heap.size) (ownsRow_far (c := w.heap.size) own (by omega) 0 _) (by omega) 1 _) (by omega)
    · exact ownsRow_base (ownsRow_far (c := w.heap.size) (ownsRow_far (c := w.heap.size) ownA (by omega) 0 _) (by omega) 1 _) (by omega)
    · exact ((kc.set (b := w.heap.size) (i := 0) hcl _).set (b := w.heap.size) (i := 1) hcl _).more (by omega)
    · exact only_set (only_set G (b := w.heap.size) (i := 0) (Nat.le_refl _) _) (b := w.heap.size) (i := 1) (Nat.le_refl _) _
  | true =>
    have kq := kc
    go_wp2_with fail
    refine (pick_any _ c C len cap _ 5 (by omega) kq (by omega)).mono ?_
    rintro e w3 ⟨s, rfl, hs0, hs1, -, k3, g3, -⟩
    have hs2 := hs1 (by omega)
    clear hs1
    replace R := R.grown' g3 (fun g e => by injection e with e; omega)
    replace Q := Q.grown' g3 (fun g e => by injection e with e; omega)
    replace own := ownsRow_only own g3 (by omega)
    replace ownA := ownsRow_only ownA g3 (by omega)
    replace G := only_trans G g3
    clear kc kq
    have kc := k3
    clear k3 g3
    have ql := Q.lt
    rcases (show s = 0 ∨ s = 1 ∨ s = 2 ∨ s = 3 ∨ s = 4 by omega) with rfl | rfl | rfl | rfl | rfl
    · replace R : Pair w3.drew w.heap.size 32 (.slice none 0 0) (.slice none 0 0) := R
      replace Q : Pair w3.drew ob 32 (.slice (some ⟨ng, 0, none⟩) ps.length nc) (.slice VA rs.length vc) := Q
      replace own : w3.drew.ownsRow (w.heap.size + 1) 85 2 (.slice (some ⟨ng, 0, none⟩) ps.length nc) ps.length (cellsP ps) := own
      replace ownA : w3.drew.ownsRow (w.heap.size + 1) 75 3 (.slice VA rs.length vc) rs.length (cellsA rs) := ownA
      replace G : w.grownBy w3.drew (some c) := ⟨G.os, G.tape, G.output, G.size, G.block⟩
      replace kc := kc.drew
      replace ql : ob < w3.drew.heap.size := ql
      have qd := Q.cells.1
      have hpi : (0 : Int) < ps.length := by omega
      have hpn : 0 < ps.length := by omega
      have hpd : decide (0 < ps.length) = true := decide_eq_true hpn
      obtain ⟨p0, hp0⟩ : ∃ z : Int, (cellsP ps)[0]? = some (.int .i64 z) := ⟨_, cellsP_get ps 0 (by omega)⟩
      go_wp2_with fail
      go_region_law (first
        | (go_simp; go_at_call 74; refine (raw_at _ c C len cap _ kc (by omega)).mono ?_; rintro e w4 ⟨x, rfl, -, -, k4, g4⟩; have Q4 := Q.grown' g4 (fun g e => by injection e with e; omega); have q4 := Q4.cells.1; have own4 := ownsRow_only own g4 (by omega); obtain ⟨n4, f4⟩ := own_cell own4 0 _ hp0))
      all_goals (
        clear q4 n4 f4 qd hp0
        replace R := (R.grown' g4 (fun g e => by injection e with e; omega)).far (c := ng) (by omega) 0 (.int .i64 x)
        replace Q := Q4.far (c := ng) (by omega) 0 (.int .i64 x)
        replace ownA := ownsRow_other (ownsRow_only ownA g4 (by omega)) HPT.out 0 (.int .i64 x)
        replace G := only_set (only_trans G g4) (b := ng) (i := 0) (by omega) (.int .i64 x)
        replace kc := k4.set (b := ng) (i := 0) (by omega) (.int .i64 x)
        obtain ⟨qs, hqs, eqs⟩ := cellsP_put ps (by omega) x
        replace own := ownsRow_put own4 0 (.int .i64 x)
        rw [eqs] at own
        replace own : (w4.setCell ⟨ng, 0, none⟩ (.int .i64 x)).ownsRow (w.heap.size + 1) 85 2 (.slice (some ⟨ng, 0, none⟩) ps.length nc) qs.length (cellsP qs) := by rw [hqs]; exact own
        clear Q4 own4 k4 g4 eqs
        obtain ⟨r0, r1, r2, r3⟩ := R.cells
        obtain ⟨q0, q1, -, -⟩ := Q.cells
        go_wp2
        refine bodyPost_ret (v := .agg #[(.slice (some ⟨ng, 0, none⟩) ps.length nc), (.slice VA rs.length vc)]) (by simp [results, Try.results42, go_sem, r0, r1]) rfl
          ⟨(.slice (some ⟨ng, 0, none⟩) ps.length nc), (.slice VA rs.length vc), qs, rs, rfl, by omega, by omega, by omega, ?_, ?_, ?_, ?_⟩
        · exact ownsRow_base (ownsRow_far (c := w.heap.size) (ownsRow_far (c := w.heap.size) own (by omega) 0 _) (by omega) 1 _) (by omega)
        · exact ownsRow_base (ownsRow_far (c := w.heap.size) (ownsRow_far (c := w.heap.size) ownA (by omega) 0 _) (by omega) 1 _) (by omega)
        · exact ((kc.set (b := w.heap.size) (i := 0) hcl _).set (b := w.heap.size) (i := 1) hcl _).more (by omega)
        · exact only_set (only_set G (b := w.heap.size) (i := 0) (Nat.le_refl _) _) (b := w.heap.size) (i := 1) (Nat.le_refl _) _)
    · replace R : Pair w3.drew w.heap.size 32 (.slice none 0 0) (.slice none 0 0) := R
      replace Q : Pair w3.drew ob 32 (.slice (some ⟨ng, 0, none⟩) ps.length nc) (.slice VA rs.length vc) := Q
      replace own : w3.drew.ownsRow (w.heap.size + 1) 85 2 (.slice (some ⟨ng, 0, none⟩) ps.length nc) ps.length (cellsP ps) := own
      replace ownA : w3.drew.ownsRow (w.heap.size + 1) 75 3 (.slice VA rs.length vc) rs.length (cellsA rs) := ownA
      replace G : w.grownBy w3.drew (some c) := ⟨G.os, G.tape, G.output, G.size, G.block⟩
      replace kc := kc.drew
      replace ql : ob < w3.drew.heap.size := ql
      have qd := Q.cells.2.1
      have HBK := Lib.hid (ownsRow_block ownA)
      go_wp2_with fail
      go_region_law (first
        | (refine step_append_lies _ rfl (.tmp 31) (.tmp 35) 30 rfl (w.heap.size + 1) 75 i1 (.agg #[.int .i64 0, .int .i64 0, .int .i64 0]) 3 24 Try.underlying30 hj hy0 hy1 hy2 rfl (by decide) _ rs.length _ rfl (ownA4.alloc _) ⟨w4.heap.size, 0, none⟩ 1 1 (cellsA [(x, 0, 1)]) rfl rfl (cells3_new _ (x, 0, 1) _) (cellsA_one _) (by decide) (by unfold maxLen; omega) (by omega) (by rw [World.size_alloc]; have := g4.size; omega) _ rfl ?_; intro g6 cap6 w6 own6 gr6 hg6 hl6; have Q6 := Q5.grown' gr6 (fun g e => by have := HVL2.out g e; omega); obtain ⟨q60, q61, q62, q63⟩ := Q6.cells)
        | (go_simp; go_at_call 74; refine (raw_at _ c C len cap _ kc (by omega)).mono ?_; rintro e w4 ⟨x, rfl, -, -, k4, g4⟩; have Q4 := Q.grown' g4 (fun g e => by injection e with e; omega); have q4 := Q4.cells.2.1; have ownA4 := ownsRow_only ownA g4 (by omega); have Q5 := Q4.alloc (.cells #[.int .i64 x, .int .i64 0, .int .i64 1] 75); have q5 := Q5.cells.2.1))
      all_goals (
        clear q4 q5 qd q60 q61 q62 q63
        have hgo : g6 ≠ ob := by
          have hz4 := g4.size
          rcases hg6 with h | h
          · have := HVL2.out g6 h; omega
          · have h' : g6 = w4.heap.size + 1 := by rw [h, World.size_alloc]
            omega
        have hgo2 : (Value.slice (some ⟨g6, 0, none⟩) (rs.length + 1) cap6).ownBlock ≠ some ob := fun e => hgo (by simpa [Value.ownBlock] using e)
        have hno : (Value.slice (some ⟨ng, 0, none⟩) ps.length nc).ownBlock ≠ some ob := fun e => (show ng ≠ ob by omega) (by simpa [Value.ownBlock] using e)
        replace R := ((R.grown' g4 (fun g e => by injection e with e; omega)).alloc (.cells #[.int .i64 x, .int .i64 0, .int .i64 1] 75)).grownUp gr6 (fun g e => by have := HBK.out g e; omega)
        replace own := ((ownsRow_only own g4 (by omega)).alloc (.cells #[.int .i64 x, .int .i64 0, .int .i64 1] 75)).kept gr6 (.inr (fun e => HPT.out e.symm))
        replace G := grown_new (only_alloc (only_trans G g4) (.cells #[.int .i64 x, .int .i64 0, .int .i64 1] 75)) gr6 (fun g e => by have := HBK.out g e; omega)
        replace kc := (k4.alloc (.cells #[.int .i64 x, .int .i64 0, .int .i64 1] 75)).later gr6 (fun g e => by have := HBK.out g e; omega)
        replace ownA : w6.ownsRow (w.heap.size + 1) 75 3 (.slice (some ⟨g6, 0, none⟩) (rs.length + 1) cap6) (rs ++ [(x, 0, 1)]).length (cellsA (rs ++ [(x, 0, 1)])) := by rw [cellsA_append, List.length_append]; exact own6
        clear Q4 Q5 ownA4 own6 k4 g4 gr6
        have hlen : (rs ++ [((x : Int), (0 : Int), (1 : Int))]).length ≤ 100 := by rw [List.length_append]; simp; omega
        replace R := R.far (c := ob) (by omega) 1 (.slice (some ⟨g6, 0, none⟩) (rs.length + 1) cap6)
        have Q := Q6.set1 (.slice (some ⟨g6, 0, none⟩) (rs.length + 1) cap6)
        replace own := ownsRow_other own (g := ob) hno 1 (.slice (some ⟨g6, 0, none⟩) (rs.length + 1) cap6)
        replace ownA := ownsRow_other ownA (g := ob) hgo2 1 (.slice (some ⟨g6, 0, none⟩) (rs.length + 1) cap6)
        replace G := only_set G (b := ob) (i := 1) (by omega) (.slice (some ⟨g6, 0, none⟩) (rs.length + 1) cap6)
        replace kc := kc.set (b := ob) (i := 1) (by omega) (.slice (some ⟨g6, 0, none⟩) (rs.length + 1) cap6)
        obtain ⟨r0, r1, r2, r3⟩ := R.cells
        obtain ⟨q0, q1, -, -⟩ := Q.cells
        go_wp2
        refine bodyPost_ret (v := .agg #[(.slice (some ⟨ng, 0, none⟩) ps.length nc), (.slice (some ⟨g6, 0, none⟩) (rs.length + 1) cap6)]) (by simp [results, Try.results42, go_sem, r0, r1]) rfl
          ⟨(.slice (some ⟨ng, 0, none⟩) ps.length nc), (.slice (some ⟨g6, 0, none⟩) (rs.length + 1) cap6), ps, (rs ++ [(x, 0, 1)]), rfl, by omega, by omega, hlen, ?_, ?_, ?_, ?_⟩
        · exact ownsRow_base (ownsRow_far (c := w.heap.size) (ownsRow_far (c := w.heap.size) own (by omega) 0 _) (by omega) 1 _) (by omega)
        · exact ownsRow_base (ownsRow_far (c := w.heap.size) (ownsRow_far (c := w.heap.size) ownA (by omega) 0 _) (by omega) 1 _) (by omega)
        · exact ((kc.set (b := w.heap.size) (i := 0) hcl _).set (b := w.heap.size) (i := 1) hcl _).more (by omega)
        · exact only_set (only_set G (b := w.heap.size) (i := 0) (Nat.le_refl _) _) (b := w.heap.size) (i := 1) (Nat.le_refl _) _)
    · by_cases hr0 : 0 < rs.length
      · obtain ⟨vg, rfl, hvg, -⟩ := hVA hr0
        have hri : (0 : Int) < rs.length := by omega
        have hrd : decide (0 < rs.length) = true := decide_eq_true hr0
        have hvo : vg < ob := HVL2.out vg rfl
        have hnv : ng ≠ vg := fun e => HPT.out (by rw [e]; rfl)
        obtain ⟨y0, y1, -, -⟩ := Q.cells
        obtain ⟨p2, hp2'⟩ : ∃ z : Int, (cellsA rs)[2]? = some (.int .i64 z) := ⟨_, cellsA_get rs 2 (by omega)⟩
        go_wp2_with fail
        clear y0 y1
        replace R : Pair w3.drew w.heap.size 32 (.slice none 0 0) (.slice none 0 0) := R
        replace Q : Pair w3.drew ob 32 (.slice (some ⟨ng, 0, none⟩) ps.length nc) (.slice (some ⟨vg, 0, none⟩) rs.length vc) := Q
        replace own : w3.drew.ownsRow (w.heap.size + 1) 85 2 (.slice (some ⟨ng, 0, none⟩) ps.length nc) ps.length (cellsP ps) := own
        replace ownA : w3.drew.ownsRow (w.heap.size + 1) 75 3 (.slice (some ⟨vg, 0, none⟩) rs.length vc) rs.length (cellsA rs) := ownA
        replace G : w.grownBy w3.drew (some c) := ⟨G.os, G.tape, G.output, G.size, G.block⟩
        replace kc := kc.drew
        replace ql : ob < w3.drew.heap.size := ql
        have qd := Q.cells.2.1
        go_region_law (first
          | (go_simp; go_at_call 74; refine (raw_at _ c C len cap _ kc (by omega)).mono ?_; rintro e w4 ⟨x, rfl, -, -, k4, g4⟩; have Q4 := Q.grown' g4 (fun g e => by injection e with e; omega); have q4 := Q4.cells.2.1; have R4 := R.grown' g4 (fun g e => by injection e with e; omega); have own4 := ownsRow_only own g4 (by omega); have ownA4 := ownsRow_only ownA g4 (by omega); have G4 := only_trans G g4; have Q5 := Q4.alloc (.cells #[.int .i64 x, .int .i64 0, .int .i64 10000, .int .i64 10001] 3); have q5 := Q5.cells.2.1; have k5 := k4.alloc (.cells #[.int .i64 x, .int .i64 0, .int .i64 10000, .int .i64 10001] 3); have c4 := k4.lt)
          | (go_simp; go_at_call 73; refine (pick_at _ c C len cap _ 4 k5 (by omega) (by omega)).mono ?_; rintro e w5 ⟨s4, rfl, hs40, hs41, -, k6, g6, -⟩; have hs42 := hs41 (by omega); obtain ⟨q, rfl⟩ : ∃ q : Nat, s4 = (q : Int) := ⟨s4.toNat, by omega⟩; obtain ⟨z, hz⟩ := four_at w4 w5 c x q (by omega) c4 g6; have Q6 := Q5.grown' g6 (fun g e => by injection e with e; omega); have q6 := Q6.cells.2.1; have R6 := (R4.alloc (.cells #[.int .i64 x, .int .i64 0, .int .i64 10000, .int .i64 10001] 3)).grown' g6 (fun g e => by injection e with e; omega); have own6 := ownsRow_only (own4.alloc (.cells #[.int .i64 x, .int .i64 0, .int .i64 10000, .int .i64 10001] 3)) g6 (by omega); have ownA6 := ownsRow_only (ownA4.alloc (.cells #[.int .i64 x, .int .i64 0, .int .i64 10000, .int .i64 10001] 3)) g6 (by omega); have G6 := only_trans (only_alloc G4 (.cells #[.int .i64 x, .int .i64 0, .int .i64 10000, .int .i64 10001] 3)) g6; obtain ⟨n6, f6⟩ := own_cell ownA6 2 _ hp2')
          | (go_simp; go_at_call 73; refine (pick_at _ c C len cap _ 4 k4 (by omega) (by omega)).mono ?_; rintro e w5 ⟨s4, rfl, hs40, hs41, -, k6', g6, -⟩; have hs42 := hs41 (by omega); obtain ⟨q, rfl⟩ : ∃ q : Nat, s4 = (q : Int) := ⟨s4.toNat, by omega⟩; obtain ⟨z, hz⟩ := four_new w5 x q (by omega); have k6 := k6'.alloc (.cells #[.int .i64 x, .int .i64 0, .int .i64 10000, .int .i64 10001] 3); have q6' := (Q4.grown' g6 (fun g e => by injection e with e; omega)).cells.2.1; have Q6 := (Q4.grown' g6 (fun g e => by injection e with e; omega)).alloc (.cells #[.int .i64 x, .int .i64 0, .int .i64 10000, .int .i64 10001] 3); have q6 := Q6.cells.2.1; have R6 := (R4.grown' g6 (fun g e => by injection e with e; omega)).alloc (.cells #[.int .i64 x, .int .i64 0, .int .i64 10000, .int .i64 10001] 3); have own6 := (ownsRow_only own4 g6 (by omega)).alloc (.cells #[.int .i64 x, .int .i64 0, .int .i64 10000, .int .i64 10001] 3); have ownA6 := (ownsRow_only ownA4 g6 (by omega)).alloc (.cells #[.int .i64 x, .int .i64 0, .int .i64 10000, .int .i64 10001] 3); have G6 := only_alloc (only_trans G4 g6) (.cells #[.int .i64 x, .int .i64 0, .int .i64 10000, .int .i64 10001] 3); obtain ⟨n6, f6⟩ := own_cell ownA6 2 _ hp2'))
        all_goals (
          clear q4 q5 q6 qd n6 f6 hz hp2'
          replace R := R6.far (c := vg) (by omega) 2 (.int .i64 z)
          replace Q := Q6.far (c := vg) (by omega) 2 (.int .i64 z)
          replace own := ownsRow_other own6 (g := vg) (fun e => hnv (by simpa [Value.ownBlock] using e)) 2 (.int .i64 z)
          replace G := only_set G6 (b := vg) (i := 2) (by omega) (.int .i64 z)
          replace kc := k6.set (b := vg) (i := 2) (by omega) (.int .i64 z)
          obtain ⟨qs, hqs, eqs⟩ := cellsA_put rs hr0 z
          replace ownA := ownsRow_put ownA6 2 (.int .i64 z)
          rw [eqs] at ownA
          replace ownA := ownsRow_len ownA hqs.symm
          clear Q4 Q5 Q6 R4 R6 own4 own6 G4 G6 ownA4 ownA6 k4 k5 k6 g4 g6 eqs
          obtain ⟨r0, r1, r2, r3⟩ := R.cells
          obtain ⟨q0, q1, -, -⟩ := Q.cells
          go_wp2
          refine bodyPost_ret (v := .agg #[(.slice (some ⟨ng, 0, none⟩) ps.length nc), (.slice (some ⟨vg, 0, none⟩) rs.length vc)]) (by simp [results, Try.results42, go_sem, r0, r1]) rfl
            ⟨(.slice (some ⟨ng, 0, none⟩) ps.length nc), (.slice (some ⟨vg, 0, none⟩) rs.length vc), ps, qs, rfl, by omega, by omega, by omega, ?_, ?_, ?_, ?_⟩
          · exact ownsRow_base (ownsRow_far (c := w.heap.size) (ownsRow_far (c := w.heap.size) own (by omega) 0 _) (by omega) 1 _) (by omega)
          · exact ownsRow_base (ownsRow_far (c := w.heap.size) (ownsRow_far (c := w.heap.size) ownA (by omega) 0 _) (by omega) 1 _) (by omega)
          · exact ((kc.set (b := w.heap.size) (i := 0) hcl _).set (b := w.heap.size) (i := 1) hcl _).more (by omega)
          · exact only_set (only_set G (b := w.heap.size) (i := 0) (Nat.le_refl _) _) (b := w.heap.size) (i := 1) (Nat.le_refl _) _)
      · have hrd : decide ((0 : Int) < rs.length) = false := decide_eq_false (by omega)
        have HR0 := Lib.hid hr0
        clear hr0
        obtain ⟨r0, r1, r2, r3⟩ := R.cells
        obtain ⟨q0, q1, -, -⟩ := Q.cells
        go_wp2
        refine bodyPost_ret (v := .agg #[(.slice (some ⟨ng, 0, none⟩) ps.length nc), (.slice VA rs.length vc)]) (by simp [results, Try.results42, go_sem, r0, r1]) rfl
          ⟨(.slice (some ⟨ng, 0, none⟩) ps.length nc), (.slice VA rs.length vc), ps, rs, rfl, by omega, by omega, by omega, ?_, ?_, ?_, ?_⟩
        · exact ownsRow_base (ownsRow_far (c := w.heap.size) (ownsRow_far (c := w.heap.size) own (by omega) 0 _) (by omega) 1 _) (by omega)
        · exact ownsRow_base (ownsRow_far (c := w.heap.size) (ownsRow_far (c := w.heap.size) ownA (by omega) 0 _) (by omega) 1 _) (by omega)
        · exact ((kc.set (b := w.heap.size) (i := 0) hcl _).set (b := w.heap.size) (i := 1) hcl _).more (by omega)
        · exact only_set (only_set G (b := w.heap.size) (i := 0) (Nat.le_refl _) _) (b := w.heap.size) (i := 1) (Nat.le_refl _) _
    · have HBK := Lib.hid (ownsRow_block ownA)
      rcases ownA.2 with ⟨eV, hr0⟩ | ⟨vg, vc', cur, eV, -⟩
      · injection eV with e1 e2 e3
        subst e1 e3
        have hrs : rs = [] := List.length_eq_zero_iff.1 hr0
        subst hrs
        clear e2 hr0
        obtain ⟨z0, z1, z2, z3⟩ := Q.cells
        obtain ⟨y0, y1, y2, y3⟩ := Q.cells
        replace R := R.far (c := ob) (by omega) 1 (.slice none 0 0)
        replace Q := Q.set1 (.slice none 0 0)
        replace own := ownsRow_other own (g := ob) (fun e => (show ng ≠ ob by omega) (by simpa [Value.ownBlock] using e)) 1 (.slice none 0 0)
        replace G := only_set G (b := ob) (i := 1) (by omega) (.slice none 0 0)
        replace kc := kc.set (b := ob) (i := 1) (by omega) (.slice none 0 0)
        replace ownA : (w3.setCell ⟨ob, 1, none⟩ (.slice none 0 0)).ownsRow (w.heap.size + 1) 75 3 (.slice none 0 0) ([] : List A3).length (cellsA []) := World.ownsRow_nil _ _ _ _
        clear y0 y1 y2 y3
        obtain ⟨r0, r1, r2, r3⟩ := R.cells
        obtain ⟨q0, q1, -, -⟩ := Q.cells
        go_wp2
        refine bodyPost_ret (v := .agg #[(.slice (some ⟨ng, 0, none⟩) ps.length nc), (.slice none 0 0)]) (by simp [results, Try.results42, go_sem, r0, r1]) rfl
          ⟨(.slice (some ⟨ng, 0, none⟩) ps.length nc), (.slice none 0 0), ps, [], rfl, by omega, by omega, by simp, ?_, ?_, ?_, ?_⟩
        · exact ownsRow_base (ownsRow_far (c := w.heap.size) (ownsRow_far (c := w.heap.size) own (by omega) 0 _) (by omega) 1 _) (by omega)
        · exact ownsRow_base (ownsRow_far (c := w.heap.size) (ownsRow_far (c := w.heap.size) ownA (by omega) 0 _) (by omega) 1 _) (by omega)
        · exact ((kc.set (b := w.heap.size) (i := 0) hcl _).set (b := w.heap.size) (i := 1) hcl _).more (by omega)
        · exact only_set (only_set G (b := w.heap.size) (i := 0) (Nat.le_refl _) _) (b := w.heap.size) (i := 1) (Nat.le_refl _) _
      · injection eV with e1 e2 e3
        subst e1 e3
        clear e2
        have hvo : vg < ob := HVL2.out vg rfl
        have hvb : w.heap.size + 1 ≤ vg := HBK.out vg rfl
        have HN := Lib.hid (World.ownsRow.cells ownA (g := vg) rfl)
        obtain ⟨q0, q1, q2, q3⟩ := Q.cells
        go_wp2_with (at_builtin; refine wpList_append_own _ rfl _ _ 30 rfl (w.heap.size + 1) 75 i1 (.agg #[.int .i64 0, .int .i64 0, .int .i64 0]) 3 24 Try.underlying30 hj hy0 hy1 hy2 rfl (by decide) _ _ _ rfl ownA ⟨vg, 0, none⟩ rs.length vc (cellsA rs) rfl ?qc1 ?qc2 ?qc3 ?qc4 ?qc5 ?qc6 ?_)
        case qc1 => exact cellsA_len _
        case qc2 => exact HN.out
        case qc3 => exact cellsA_one _
        case qc4 => unfold maxLen; omega
        case qc5 => omega
        case qc6 => omega
        intro v6 w6 own6 g6 _
        clear q0 q1 q2 q3 HN
        have hlen : (rs ++ rs).length ≤ 100 := by rw [List.length_append]; omega
        replace own6 : w6.ownsRow (w.heap.size + 1) 75 3 v6 (rs ++ rs).length (cellsA (rs ++ rs)) := by rw [cellsA_append, List.length_append]; exact own6
        obtain ⟨V6, c6, hV, -, -, -⟩ := ownA_is own6
        have hog : ∀ g, (Value.slice (some ⟨vg, 0, none⟩) rs.length vc).ownBlock = some g → g = vg := fun g e => (by simpa [Value.ownBlock] using e.symm)
        replace R := R.grown' g6 (fun g e => by have := hog g e; omega)
        replace Q := Q.grown' g6 (fun g e => by have := hog g e; omega)
        replace own := own.kept g6 (.inr (fun e => HPT.out e.symm))
        replace G := grown_new G g6 (fun g e => by have := HBK.out g e; omega)
        replace kc := kc.later g6 (fun g e => by have := HBK.out g e; omega)
        have hv6 := own_ne own6 Q (by decide)
        obtain ⟨n2, hn2⟩ : ∃ n2, n2 = (rs ++ rs).length := ⟨_, rfl⟩
        rw [← hn2] at hV
        have HN2 := Lib.hid hn2
        clear hn2
        subst hV
        have ownA2 := ownsRow_other own6 hv6 1 (.slice V6 n2 c6)
        clear hog g6 own6 ownA hv6
        obtain ⟨y0, y1, y2, y3⟩ := Q.cells
        replace R := R.far (c := ob) (by omega) 1 (.slice V6 n2 c6)
        replace Q := Q.set1 (.slice V6 n2 c6)
        replace own := ownsRow_other own (g := ob) (fun e => (show ng ≠ ob by omega) (by simpa [Value.ownBlock] using e)) 1 (.slice V6 n2 c6)
        replace G := only_set G (b := ob) (i := 1) (by omega) (.slice V6 n2 c6)
        replace kc := kc.set (b := ob) (i := 1) (by omega) (.slice V6 n2 c6)
        have ownA := ownA2
        clear ownA2
        obtain ⟨r0, r1, r2, r3⟩ := R.cells
        obtain ⟨q0, q1, -, -⟩ := Q.cells
        go_wp2
        refine bodyPost_ret (v := .agg #[(.slice (some ⟨ng, 0, none⟩) ps.length nc), (.slice V6 n2 c6)]) (by simp [results, Try.results42, go_sem, r0, r1]) rfl
          ⟨(.slice (some ⟨ng, 0, none⟩) ps.length nc), (.slice V6 n2 c6), ps, (rs ++ rs), rfl, by omega, by omega, hlen, ?_, ?_, ?_, ?_⟩
        · exact ownsRow_base (ownsRow_far (c := w.heap.size) (ownsRow_far (c := w.heap.size) own (by omega) 0 _) (by omega) 1 _) (by omega)
        · exact ownsRow_base (ownsRow_far (c := w.heap.size) (ownsRow_far (c := w.heap.size) ownA (by omega) 0 _) (by omega) 1 _) (by omega)
        · exact ((kc.set (b := w.heap.size) (i := 0) hcl _).set (b := w.heap.size) (i := 1) hcl _).more (by omega)
        · exact only_set (only_set G (b := w.heap.size) (i := 0) (Nat.le_refl _) _) (b := w.heap.size) (i := 1) (Nat.le_refl _) _
    · have HBK := Lib.hid (ownsRow_block own)
      go_wp2
      go_loopw [10] (fun _ wr => ∃ (gx ncx : Nat) (qs : List (Int × Int)), 2 ≤ qs.length ∧ qs.length ≤ 21 ∧ w.heap.size + 1 ≤ gx ∧ (Value.slice VA rs.length vc).ownBlock ≠ some gx ∧ Pair wr w.heap.size 32 (.slice none 0 0) (.slice none 0 0) ∧ Pair wr ob 32 (.slice (some ⟨gx, 0, none⟩) qs.length ncx) (.slice VA rs.length vc) ∧ wr.ownsRow (w.heap.size + 1) 85 2 (.slice (some ⟨gx, 0, none⟩) qs.length ncx) qs.length (cellsP qs) ∧ wr.ownsRow (w.heap.size + 1) 75 3 (.slice VA rs.length vc) rs.length (cellsA rs) ∧ CurAt wr c C len cap (m + 1000 + 1 + 1) ∧ w.grownBy wr (some c)) (fun _ wr => 21 - lenAt wr ob)
      case atStart => exact ⟨ng, nc, ps, by omega, by omega, hng, HPT.out, R, Q, own, ownA, kc, G⟩
      case round =>
        clear R Q own ownA kc G
        obtain ⟨gx, ncx, qs, h2, h21, hgx, hpx, R, Q, own, ownA, kc, G⟩ := hrel
        have HPX := Lib.hid hpx
        clear hpx
        obtain ⟨q0, q1, q2, q3⟩ := Q.cells
        by_cases hle : qs.length ≤ 20
        · have hd : decide ((qs.length : Int) ≤ 20) = true := decide_eq_true (by omega)
          have HL := Lib.hid (lenAt_of q0)
          have HBX := Lib.hid (ownsRow_block own)
          have hqn : ∀ g, (Value.slice (some ⟨gx, 0, none⟩) qs.length ncx).ownBlock = some g → g = gx := fun g e => (by simpa [Value.ownBlock] using e.symm)
          have hno := own_ne own Q (by decide)
          have hgo : gx ≠ ob := fun e => hno (by rw [e]; rfl)
          have HQN := Lib.hid hqn
          clear hqn hno
          have ql2 := Q.lt
          go_wp2_with (at_builtin; refine wpList_append_lies _ rfl _ _ 29 rfl (w.heap.size + 1) 85 i0 (.agg #[.int .i64 0, .int .i64 0]) 2 16 Try.underlying29 hi hz0 hz1 hz2 rfl (by decide) _ qs.length _ rfl (own.alloc _) ⟨wr.heap.size, 0, none⟩ 1 1 (cellsP [(0, 0)]) rfl rfl (cells2_new _ (0, 0) _) (cellsP_one _) (by decide) ?qc4 ?qc5 ?qc6 _ rfl ?_)
          case qc4 => unfold maxLen; omega
          case qc5 => omega
          case qc6 => rw [World.size_alloc]; omega
          intro g6 cap6 w6 own6 gr6 hg6 hl6
          clear q0 q1 q2 q3
          have b0 := below1 wr (.cells #[.int .i64 0, .int .i64 0] 85)
          replace R := (R.below b0).grown' gr6 (fun g e => by have := HQN.out g e; omega)
          replace Q := (Q.below b0).grown' gr6 (fun g e => by have := HQN.out g e; omega)
          replace ownA := (ownA.alloc (.cells #[.int .i64 0, .int .i64 0] 85)).kept gr6 (.inr HPX.out)
          replace G := grown_new (only_alloc G (.cells #[.int .i64 0, .int .i64 0] 85)) gr6 (fun g e => by have := HQN.out g e; omega)
          replace kc := (kc.alloc (.cells #[.int .i64 0, .int .i64 0] 85)).later gr6 (fun g e => by have := HQN.out g e; omega)
          replace own : w6.ownsRow (w.heap.size + 1) 85 2 (.slice (some ⟨g6, 0, none⟩) (qs.length + 1) cap6) (qs ++ [(0, 0)]).length (cellsP (qs ++ [(0, 0)])) := by rw [cellsP_append, List.length_append]; exact own6
          have hgb : w.heap.size + 1 ≤ g6 := ownsRow_block own g6 rfl
          have hgo6 := own_ne own Q (by decide)
          have hpx6 : (Value.slice VA rs.length vc).ownBlock ≠ some g6 := fun e => by
            rcases hg6 with h | h
            · exact HPX.out (by rw [← HQN.out g6 h]; exact e)
            · have h' : g6 = wr.heap.size + 1 := by first | exact h | rw [h, World.size_alloc]
              have := HVL2.out g6 e
              omega
          clear own6 gr6 b0 hg6
          obtain ⟨y0, y1, y2, y3⟩ := Q.cells
          replace R := R.far (c := ob) (by omega) 0 (.slice (some ⟨g6, 0, none⟩) (qs.length + 1) cap6)
          replace Q := Q.set0 (.slice (some ⟨g6, 0, none⟩) (qs.length + 1) cap6)
          replace ownA := ownsRow_other ownA (g := ob) (fun e => by have := HVL2.out ob e; omega) 0 (.slice (some ⟨g6, 0, none⟩) (qs.length + 1) cap6)
          replace own := ownsRow_other own hgo6 0 (.slice (some ⟨g6, 0, none⟩) (qs.length + 1) cap6)
          replace G := only_set G (b := ob) (i := 0) (by omega) (.slice (some ⟨g6, 0, none⟩) (qs.length + 1) cap6)
          replace kc := kc.set (b := ob) (i := 0) (by omega) (.slice (some ⟨g6, 0, none⟩) (qs.length + 1) cap6)
          have HL6 := Lib.hid (lenAt_of Q.cells.1)
          go_wp2
          go_roundw
          case rel => exact ⟨g6, cap6, qs ++ [(0, 0)], by rw [List.length_append]; simp; omega, by rw [List.length_append]; simp; omega, hgb, hpx6, R, by rw [List.length_append]; exact Q, by rw [List.length_append] at own ⊢; exact own, ownA, kc, G⟩
          case measure => rw [HL.out, HL6.out]; omega
        · have hd : decide ((qs.length : Int) ≤ 20) = false := decide_eq_false (by omega)
          obtain ⟨r0, r1, r2, r3⟩ := R.cells
          obtain ⟨q0, q1, -, -⟩ := Q.cells
          go_wp2
          refine bodyPost_ret (v := .agg #[(.slice (some ⟨gx, 0, none⟩) qs.length ncx), (.slice VA rs.length vc)]) (by simp [results, Try.results42, go_sem, r0, r1]) rfl
            ⟨(.slice (some ⟨gx, 0, none⟩) qs.length ncx), (.slice VA rs.length vc), qs, rs, rfl, by omega, by omega, by omega, ?_, ?_, ?_, ?_⟩
          · exact ownsRow_base (ownsRow_far (c := w.heap.size) (ownsRow_far (c := w.heap.size) own (by omega) 0 _) (by omega) 1 _) (by omega)
          · exact ownsRow_base (ownsRow_far (c := w.heap.size) (ownsRow_far (c := w.heap.size) ownA (by omega) 0 _) (by omega) 1 _) (by omega)
          · exact ((kc.set (b := w.heap.size) (i := 0) hcl _).set (b := w.heap.size) (i := 1) hcl _).more (by omega)
          · exact only_set (only_set G (b := w.heap.size) (i := 0) (Nat.le_refl _) _) (b := w.heap.size) (i := 1) (Nat.le_refl _) _

end Go.Proofs.Ytcaamhoakhgnhaa

namespace Go.Proofs.Ytcaamhoakhgnhaa
open Go.RowKit Go.Deep

/-- Some network; nothing that was there has turned. -/
def SomeNet (w : World) (e : Ending) (w' : World) : Prop :=
  ∃ (ad : Addr) (B : Option Addr) (ca cb : Nat) (ps : List (Int × Int)) (rs : List A3), e = .returned (.agg #[.slice (some ad) ps.length ca, .slice B rs.length cb]) ∧ 2 ≤ ps.length ∧ ps.length ≤ 21 ∧ rs.length ≤ 100 ∧ IsPts w' (some ad) ps ∧ IsArcs w' B rs ∧ Below w.heap.size w w'

theorem arcsD {w : World} {base : Nat} {A : Option Addr} {cap : Nat} {rs : List A3} (h : w.ownsRow base 75 3 (.slice A rs.length cap) rs.length (cellsA rs)) : IsArcs w A rs := fun hp => by
  obtain ⟨A', cap', e, -, -, hA⟩ := ownA_is h
  obtain ⟨g, rfl, -, ho⟩ := hA hp
  injection e with e1 e2 e3
  subst e1
  exact OwnAt.arcs ho hp

end Go.Proofs.Ytcaamhoakhgnhaa

namespace Go.Proofs.Ytcaamhoakhgnhaa
open Go.RowKit Go.Deep

theorem max_bd (n : Nat) (hn : n ≤ 1000) : (if (n : Int) > 1 then (n : Int) else 1) ≤ 1000 := by split <;> omega

theorem node_any (w : World) (c : Nat) (C : Option Addr) (len cap m : Nat) (A B : Option Addr) (n ca k cb : Nat) (hm : m ≤ 500000) (h1 : 2 ≤ n) (hn : n ≤ 1000) (h : CurAt w c C len cap m) :
    Calls Try.prog 43 #[.pointer (some ⟨c, 0, none⟩), .agg #[.slice A n ca, .slice B k cb]] w (Drawn w c C len cap (m + 3)) := by
  have hcl := h.lt
  have X := Pair.new w 32 (.slice A n ca) (.slice B k cb)
  have k0 := h.alloc (.cells #[.slice A n ca, .slice B k cb] 32)
  have G := only_alloc (World.grownBy.refl w (some c)) (.cells #[.slice A n ca, .slice B k cb] 32)
  go_enter Try.func43, Try.ntmps43
  go_wp2_with fail
  refine (once_any _ c C len cap m 14 (by omega) k0 (by omega) (by omega)).mono ?_
  rintro e w1 ⟨b, rfl, k1, g1⟩
  replace X := X.grown' g1 (fun g e => by injection e with e; omega)
  replace G := only_trans G g1
  clear g1 k0
  cases b with
  | true =>
    go_wp2_with fail
    refine (raw_any _ c C len cap (m + 1) (by omega) k1).mono ?_
    rintro e w2 ⟨v, rfl, hv0, hv1, k2, g2⟩
    replace G := only_trans G g2
    clear g2
    go_wp2
    go_ret
    exact ⟨v, rfl, hv0, hv1, k2, G⟩
  | false =>
    obtain ⟨x0, x1, -, -⟩ := X.cells
    go_wp2_with fail
    refine (pick_any _ c C len cap (m + 1) _ (by omega) k1 (by omega)).mono ?_
    rintro e w2 ⟨v, rfl, hv0, hv1, -, k2, g2, -⟩
    have hv2 := hv1 (by omega)
    replace G := only_trans G g2
    clear g2 x0 x1 X hv1
    go_wp2
    go_ret
    exact ⟨v, rfl, by omega, by omega, k2.more (by omega), G⟩

/-- Some network and a number; nothing that was there has turned. -/
def SomeNetInt (w : World) (e : Ending) (w' : World) : Prop :=
  ∃ (ad : Addr) (B : Option Addr) (ca cb : Nat) (ps : List (Int × Int)) (rs : List A3) (s : Int), e = .returned (.tuple #[.agg #[.slice (some ad) ps.length ca, .slice B rs.length cb], .int .i64 s]) ∧ 2 ≤ ps.length ∧ ps.length ≤ 21 ∧ rs.length ≤ 100 ∧ In64 s ∧ IsPts w' (some ad) ps ∧ IsArcs w' B rs ∧ Below w.heap.size w w'

end Go.Proofs.Ytcaamhoakhgnhaa
