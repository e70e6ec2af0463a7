/-
  What (*l01Cur).pot and spec.DrawGuided leave: some list of numbers; some network, two numbers and a list of numbers.
-/
import Derived.Test.YtcaamhoakhgnhaaDrawRoute
import Derived.Test.YtcaamhoakhgnhaaDrawTwo
import Derived.Test.YtcaamhoakhgnhaaDrawFar
import Derived.Test.YtcaamhoakhgnhaaMarkSp
import Derived.Test.YtcaamhoakhgnhaaSearchMath
namespace Go.Proofs.Ytcaamhoakhgnhaa
open Go.RowKit Go.Deep

abbrev BxP (b : Nat) (u v : Value) (w : World) : Prop := w.cell? ⟨b, 0, none⟩ = some u ∧ w.cell? ⟨b, 1, none⟩ = some v
theorem BxP.under {b : Nat} {u v : Value} {w w' : World} (hb : Below w.heap.size w w') (h : BxP b u v w) : BxP b u v w' := ⟨cell_under hb h.1, cell_under hb h.2⟩
/-- Some list of at most 22 numbers, in memory of the call's own; the cursor; all else as it was. -/
def PotDrawn (w : World) (c : Nat) (C : Option Addr) (len cap m : Nat) (e : Ending) (w' : World) : Prop :=
  ∃ (A : Option Addr) (cp : Nat) (zs : List Int), e = .returned (.slice A zs.length cp) ∧ zs.length ≤ 22 ∧ OwnSl w' w.heap.size 3 A zs.length (zg zs) ∧ CurAt w' c C len cap (m + 40) ∧ w.grownBy w' (some c)
/-- A list in a row of its own, with no room to spare. -/
def FitRow (w : World) (base : Nat) (v : Value) (zs : List Int) : Prop := ∃ A, v = .slice A zs.length zs.length ∧ (0 < zs.length → ∃ g, A = some ⟨g, 0, none⟩ ∧ base ≤ g ∧ IRow w g zs.length (zg zs))
section
variable {w w' : World} {base : Nat} {v : Value} {zs : List Int}
theorem FitRow.form (h : FitRow w base v zs) : ∃ A, v = .slice A zs.length zs.length := by obtain ⟨A, h, -⟩ := h; exact ⟨A, h⟩
theorem FitRow.only {c : Nat} (h : FitRow w base v zs) (g : w.grownBy w' (some c)) (hc : c < base) : FitRow w' base v zs := by
  obtain ⟨A, rfl, h⟩ := h
  exact ⟨A, rfl, fun hp => by obtain ⟨b, rfl, h1, h2⟩ := h hp; exact ⟨b, rfl, h1, OwnAt.of_block h2 (g.block b h2.lt (fun e => by injection e with e; omega))⟩⟩
theorem FitRow.below (h : FitRow w base v zs) (b : Below w.heap.size w w') : FitRow w' base v zs := by
  obtain ⟨A, rfl, h⟩ := h
  exact ⟨A, rfl, fun hp => by obtain ⟨g, rfl, h1, h2⟩ := h hp; exact ⟨g, rfl, h1, OwnAt.of_block h2 (b.block g h2.lt)⟩⟩
theorem FitRow.row {A : Option Addr} {n k : Nat} (h : FitRow w base (.slice A n k) zs) (hp : 0 < zs.length) : ∃ g, A = some ⟨g, 0, none⟩ ∧ base ≤ g ∧ IRow w g zs.length (zg zs) := by
  obtain ⟨A', e, h⟩ := h
  injection e with e1 e2 e3
  subst e1
  exact h hp
theorem FitRow.set {g n k i : Nat} (h : FitRow w base (.slice (some ⟨g, 0, none⟩) n k) zs) (hi : i < zs.length) (x : Int) : FitRow (w.setCell ⟨g, i, none⟩ (.int .i64 x)) base (.slice (some ⟨g, 0, none⟩) (zs.set i x).length (zs.set i x).length) (zs.set i x) := by
  obtain ⟨b, e, hb, I⟩ := h.row (by omega)
  cases e
  refine ⟨_, rfl, fun _ => ⟨g, rfl, hb, ?_⟩⟩
  have := IRow.put I rfl i hi x
  rw [List.length_set]; exact this
theorem FitRow.ownSl {A : Option Addr} {n k : Nat} (h : FitRow w base (.slice A n k) zs) : OwnSl w base 3 A zs.length (zg zs) := fun hp => by
  obtain ⟨g, rfl, h1, h2⟩ := h.row hp
  exact ⟨g, 0, rfl, h1, h2⟩
theorem OwnSl.lower {b0 : Nat} {A : Option Addr} {n : Nat} {f : Nat → Int} (h : OwnSl w base 3 A n f) (hb : b0 ≤ base) : OwnSl w b0 3 A n f := fun hp => by
  obtain ⟨g, off, h1, h2, h3⟩ := h hp
  exact ⟨g, off, h1, by omega, h3⟩
theorem FitRow.drawn {w0 : World} {c : Nat} {C : Option Addr} {len cap m : Nat} (h : FitRow w base v zs) (hl : zs.length ≤ 22) (hb : w0.heap.size ≤ base) (k : CurAt w c C len cap (m + 40)) (G : w0.grownBy w (some c)) : PotDrawn w0 c C len cap m (.returned v) w := by
  obtain ⟨A, rfl, h'⟩ := h
  exact ⟨A, _, zs, rfl, hl, OwnSl.lower (FitRow.ownSl (A := A) ⟨A, rfl, h'⟩) hb, k, G⟩
/-- What an append to such a list leaves. -/
def Fit1 (W : World) (zs : List Int) (A' : Option Addr) (w' : World) : Prop := OwnSl w' W.heap.size 3 A' zs.length (zg zs) ∧ Below W.heap.size W w'
theorem Fit1.drawn {W w0 w' : World} {c : Nat} {C : Option Addr} {len cap m cp : Nat} {A' : Option Addr} {x : Int} (h : Fit1 W (zs ++ [x]) A' w') (hl : zs.length ≤ 21) (hb : w0.heap.size ≤ W.heap.size) (G : w0.grownBy W (some c)) (k : CurAt W c C len cap (m + 40)) : PotDrawn w0 c C len cap m (.returned (.slice A' (zs.length + 1) cp)) w' :=
  ⟨A', cp, zs ++ [x], by simp, by simp; omega, OwnSl.lower h.1 hb, k.below h.2, below_grown G h.2⟩
set_option maxRecDepth 100000 in
theorem FitRow.more {W : World} (ty : TypeId) {x : Int} (h : FitRow W base v zs) (hl : zs.length ≤ 21) (hb : base ≤ base) :
    ∃ A' cap' w', (Builtin.append_ #[40, 40] ty #[v, .slice (some ⟨W.heap.size, 0, none⟩) 1 1]).run Try.prog (W.alloc (.cells #[.int .i64 x] 3)) = .ok (.slice A' (zs.length + 1) cap') w' ∧ Fit1 W (zs ++ [x]) A' w' := by
  obtain ⟨i0, hi, hz0, hz1, hz2⟩ := info_parts Try.infoInt
  have kb := below1 W (.cells #[.int .i64 x] 3)
  have h1 := h.below kb
  have hW : W.heap.size < (W.alloc (.cells #[.int .i64 x] 3)).heap.size := by rw [World.size_alloc]; omega
  have hnb : (W.alloc (.cells #[.int .i64 x] 3)).heap[W.heap.size]? = some (.cells #[.int .i64 x] 3 (0, 0)) := heap_alloc_new W _
  have hnw : ∀ j u, [Value.int .i64 x][j]? = some u → (W.alloc (.cells #[.int .i64 x] 3)).cell? ((⟨W.heap.size, 0, none⟩ : Addr).add j) = some u := fun j u hj => by
    have hj' : j < 1 := by have := (List.getElem?_eq_some_iff.1 hj).1; simpa using this
    obtain rfl : j = 0 := by omega
    rw [Addr.add_lit, cell_of_block hnb]; simpa using hj
  generalize W.alloc (.cells #[.int .i64 x] 3) = V at kb h1 hW hnw ⊢
  have fin : ∀ (A' : Option Addr) (g : Nat) (cur : Array Value), g = V.heap.size → A' = some ⟨g, 0, none⟩ → zs.length + 1 ≤ cur.size → (∀ j, j < zs.length + 1 → cur[j]? = some (.int .i64 (zg (zs ++ [x]) j))) → Fit1 W (zs ++ [x]) A' (V.drew.alloc (.cells cur 3)) := by
    intro A' g cur hg hA hs hc
    subst hg; subst hA
    refine ⟨fun _ => ⟨V.heap.size, 0, rfl, by omega, cur, heap_alloc_new _ _, by simp; omega, fun j hj => by rw [Nat.zero_add]; exact hc j (by simpa using hj)⟩, kb.trans (((Below.refl _ V).drew.trans (show Below V.heap.size V.drew _ from below1 V.drew _)).mono (by omega))⟩
  have cells : ∀ (f : Nat → Value) (z : Array Value), (∀ j, j < zs.length → f j = .int .i64 (zg zs j)) → ∀ j, j < zs.length + 1 → (((List.range zs.length).map f).toArray ++ #[.int .i64 x] ++ z)[j]? = some (.int .i64 (zg (zs ++ [x]) j)) := by
    intro f z hf j hj
    have e1 : ((List.range zs.length).map f).toArray.size = zs.length := by simp
    rw [Array.getElem?_append_left (by simp; omega)]
    rcases Nat.lt_or_ge j zs.length with hlt | hge
    · rw [Array.getElem?_append_left (by simpa using hlt)]
      have e2 : zg (zs ++ [x]) j = zg zs j := by unfold zg; rw [List.getD_eq_getElem?_getD, List.getD_eq_getElem?_getD, List.getElem?_append_left hlt]
      rw [e2]; simp [hlt, hf j hlt]
    · obtain rfl : j = zs.length := by omega
      have e2 : zg (zs ++ [x]) zs.length = x := by unfold zg; rw [List.getD_eq_getElem?_getD]; simp
      rw [e2, Array.getElem?_append_right (by simp)]; simp
  obtain ⟨A, rfl, hA⟩ := h1
  have hfit : ∀ s, s ≤ 21 → Builtin.nextslicecap (s + 1) s * i0.bytes ≤ 281474976710656 := fun s hs => growslice_fits (by omega) (by rw [hz2]; omega)
  rcases Nat.eq_zero_or_pos zs.length with h0 | h0
  · obtain rfl : zs = [] := List.eq_nil_of_length_eq_zero h0
    have hc0 := cells (fun _ => .int .i64 0) 
    cases A with
    | none =>
      have hr := run_append_nil (P := Try.prog) (w := V) 40 ty 3 i0 (.int .i64 0) Try.underlying40 hi hz0 ⟨W.heap.size, 0, none⟩ 1 1 [.int .i64 x] (by rw [hz1]; rfl) hnw (by omega) (by omega) (by rw [hz2]; omega)
      refine ⟨_, _, _, hr, fin _ _ _ rfl rfl (by simp) (fun j hj => ?_)⟩
      have hc1 := hc0 (Builtin.zeroCells (Value.int .i64 0).cells (grownCap V 1 0 3 - 1)) (by simp) j hj
      simpa using hc1
    | some b =>
      have hr := run_append_grow (P := Try.prog) (w := V) 40 ty 3 i0 (.int .i64 0) Try.underlying40 hi hz0 b 0 0 [] (by simp) (by simp) ⟨W.heap.size, 0, none⟩ 1 1 [.int .i64 x] (by rw [hz1]; rfl) hnw (by omega) (by omega) (hfit 0 (by omega))
      refine ⟨_, _, _, hr, fin _ _ _ rfl rfl (by simp) (fun j hj => ?_)⟩
      have hc1 := hc0 (Builtin.zeroCells (Value.int .i64 0).cells (grownCap V (0 + 1) 0 3 - (0 + 1))) (by simp) j hj
      simpa using hc1
  · obtain ⟨g, rfl, hg, I⟩ := hA h0
    have ho : ∀ j u, ((List.range zs.length).map fun j => Value.int .i64 (zg zs j))[j]? = some u → V.cell? ((⟨g, 0, none⟩ : Addr).add j) = some u := fun j u hj => by
      have hj' : j < zs.length := by have := (List.getElem?_eq_some_iff.1 hj).1; simpa using this
      rw [Addr.add_lit, Nat.zero_add, I.cell hj']
      simpa [hj'] using hj
    have hr := run_append_grow (P := Try.prog) (w := V) 40 ty 3 i0 (.int .i64 0) Try.underlying40 hi hz0 ⟨g, 0, none⟩ zs.length zs.length ((List.range zs.length).map fun j => Value.int .i64 (zg zs j)) (by rw [hz1]; simp) ho ⟨W.heap.size, 0, none⟩ 1 1 [.int .i64 x] (by rw [hz1]; rfl) hnw (by omega) (by omega) (hfit _ hl)
    exact ⟨_, _, _, hr, fin _ _ _ rfl rfl (by simp) (cells (fun j => .int .i64 (zg zs j)) _ (fun _ _ => rfl))⟩
end
theorem grown_set_own {w w1 : World} {c b i : Nat} (G : w.grownBy w1 (some c)) (hb : w.heap.size ≤ b) (v : Value) : w.grownBy (w1.setCell ⟨b, i, none⟩ v) (some c) :=
  ⟨G.os, G.tape, G.output, by simpa [World.setCell] using G.size, fun k hk hne => (Below.heap_setCell _ _ _ _ (by show k ≠ b; omega)).trans (G.block k hk hne)⟩
theorem mark_small (ps : List (Int × Int)) (rs : List A3) (t : Int) (zs : List Int) : (markP ps rs t zs).length ≤ ps.length := by
  unfold markP; split
  · rw [rowZ_len]; exact Nat.le_refl _
  · simp

set_option maxRecDepth 100000 in
set_option maxHeartbeats 4000000 in
theorem pot_any (w : World) (c : Nat) (C : Option Addr) (len cap m : Nat) (ad : Addr) (B : Option Addr) (ca cb : Nat) (ps : List (Int × Int)) (rs : List A3) (base : Nat) (hm : m ≤ 450000) (h2 : 2 ≤ ps.length) (h21 : ps.length ≤ 21) (h100 : rs.length ≤ 100) (hcb : c < base)
    (hP : w.ownsRow base 85 2 (.slice (some ad) ps.length ca) ps.length (cellsP ps)) (hR : w.ownsRow base 75 3 (.slice B rs.length cb) rs.length (cellsA rs)) (h : CurAt w c C len cap m) :
    Calls Try.prog 54 #[.pointer (some ⟨c, 0, none⟩), .agg #[.slice (some ad) ps.length ca, .slice B rs.length cb]] w (PotDrawn w c C len cap m) := by
  have hcl := h.lt
  have X := Pair.new w 32 (.slice (some ad) ps.length ca) (.slice B rs.length cb)
  have k0 := h.alloc (.cells #[.slice (some ad) ps.length ca, .slice B rs.length cb] 32)
  have G := only_alloc (World.grownBy.refl w (some c)) (.cells #[.slice (some ad) ps.length ca, .slice B rs.length cb] 32)
  have HP := Lib.hid (fun (W : World) (g : w.grownBy W (some c)) => OwnSl.ptsD (ownsRow_only hP g hcb))
  have HR := Lib.hid (fun (W : World) (g : w.grownBy W (some c)) => arcsD (ownsRow_only hR g hcb))
  clear hP hR
  have hmx : max (1 : Int) (ps.length : Int) = ps.length := by omega
  go_enter Try.func54, Try.ntmps54
  obtain ⟨x0, x1, -, -⟩ := X.cells
  go_wp2_with fail
  clear x0 x1
  refine (pick_any _ c C len cap _ _ (by omega) k0 (by omega)).mono ?_
  rintro e w1 ⟨v1, rfl, hv0, -, -, k1, g1, -⟩
  replace X := X.grown' g1 (fun g e => by injection e with e; omega)
  replace G := only_trans G g1
  have hs1 : w.heap.size + 1 ≤ w1.heap.size := by have := g1.size; simp at this; omega
  clear g1 k0 hmx
  obtain ⟨x0, x1, -, -⟩ := X.cells
  have T : BxP w.heap.size (.slice (some ad) ps.length ca) (.slice B rs.length cb) w1.drew := ⟨x0, x1⟩
  clear x0 x1
  go_wp2_with fail
  go_region_held3 (fun w' => BxP w.heap.size (.slice (some ad) ps.length ca) (.slice B rs.length cb) w')
    (first | exact T | assumption)
    ((first
      | (go_at_call 89; refine (specMark_fit ad B A3 ca cb c3 ps rs v1 (farM ps rs (1 + v2)) _ (by omega) (by omega) (farM_len ps rs (1 + v2)) (HP.out _ G3) (HR.out _ G3) (OwnSl.ints O3)).mono ?_; rintro e w4 ⟨A4, rfl, F4, b4⟩; have S4 := BxP.under b4 S3)
      | (go_at_call 90; refine (specFar_any (some ad) B ca cb ps rs (1 + v2) _ (by omega) (by omega) (HP.out _ G2) (HR.out _ G2)).mono ?_; rintro e w3 ⟨A3, c3, rfl, hc3, O3, b3⟩; have S3 := BxP.under b3 S2; have G3 := below_grown G2 b3; have k3 := k2.below b3)
      | (go_at_call 73; refine (pick_any _ c C len cap _ 3 (by omega) k1.drew (by omega)).mono ?_; rintro e w2 ⟨v2, rfl, hu0, hu1, -, k2, g2, -⟩; have hu2 := hu1 (by omega); have hw2 : IntKind.i64.wrap (1 + v2) = 1 + v2 := IntWalk.i64_in _ (by omega); have G2 := only_trans (grown_drewN G 1) g2; have S2 : BxP w.heap.size (.slice (some ad) ps.length ca) (.slice B rs.length cb) w2 := ⟨cell_only (w := w1.drew) g2 T.1 (by intro e; injection e with e; omega), cell_only (w := w1.drew) g2 T.2 (by intro e; injection e with e; omega)⟩)))
  have k4 := k3.below b4
  have G4 := below_grown G3 b4
  have hs3 : w.heap.size + 1 ≤ w3.heap.size := by have q1 := g2.size; have q2 := b3.size; have q3 : w1.drew.heap.size = w1.heap.size := rfl; omega
  have hL := mark_small ps rs v1 (farM ps rs (1 + v2))
  have F4' : FitRow w4 (w.heap.size + 1) (.slice A4 (markP ps rs v1 (farM ps rs (1 + v2))).length (markP ps rs v1 (farM ps rs (1 + v2))).length) (markP ps rs v1 (farM ps rs (1 + v2))) := ⟨A4, rfl, fun hp => by obtain ⟨g, rfl, q1, q2⟩ := F4 hp; exact ⟨g, rfl, by omega, q2⟩⟩
  generalize markP ps rs v1 (farM ps rs (1 + v2)) = zs at F4' hL ⊢
  replace hL : zs.length ≤ 21 := by omega
  have X4 := Pair.below (Pair.below (Pair.grown' (w := w1.drew) X g2 (fun g e => by injection e with e; omega)) b3) b4
  clear F4 b4 b3 O3 S3 S4 S2 T g2 k3 k2 G3 G2 hw2 hu0 hu1 hu2 hv0 X k1 G HP HR
  generalize hV : Value.slice A4 zs.length zs.length = V at F4' ⊢
  have F4 := F4'
  clear F4' hV
  go_wp2_with fail
  refine (pick_any _ c C len cap _ 4 (by omega) k4 (by omega)).mono ?_
  rintro e w5 ⟨v5, rfl, v50, v51, v52, k5, g5, -⟩
  have F5 := F4.only g5 (by omega)
  have G5 := only_trans G4 g5
  have X5 := Pair.grown' X4 g5 (fun g e => by injection e with e; omega)
  clear X4
  clear k4 F4 G4 g5
  by_cases hz : v5 = 0
  · subst hz
    obtain ⟨x0, x1, -, -⟩ := X5.cells
    have kz := below1 w5 (.cells (madeCells #[.int .i64 0] ps.length) 3)
    have IZ := IRow.made w5 ps.length
    have F6 : FitRow (w5.alloc (.cells (madeCells #[.int .i64 0] ps.length) 3)) (w.heap.size + 1) (.slice (some ⟨w5.heap.size, 0, none⟩) (List.replicate ps.length (0 : Int)).length (List.replicate ps.length (0 : Int)).length) (List.replicate ps.length (0 : Int)) := ⟨_, rfl, fun _ => ⟨w5.heap.size, rfl, X5.lt, by rw [List.length_replicate]; exact IZ.congr fun i hi => by rw [zg_zeros]⟩⟩
    have k6 := k5.below kz
    have G6 := below_grown G5 kz
    have hL6 : (List.replicate ps.length (0 : Int)).length ≤ 21 := by simp; omega
    rw [show Value.slice (some ⟨w5.heap.size, 0, none⟩) (List.replicate ps.length (0 : Int)).length (List.replicate ps.length (0 : Int)).length = Value.slice (some ⟨w5.heap.size, 0, none⟩) ps.length ps.length by rw [List.length_replicate]] at F6
    obtain ⟨W6, hW6⟩ : ∃ W6, W6 = w5.alloc (.cells (madeCells #[.int .i64 0] ps.length) 3) := ⟨_, rfl⟩
    rw [← hW6] at F6 k6 G6
    have HW6 := Lib.hid hW6
    clear hW6 kz IZ k5 F5 hL X5
    have hmk := run_make_row' (P := Try.prog) 40 3 (.int .i64 0) 8 Try.underlying40 Try.infoInt rfl .i64 .i64 ps.length (by omega) (by omega)
    go_wp2_with fail
    rw [← HW6.out]
    clear HW6 x0 x1 hmk
    generalize hV6 : Value.slice (some ⟨w5.heap.size, 0, none⟩) ps.length ps.length = V6 at F6 ⊢
    clear hV6 G5
    generalize List.replicate ps.length (0 : Int) = zs at F6 hL6
    have hL := hL6
    clear hL6
    refine (once_any _ c C len cap _ 6 (by omega) k6 (by omega) (by omega)).mono ?_
    rintro e w8 ⟨b8, rfl, k8, g8⟩
    have F8 := F6.only g8 (by omega)
    have G8 := only_trans G6 g8
    clear k6 F6 g8
    cases b8 with
    | false =>
      obtain ⟨A8, hA8⟩ := F8.form
      have HA8 := Lib.hid hA8
      subst hA8
      go_wp2_with fail
      generalize hV : Value.slice A8 zs.length zs.length = V at F8 ⊢
      clear HA8
      refine (once_any _ c C len cap _ 14 (by omega) k8 (by omega) (by omega)).mono ?_
      rintro e w9 ⟨b9, rfl, k9, g9⟩
      have F9 := F8.only g9 (by omega)
      have G9 := only_trans G8 g9
      clear k8 F8 g9
      cases b9 with
      | false =>
        have HE : Hid (PotDrawn w c C len cap m (.returned V) w9) := Lib.hid (F9.drawn (by omega) (by omega) (k9.more (by omega)) G9)
        obtain ⟨A9, rfl, -⟩ := F9
        clear G9 k9
        go_wp2
        go_ret
        exact HE.out
      | true =>
        obtain ⟨A', cap', w', hr, HE⟩ := F9.more 40 (x := 0) (by omega) (by omega)
        have HE2 : Hid (PotDrawn w c C len cap m (.returned (.slice A' (zs.length + 1) cap')) w') := Lib.hid (HE.drawn (by omega) (by have := G9.size; omega) G9 (k9.more (by omega)))
        obtain ⟨A9, rfl, -⟩ := F9
        clear G9 k9 HE
        go_wp2_with (at_builtin; refine Lib.wpList_append_run _ rfl _ _ _ _ rfl _ _ rfl rfl _ _ hr ?_)
        go_ret
        exact HE2.out
    | true =>
      rcases Nat.eq_zero_or_pos zs.length with h0 | h0
      · have hng : ¬ (zs.length : Int) > 0 := by omega
        have hngd : decide ((0 : Int) < (zs.length : Int)) = false := decide_eq_false (by omega)
        clear h0
        obtain ⟨A8, rfl⟩ := F8.form
        go_wp2_with fail
        generalize hV : Value.slice A8 zs.length zs.length = V at F8 ⊢
        clear hng hngd
        refine (once_any _ c C len cap _ 14 (by omega) k8 (by omega) (by omega)).mono ?_
        rintro e w9 ⟨b9, rfl, k9, g9⟩
        have F9 := F8.only g9 (by omega)
        have G9 := only_trans G8 g9
        clear k8 F8 g9
        cases b9 with
        | false =>
          have HE : Hid (PotDrawn w c C len cap m (.returned V) w9) := Lib.hid (F9.drawn (by omega) (by omega) (k9.more (by omega)) G9)
          obtain ⟨A9, rfl, -⟩ := F9
          clear G9 k9
          go_wp2
          go_ret
          exact HE.out
        | true =>
          obtain ⟨A', cap', w', hr, HE⟩ := F9.more 40 (x := 0) (by omega) (by omega)
          have HE2 : Hid (PotDrawn w c C len cap m (.returned (.slice A' (zs.length + 1) cap')) w') := Lib.hid (HE.drawn (by omega) (by have := G9.size; omega) G9 (k9.more (by omega)))
          obtain ⟨A9, rfl, -⟩ := F9
          clear G9 k9 HE
          go_wp2_with (at_builtin; refine Lib.wpList_append_run _ rfl _ _ _ _ rfl _ _ rfl rfl _ _ hr ?_)
          go_ret
          exact HE2.out
      · have hng : (zs.length : Int) > 0 := by omega
        have hngd : decide ((0 : Int) < (zs.length : Int)) = true := decide_eq_true (by omega)
        obtain ⟨A8, rfl⟩ := F8.form
        go_wp2_with fail
        clear hng hngd
        refine (pick_any _ c C len cap _ (zs.length : Int) (by omega) k8 (by omega)).mono ?_
        rintro e w20 ⟨q1, rfl, q10, q11, q12, k20, g20, -⟩
        have F20 := F8.only g20 (by omega)
        have G20 := only_trans G8 g20
        clear k8 F8 G8 g20
        have hq : q1 < (zs.length : Int) := by rcases Int.lt_or_le (zs.length : Int) 2 with h | h; (have := q12 h; omega); exact q11 h
        go_wp2_with fail
        refine (pick_any _ c C len cap _ 50 (by omega) k20 (by omega)).mono ?_
        rintro e w21 ⟨q2, rfl, q20, q21, q22, k21, g21, -⟩
        have F21 := F20.only g21 (by omega)
        have G21 := only_trans G20 g21
        clear k20 F20 G20 g21
        go_wp2_with fail
        refine (raw_any _ c C len cap _ (by omega) k21).mono ?_; rintro e w22 ⟨x, rfl, -, -, k22, g22⟩
        have F22 := F21.only g22 (by omega)
        have G22 := only_trans G21 g22
        clear k21 F21 G21 g22
        have F23 := F22.below (below1 w22 (.cells #[.int .i64 q2, .int .i64 x] 3))
        have G23 := below_grown G22 (below1 w22 (.cells #[.int .i64 q2, .int .i64 x] 3))
        have k23 := k22.below (below1 w22 (.cells #[.int .i64 q2, .int .i64 x] 3))
        have LC := fun i hi => laid_cell w22 [q2, x] 3 (i := i) hi
        have hcl := k22.lt
        have hG22 := G22.size
        obtain ⟨W, hW⟩ : ∃ W, W = w22.alloc (.cells #[.int .i64 q2, .int .i64 x] 3) := ⟨_, rfl⟩
        replace LC : ∀ i, i < 2 → W.cell? ⟨w22.heap.size, i, none⟩ = some (.int .i64 (zg [q2, x] i)) := fun i hi => by rw [hW]; exact LC i hi
        have hWs : w22.heap.size < W.heap.size := by rw [hW, World.size_alloc]; omega
        rw [← hW] at F23 G23 k23
        have HW := Lib.hid hW
        clear hW k22 F22 G22
        go_wp2_with fail
        rw [← HW.out]
        clear HW
        refine (pick_any _ c C len cap _ 2 (by omega) k23 (by omega)).mono ?_
        rintro e w24 ⟨q3, rfl, q30, q31, q32, k24, g24, -⟩
        have F24 := F23.only g24 (by omega)
        have G24 := only_trans G23 g24
        have LD : ∀ i, i < 2 → w24.cell? ⟨w22.heap.size, i, none⟩ = some (.int .i64 (zg [q2, x] i)) := fun i hi => cell_only g24 (LC i hi) (by intro e; injection e with e; omega)
        clear k23 F23 G23 g24
        clear LC
        obtain ⟨Q1, rfl⟩ : ∃ Q1 : Nat, q1 = Q1 := ⟨q1.toNat, by omega⟩
        obtain ⟨Q3, rfl⟩ : ∃ Q3 : Nat, q3 = Q3 := ⟨q3.toNat, by omega⟩
        have hQ3 : (Q3 : Int) < 2 := q31 (by omega)
        have hQ1 : Q1 < zs.length := by omega
        have hz := LD Q3 (by omega)
        generalize zg [q2, x] Q3 = z at hz
        clear LD hWs
        obtain ⟨g, rfl, hg, I⟩ := F24.row (by omega)
        have hIc := I.cell hQ1
        have hIf := OwnAt.frozen I Q1
        have hQ3n : Q3 < 2 := by omega
        have F25 := F24.set hQ1 z
        have k25 := k24.set (b := g) (i := Q1) (by omega) (.int .i64 z)
        have G25 := grown_set_own G24 (b := g) (i := Q1) (by omega) (.int .i64 z)
        have hzl : (zs.set Q1 z).length = zs.length := List.length_set ..
        clear F24 k24 G24 I
        go_wp2_with fail
        generalize zs.set Q1 z = zs' at F25 hzl
        have hzl' : zs'.length ≤ 21 := by omega
        rw [← hzl]
        generalize hV : Value.slice (some ⟨g, 0, none⟩) zs'.length zs'.length = V at F25 ⊢
        clear hzl hIc hIf hz
        obtain ⟨w25, hw25⟩ : ∃ w25, w25 = w24.setCell ⟨g, Q1, none⟩ (.int .i64 z) := ⟨_, rfl⟩
        rw [← hw25] at F25 k25 G25 ⊢
        clear hw25 h0 hL
        clear hQ1
        have hL := hzl'
        refine (once_any _ c C len cap _ 14 (by omega) k25 (by omega) (by omega)).mono ?_
        rintro e w9 ⟨b9, rfl, k9, g9⟩
        have F9 := F25.only g9 (by omega)
        have G9 := only_trans G25 g9
        clear k25 F25 g9
        cases b9 with
        | false =>
          have HE : Hid (PotDrawn w c C len cap m (.returned V) w9) := Lib.hid (F9.drawn (by omega) (by omega) (k9.more (by omega)) G9)
          obtain ⟨A9, rfl, -⟩ := F9
          clear G9 k9
          go_wp2
          go_ret
          exact HE.out
        | true =>
          obtain ⟨A', cap', w', hr, HE⟩ := F9.more 40 (x := 0) (by omega) (by omega)
          have HE2 : Hid (PotDrawn w c C len cap m (.returned (.slice A' (zs'.length + 1) cap')) w') := Lib.hid (HE.drawn (by omega) (by have := G9.size; omega) G9 (k9.more (by omega)))
          obtain ⟨A9, rfl, -⟩ := F9
          clear G9 k9 HE
          go_wp2_with (at_builtin; refine Lib.wpList_append_run _ rfl _ _ _ _ rfl _ _ rfl rfl _ _ hr ?_)
          go_ret
          exact HE2.out
  · have hzb : (v5 == 0) = false := by rw [beq_eq_false_iff_ne]; exact hz
    clear X5
    go_wp2_with fail
    clear hzb
    refine (once_any _ c C len cap _ 6 (by omega) k5 (by omega) (by omega)).mono ?_
    rintro e w8 ⟨b8, rfl, k8, g8⟩
    have F8 := F5.only g8 (by omega)
    have G8 := only_trans G5 g8
    clear k5 F5 g8
    cases b8 with
    | false =>
      obtain ⟨A8, hA8⟩ := F8.form
      have HA8 := Lib.hid hA8
      subst hA8
      go_wp2_with fail
      generalize hV : Value.slice A8 zs.length zs.length = V at F8 ⊢
      clear HA8
      refine (once_any _ c C len cap _ 14 (by omega) k8 (by omega) (by omega)).mono ?_
      rintro e w9 ⟨b9, rfl, k9, g9⟩
      have F9 := F8.only g9 (by omega)
      have G9 := only_trans G8 g9
      clear k8 F8 g9
      cases b9 with
      | false =>
        have HE : Hid (PotDrawn w c C len cap m (.returned V) w9) := Lib.hid (F9.drawn (by omega) (by omega) (k9.more (by omega)) G9)
        obtain ⟨A9, rfl, -⟩ := F9
        clear G9 k9
        go_wp2
        go_ret
        exact HE.out
      | true =>
        obtain ⟨A', cap', w', hr, HE⟩ := F9.more 40 (x := 0) (by omega) (by omega)
        have HE2 : Hid (PotDrawn w c C len cap m (.returned (.slice A' (zs.length + 1) cap')) w') := Lib.hid (HE.drawn (by omega) (by have := G9.size; omega) G9 (k9.more (by omega)))
        obtain ⟨A9, rfl, -⟩ := F9
        clear G9 k9 HE
        go_wp2_with (at_builtin; refine Lib.wpList_append_run _ rfl _ _ _ _ rfl _ _ rfl rfl _ _ hr ?_)
        go_ret
        exact HE2.out
    | true =>
      rcases Nat.eq_zero_or_pos zs.length with h0 | h0
      · have hng : ¬ (zs.length : Int) > 0 := by omega
        have hngd : decide ((0 : Int) < (zs.length : Int)) = false := decide_eq_false (by omega)
        clear h0
        obtain ⟨A8, rfl⟩ := F8.form
        go_wp2_with fail
        generalize hV : Value.slice A8 zs.length zs.length = V at F8 ⊢
        clear hng hngd
        refine (once_any _ c C len cap _ 14 (by omega) k8 (by omega) (by omega)).mono ?_
        rintro e w9 ⟨b9, rfl, k9, g9⟩
        have F9 := F8.only g9 (by omega)
        have G9 := only_trans G8 g9
        clear k8 F8 g9
        cases b9 with
        | false =>
          have HE : Hid (PotDrawn w c C len cap m (.returned V) w9) := Lib.hid (F9.drawn (by omega) (by omega) (k9.more (by omega)) G9)
          obtain ⟨A9, rfl, -⟩ := F9
          clear G9 k9
          go_wp2
          go_ret
          exact HE.out
        | true =>
          obtain ⟨A', cap', w', hr, HE⟩ := F9.more 40 (x := 0) (by omega) (by omega)
          have HE2 : Hid (PotDrawn w c C len cap m (.returned (.slice A' (zs.length + 1) cap')) w') := Lib.hid (HE.drawn (by omega) (by have := G9.size; omega) G9 (k9.more (by omega)))
          obtain ⟨A9, rfl, -⟩ := F9
          clear G9 k9 HE
          go_wp2_with (at_builtin; refine Lib.wpList_append_run _ rfl _ _ _ _ rfl _ _ rfl rfl _ _ hr ?_)
          go_ret
          exact HE2.out
      · have hng : (zs.length : Int) > 0 := by omega
        have hngd : decide ((0 : Int) < (zs.length : Int)) = true := decide_eq_true (by omega)
        obtain ⟨A8, rfl⟩ := F8.form
        go_wp2_with fail
        clear hng hngd
        refine (pick_any _ c C len cap _ (zs.length : Int) (by omega) k8 (by omega)).mono ?_
        rintro e w20 ⟨q1, rfl, q10, q11, q12, k20, g20, -⟩
        have F20 := F8.only g20 (by omega)
        have G20 := only_trans G8 g20
        clear k8 F8 G8 g20
        have hq : q1 < (zs.length : Int) := by rcases Int.lt_or_le (zs.length : Int) 2 with h | h; (have := q12 h; omega); exact q11 h
        go_wp2_with fail
        refine (pick_any _ c C len cap _ 50 (by omega) k20 (by omega)).mono ?_
        rintro e w21 ⟨q2, rfl, q20, q21, q22, k21, g21, -⟩
        have F21 := F20.only g21 (by omega)
        have G21 := only_trans G20 g21
        clear k20 F20 G20 g21
        go_wp2_with fail
        refine (raw_any _ c C len cap _ (by omega) k21).mono ?_; rintro e w22 ⟨x, rfl, -, -, k22, g22⟩
        have F22 := F21.only g22 (by omega)
        have G22 := only_trans G21 g22
        clear k21 F21 G21 g22
        have F23 := F22.below (below1 w22 (.cells #[.int .i64 q2, .int .i64 x] 3))
        have G23 := below_grown G22 (below1 w22 (.cells #[.int .i64 q2, .int .i64 x] 3))
        have k23 := k22.below (below1 w22 (.cells #[.int .i64 q2, .int .i64 x] 3))
        have LC := fun i hi => laid_cell w22 [q2, x] 3 (i := i) hi
        have hcl := k22.lt
        have hG22 := G22.size
        obtain ⟨W, hW⟩ : ∃ W, W = w22.alloc (.cells #[.int .i64 q2, .int .i64 x] 3) := ⟨_, rfl⟩
        replace LC : ∀ i, i < 2 → W.cell? ⟨w22.heap.size, i, none⟩ = some (.int .i64 (zg [q2, x] i)) := fun i hi => by rw [hW]; exact LC i hi
        have hWs : w22.heap.size < W.heap.size := by rw [hW, World.size_alloc]; omega
        rw [← hW] at F23 G23 k23
        have HW := Lib.hid hW
        clear hW k22 F22 G22
        go_wp2_with fail
        rw [← HW.out]
        clear HW
        refine (pick_any _ c C len cap _ 2 (by omega) k23 (by omega)).mono ?_
        rintro e w24 ⟨q3, rfl, q30, q31, q32, k24, g24, -⟩
        have F24 := F23.only g24 (by omega)
        have G24 := only_trans G23 g24
        have LD : ∀ i, i < 2 → w24.cell? ⟨w22.heap.size, i, none⟩ = some (.int .i64 (zg [q2, x] i)) := fun i hi => cell_only g24 (LC i hi) (by intro e; injection e with e; omega)
        clear k23 F23 G23 g24
        clear LC
        obtain ⟨Q1, rfl⟩ : ∃ Q1 : Nat, q1 = Q1 := ⟨q1.toNat, by omega⟩
        obtain ⟨Q3, rfl⟩ : ∃ Q3 : Nat, q3 = Q3 := ⟨q3.toNat, by omega⟩
        have hQ3 : (Q3 : Int) < 2 := q31 (by omega)
        have hQ1 : Q1 < zs.length := by omega
        have hz := LD Q3 (by omega)
        generalize zg [q2, x] Q3 = z at hz
        clear LD hWs
        obtain ⟨g, rfl, hg, I⟩ := F24.row (by omega)
        have hIc := I.cell hQ1
        have hIf := OwnAt.frozen I Q1
        have hQ3n : Q3 < 2 := by omega
        have F25 := F24.set hQ1 z
        have k25 := k24.set (b := g) (i := Q1) (by omega) (.int .i64 z)
        have G25 := grown_set_own G24 (b := g) (i := Q1) (by omega) (.int .i64 z)
        have hzl : (zs.set Q1 z).length = zs.length := List.length_set ..
        clear F24 k24 G24 I
        go_wp2_with fail
        generalize zs.set Q1 z = zs' at F25 hzl
        have hzl' : zs'.length ≤ 21 := by omega
        rw [← hzl]
        generalize hV : Value.slice (some ⟨g, 0, none⟩) zs'.length zs'.length = V at F25 ⊢
        clear hzl hIc hIf hz
        obtain ⟨w25, hw25⟩ : ∃ w25, w25 = w24.setCell ⟨g, Q1, none⟩ (.int .i64 z) := ⟨_, rfl⟩
        rw [← hw25] at F25 k25 G25 ⊢
        clear hw25 h0 hL
        clear hQ1
        have hL := hzl'
        refine (once_any _ c C len cap _ 14 (by omega) k25 (by omega) (by omega)).mono ?_
        rintro e w9 ⟨b9, rfl, k9, g9⟩
        have F9 := F25.only g9 (by omega)
        have G9 := only_trans G25 g9
        clear k25 F25 g9
        cases b9 with
        | false =>
          have HE : Hid (PotDrawn w c C len cap m (.returned V) w9) := Lib.hid (F9.drawn (by omega) (by omega) (k9.more (by omega)) G9)
          obtain ⟨A9, rfl, -⟩ := F9
          clear G9 k9
          go_wp2
          go_ret
          exact HE.out
        | true =>
          obtain ⟨A', cap', w', hr, HE⟩ := F9.more 40 (x := 0) (by omega) (by omega)
          have HE2 : Hid (PotDrawn w c C len cap m (.returned (.slice A' (zs'.length + 1) cap')) w') := Lib.hid (HE.drawn (by omega) (by have := G9.size; omega) G9 (k9.more (by omega)))
          obtain ⟨A9, rfl, -⟩ := F9
          clear G9 k9 HE
          go_wp2_with (at_builtin; refine Lib.wpList_append_run _ rfl _ _ _ _ rfl _ _ rfl rfl _ _ hr ?_)
          go_ret
          exact HE2.out

/-- Some network, two numbers and a list of numbers; nothing that was there has turned. -/
def SomeNetPot (w : World) (e : Ending) (w' : World) : Prop :=
  ∃ (ad : Addr) (B C : Option Addr) (ca cb cc : Nat) (ps : List (Int × Int)) (rs : List A3) (s t : Int) (zs : List Int), e = .returned (.tuple #[.agg #[.slice (some ad) ps.length ca, .slice B rs.length cb], .int .i64 s, .int .i64 t, .slice C zs.length cc]) ∧ 2 ≤ ps.length ∧ ps.length ≤ 21 ∧ rs.length ≤ 100 ∧ zs.length ≤ 22 ∧ IsPts w' (some ad) ps ∧ IsArcs w' B rs ∧ IsInts w' C zs ∧ Below w.heap.size w w'

set_option maxRecDepth 100000 in
set_option maxHeartbeats 4000000 in
theorem drawGuided_any (w : World) (A : Option Addr) (len cap : Nat) (hc : CodeIn w A len) (hl : len ≤ 1048576) : Calls Try.prog 20 #[.slice A len cap] w (SomeNetPot w) := by
  have R := Pair.new w 32 (.slice none 0 0) (.slice none 0 0)
  have b0 := below1 w (.cells #[.slice none 0 0, .slice none 0 0] 32)
  go_enter Try.func20, Try.ntmps20
  go_wp2_with fail
  refine (open_any _ A len cap (hc.below b0) hl).mono ?_
  rintro e w1 ⟨rfl, k1, b1, -⟩
  rw [World.size_alloc] at k1
  replace R := R.below b1
  replace b0 := b0.trans (b1.mono b0.size)
  have hc1 := k1.lt
  clear b1
  go_wp2_with fail
  refine (anyNet_any w1 (w.heap.size + 1) A len cap 0 (by omega) k1).mono ?_
  rintro e w2 ⟨NV, V, ps, rs, rfl, h2, h21, h100, own, ownA, k2, g2⟩
  replace R := R.grown' g2 (fun g e => by injection e with e; omega)
  have hc2 := k2.lt
  have b2 := below_only b0 g2 (by omega)
  clear g2 b0 k1
  obtain ⟨NA, nc, rfl, -, hNA⟩ := ownP_is own
  obtain ⟨VA, vc, rfl, -, -, -⟩ := ownA_is ownA
  obtain ⟨ng, rfl, -, -⟩ := hNA (by omega)
  clear hNA
  have Y := Pair.new w2 32 (.slice (some ⟨ng, 0, none⟩) ps.length nc) (.slice VA rs.length vc)
  have kb := below1 w2 (.cells #[.slice (some ⟨ng, 0, none⟩) ps.length nc, .slice VA rs.length vc] 32)
  replace R := R.below kb
  have IP : IsPts (w2.alloc (.cells #[.slice (some ⟨ng, 0, none⟩) ps.length nc, .slice VA rs.length vc] 32)) (some ⟨ng, 0, none⟩) ps := (OwnSl.ptsD own).below kb
  have IA : IsArcs (w2.alloc (.cells #[.slice (some ⟨ng, 0, none⟩) ps.length nc, .slice VA rs.length vc] 32)) VA rs := (arcsD ownA).below kb
  clear IP IA
  have hyl : w2.heap.size < (w2.alloc (.cells #[.slice (some ⟨ng, 0, none⟩) ps.length nc, .slice VA rs.length vc] 32)).heap.size := Y.lt
  have kc := k2.alloc (.cells #[.slice (some ⟨ng, 0, none⟩) ps.length nc, .slice VA rs.length vc] 32)
  have own' := own.alloc (.cells #[.slice (some ⟨ng, 0, none⟩) ps.length nc, .slice VA rs.length vc] 32)
  have ownA' := ownA.alloc (.cells #[.slice (some ⟨ng, 0, none⟩) ps.length nc, .slice VA rs.length vc] 32)
  replace b2 := b2.trans (kb.mono b2.size)
  obtain ⟨yb, hyb⟩ : ∃ yb, yb = w2.heap.size := ⟨_, rfl⟩
  obtain ⟨W3, hW3⟩ : ∃ W3, W3 = w2.alloc (.cells #[.slice (some ⟨ng, 0, none⟩) ps.length nc, .slice VA rs.length vc] 32) := ⟨_, rfl⟩
  rw [← hyb] at Y hyl hc2
  rw [← hW3] at Y R kc own' ownA' b2 hyl
  have HYB := Lib.hid hyb
  have HW3 := Lib.hid hW3
  clear own ownA kb k2 hyb hW3
  go_wp2_with fail
  rw [← HYB.out, ← HW3.out]
  clear HYB HW3
  have S0 : W3.cell? ⟨yb, 0, none⟩ = some (.slice (some ⟨ng, 0, none⟩) ps.length nc) ∧ W3.cell? ⟨yb, 1, none⟩ = some (.slice VA rs.length vc) := ⟨Y.cells.1, Y.cells.2.1⟩
  go_region_held3 (fun w' => w'.cell? ⟨yb, 0, none⟩ = some (.slice (some ⟨ng, 0, none⟩) ps.length nc) ∧ w'.cell? ⟨yb, 1, none⟩ = some (.slice VA rs.length vc))
    (first | exact S0 | exact S5 | exact S4 | exact S3 | (refine ⟨?_, ?_⟩ <;> (rw [World.cell?_setCell_far _ _ _ _ (by simp; omega), World.cell?_setCell_far _ _ _ _ (by simp; omega)]; first | exact S5.1 | exact S5.2)))
    ((first
      | (go_at_call 54; refine (pot_any w4 (w.heap.size + 1) A len cap _ ⟨ng, 0, none⟩ VA nc vc ps rs _ (by omega) h2 h21 h100 hc1 own4 ownA4 k4).mono ?_; rintro e w5 ⟨D, cd, zs, rfl, hz22, O5, -, g5⟩; have S5 : w5.cell? ⟨yb, 0, none⟩ = some (.slice (some ⟨ng, 0, none⟩) ps.length nc) ∧ w5.cell? ⟨yb, 1, none⟩ = some (.slice VA rs.length vc) := ⟨cell_only g5 S4.1 (by intro e; injection e with e; omega), cell_only g5 S4.2 (by intro e; injection e with e; omega)⟩; have R5 : Pair w5 w.heap.size 32 (.slice none 0 0) (.slice none 0 0) := Pair.grown' (w := w4) R4 g5 (fun g e => by injection e with e; omega); have hO5 : w.heap.size < w4.heap.size := R4.lt; obtain ⟨r0, r1, r2, r3⟩ := R5.cells)
      | (go_at_call 43; (have J := k3); (refine (node_any _ (w.heap.size + 1) A len cap _ (some ⟨ng, 0, none⟩) VA ps.length nc rs.length vc (by omega) h2 (by omega) J).mono ?_); rintro e w4 ⟨v4, rfl, hu0, hu1, k4, g4⟩; (have S4 : w4.cell? ⟨yb, 0, none⟩ = some (.slice (some ⟨ng, 0, none⟩) ps.length nc) ∧ w4.cell? ⟨yb, 1, none⟩ = some (.slice VA rs.length vc) := ⟨cell_only g4 S3.1 (by intro e; injection e with e; omega), cell_only g4 S3.2 (by intro e; injection e with e; omega)⟩); (have R4 : Pair w4 w.heap.size 32 (.slice none 0 0) (.slice none 0 0) := Pair.grown' (w := w3) R3 g4 (fun g e => by injection e with e; omega)); have own4 := ownsRow_only own3 g4 (by omega); have ownA4 := ownsRow_only ownA3 g4 (by omega))
      | (go_at_call 43; (refine (node_any _ (w.heap.size + 1) A len cap _ (some ⟨ng, 0, none⟩) VA ps.length nc rs.length vc (by omega) h2 (by omega) kc.drew).mono ?_); rintro e w3 ⟨v, rfl, hv0, hv1, k3, g3⟩; (have S3 : w3.cell? ⟨yb, 0, none⟩ = some (.slice (some ⟨ng, 0, none⟩) ps.length nc) ∧ w3.cell? ⟨yb, 1, none⟩ = some (.slice VA rs.length vc) := ⟨cell_only g3 S0.1 (by intro e; injection e with e; omega), cell_only g3 S0.2 (by intro e; injection e with e; omega)⟩); (have R3 : Pair w3 w.heap.size 32 (.slice none 0 0) (.slice none 0 0) := Pair.grown' (w := W3.drew) R g3 (fun g e => by injection e with e; omega)); have own3 := ownsRow_only (w := W3.drew) own' g3 (by omega); have ownA3 := ownsRow_only (w := W3.drew) ownA' g3 (by omega))))
  have b3 := below_only b2.drew g3 (by omega)
  have b4 := below_only b3 g4 (by omega)
  have b5 := below_only b4 g5 (by omega)
  have own5 := ownsRow_only own4 g5 (by omega)
  have ownA5 := ownsRow_only ownA4 g5 (by omega)
  clear own' ownA' g3 g4 g5 kc k3 k4 R Y S0 S3 S4 S5 R3 R4 R5 own3 ownA3 own4 ownA4 b3 b4
  have OF := OwnSl.ints (OwnSl.of_block O5 (w' := (w5.setCell ⟨w.heap.size, 0, none⟩ (.slice (some ⟨ng, 0, none⟩) ps.length nc)).setCell ⟨w.heap.size, 1, none⟩ (.slice VA rs.length vc)) (fun g e _ => by rw [Below.heap_setCell _ _ _ _ (by have := (blk_own O5 e).1; simp; omega), Below.heap_setCell _ _ _ _ (by have := (blk_own O5 e).1; simp; omega)]))
  clear O5
  go_wp2
  exact bodyPost_ret (v := .tuple #[.agg #[.slice (some ⟨ng, 0, none⟩) ps.length nc, .slice VA rs.length vc], .int .i64 v, .int .i64 v4, .slice D zs.length cd]) (by simp [results, Try.results20, go_sem, r0, r1]) rfl
    ⟨_, _, _, _, _, cd, ps, rs, v, v4, zs, rfl, h2, h21, h100, hz22, OwnSl.ptsD (ownsRow_far (c := w.heap.size) (ownsRow_far (c := w.heap.size) own5 (by omega) 0 _) (by omega) 1 _), arcsD (ownsRow_far (c := w.heap.size) (ownsRow_far (c := w.heap.size) ownA5 (by omega) 0 _) (by omega) 1 _), OF, (b5.setCell (by simp) _).setCell (by simp) _⟩
  
  end Go.Proofs.Ytcaamhoakhgnhaa
