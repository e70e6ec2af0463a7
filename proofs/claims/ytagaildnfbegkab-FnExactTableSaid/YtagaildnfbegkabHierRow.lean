/-
  Slices of hierarchy arcs (four numbers) and hierarchies: how they read, how the laws copy, compare and mark them.
-/
import Derived.Test.YtagaildnfbegkabNetOpen
import Derived.Test.YtagaildnfbegkabSlices
import Derived.Test.YtagaildnfbegkabMarks
import Derived.Deep.RegionHeld3
namespace Go.Proofs.Ytagaildnfbegkab
open Go.RowKit Go.Deep Go.ChangeShapes Go.WideShapes Go.Joins

abbrev A4 := Int × Int × Int × Int
def hcg (rs : List A4) (i : Nat) : A4 := rs.getD i (0, 0, 0, 0)
def IsHs (w : World) (A : Option Addr) (rs : List A4) : Prop :=
  0 < rs.length → ∃ b off, A = some ⟨b, off, none⟩ ∧ b < w.heap.size ∧ ∀ i, i < rs.length → w.cell? ⟨b, off + i * 4, none⟩ = some (.int .i64 (hcg rs i).1) ∧ w.cell? ⟨b, off + i * 4 + 1, none⟩ = some (.int .i64 (hcg rs i).2.1) ∧ w.cell? ⟨b, off + i * 4 + 2, none⟩ = some (.int .i64 (hcg rs i).2.2.1) ∧ w.cell? ⟨b, off + i * 4 + 3, none⟩ = some (.int .i64 (hcg rs i).2.2.2)
theorem IsHs.below {w w' : World} {A : Option Addr} {rs : List A4} (h : IsHs w A rs) (hb : Below w.heap.size w w') : IsHs w' A rs := by
  intro hp
  obtain ⟨b, off, h1, h2, h3⟩ := h hp
  exact ⟨b, off, h1, Nat.lt_of_lt_of_le h2 hb.size, fun i hi => ⟨(hb.cell (p := ⟨b, off + i * 4, none⟩) h2).trans (h3 i hi).1, (hb.cell (p := ⟨b, off + i * 4 + 1, none⟩) h2).trans (h3 i hi).2.1, (hb.cell (p := ⟨b, off + i * 4 + 2, none⟩) h2).trans (h3 i hi).2.2.1, (hb.cell (p := ⟨b, off + i * 4 + 3, none⟩) h2).trans (h3 i hi).2.2.2⟩⟩
theorem IsHs.at_ {w : World} {A : Option Addr} {rs : List A4} (h : IsHs w A rs) {k : Nat} (hk : k < rs.length) :
    ∃ b off, A = some ⟨b, off, none⟩ ∧ b < w.heap.size ∧ w.cell? ⟨b, off + k * 4, none⟩ = some (.int .i64 (hcg rs k).1) ∧ w.cell? ⟨b, off + k * 4 + 1, none⟩ = some (.int .i64 (hcg rs k).2.1) ∧ w.cell? ⟨b, off + k * 4 + 2, none⟩ = some (.int .i64 (hcg rs k).2.2.1) ∧ w.cell? ⟨b, off + k * 4 + 3, none⟩ = some (.int .i64 (hcg rs k).2.2.2) := by
  obtain ⟨b, off, h1, h2, h3⟩ := h (by omega)
  exact ⟨b, off, h1, h2, h3 k hk⟩
theorem toHArc_any (x y z v : Int) (w : World) : Calls Try.prog 59 #[.agg #[.int .i64 x, .int .i64 y, .int .i64 z, .int .i64 v]] w fun e w' => e = .returned (.agg #[.int .i64 x, .int .i64 y, .int .i64 z, .int .i64 v]) ∧ Below w.heap.size w w' := by
  go_enter Try.func59, Try.ntmps59
  go_wp2
  exact bodyPost_ret (v := .agg #[.int .i64 x, .int .i64 y, .int .i64 z, .int .i64 v]) (by simp [results, Try.results59, go_sem]) rfl ⟨rfl, below3 _ _ _ _⟩
def flatH (rs : List A4) (j : Nat) : Int := if j % 4 = 0 then (hcg rs (j / 4)).1 else if j % 4 = 1 then (hcg rs (j / 4)).2.1 else if j % 4 = 2 then (hcg rs (j / 4)).2.2.1 else (hcg rs (j / 4)).2.2.2
theorem flatH_0 (rs : List A4) (i : Nat) : flatH rs (i * 4) = (hcg rs i).1 := by unfold flatH; rw [if_pos (by omega), Nat.mul_div_cancel _ (by omega)]
theorem flatH_1 (rs : List A4) (i : Nat) : flatH rs (i * 4 + 1) = (hcg rs i).2.1 := by unfold flatH; rw [if_neg (by omega), if_pos (by omega), show (i * 4 + 1) / 4 = i by omega]
theorem flatH_2 (rs : List A4) (i : Nat) : flatH rs (i * 4 + 2) = (hcg rs i).2.2.1 := by unfold flatH; rw [if_neg (by omega), if_neg (by omega), if_pos (by omega), show (i * 4 + 2) / 4 = i by omega]
theorem flatH_3 (rs : List A4) (i : Nat) : flatH rs (i * 4 + 3) = (hcg rs i).2.2.2 := by unfold flatH; rw [if_neg (by omega), if_neg (by omega), if_neg (by omega), show (i * 4 + 3) / 4 = i by omega]
def HsRow (w : World) (b : Nat) (rs : List A4) : Prop := w.rowIs b 57 (rs.length * 4) (fun j => .int .i64 (flatH rs j))
theorem HsRow.is {w : World} {b : Nat} {rs : List A4} (h : HsRow w b rs) : IsHs w (some ⟨b, 0, none⟩) rs := fun _ =>
  ⟨b, 0, rfl, World.rowIs.lt h, fun i hi => ⟨by rw [Nat.zero_add, World.rowIs.cell h (by omega), flatH_0], by rw [Nat.zero_add, World.rowIs.cell h (by omega), flatH_1], by rw [Nat.zero_add, World.rowIs.cell h (by omega), flatH_2], by rw [Nat.zero_add, World.rowIs.cell h (by omega), flatH_3]⟩⟩
theorem Try.infoHArc : (Try.prog.info? 57).map (fun i => (i.zero, i.size, i.bytes)) = some (some (.agg #[.int .i64 0, .int .i64 0, .int .i64 0, .int .i64 0]), 4, 32) := by kernel_rfl
theorem run_make_hs (n : Nat) (h : n ≤ 1048576) (w : World) :
    (Instr.makeSlice 28 (.int .i64 (n : Int)) (.int .i64 (n : Int))).run Try.prog w = .ok (.slice (some ⟨w.heap.size, 0, none⟩) n n) (w.alloc (.cells (madeCells (Array.replicate 4 (.int .i64 0)) (n * 4)) 57)) := by
  obtain ⟨i, hi, hzz⟩ := Option.map_eq_some_iff.1 Try.infoHArc
  simp only [Prod.mk.injEq] at hzz
  obtain ⟨hz, hs, hb⟩ := hzz
  have hr := run_make (P := Try.prog) w 28 57 i _ Try.underlying28 hi hz .i64 .i64 n n (by omega) (Int.le_refl _) (by rw [hb]; omega) (by omega)
  simp only [Int.toNat_natCast, hs] at hr
  exact hr
def CopyH (w wr : World) (rs : List A4) (k : Nat) : Prop :=
  wr.rowIs w.heap.size 57 (rs.length * 4) (fun j => .int .i64 (if j < k * 4 then flatH rs j else 0)) ∧ Below w.heap.size w wr
theorem copyH_start (w : World) (rs : List A4) : CopyH w (w.alloc (.cells (madeCells (Array.replicate 4 (.int .i64 0)) (rs.length * 4)) 57)) rs 0 :=
  ⟨(made_ints w 4 rs.length (by omega) _).congr fun i _ => by rw [if_neg (by omega)], (Below.refl _ _).alloc (Nat.le_refl _) _⟩
theorem copyH_call {w wr w' : World} {rs : List A4} {k : Nat} (h : CopyH w wr rs k) (hb : Below wr.heap.size wr w') : CopyH w w' rs k := ⟨rowIs_below h.1 hb, h.2.trans (hb.mono h.2.size)⟩
theorem copyH_step {w wr : World} {rs : List A4} {k : Nat} (h : CopyH w wr rs k) :
    CopyH w ((((wr.setCell ⟨w.heap.size, k * 4, none⟩ (.int .i64 (hcg rs k).1)).setCell ⟨w.heap.size, k * 4 + 1, none⟩ (.int .i64 (hcg rs k).2.1)).setCell ⟨w.heap.size, k * 4 + 2, none⟩ (.int .i64 (hcg rs k).2.2.1)).setCell ⟨w.heap.size, k * 4 + 3, none⟩ (.int .i64 (hcg rs k).2.2.2)) rs (k + 1) := by
  refine ⟨((((World.rowIs.set h.1 (k * 4) _).set (k * 4 + 1) _).set (k * 4 + 2) _).set (k * 4 + 3) _).congr fun j _ => ?_, (((h.2.setCell (Nat.le_refl _) _).setCell (Nat.le_refl _) _).setCell (Nat.le_refl _) _).setCell (Nat.le_refl _) _⟩
  by_cases e3 : j = k * 4 + 3
  · subst e3; rw [if_pos rfl, if_pos (by omega), flatH_3]
  rw [if_neg e3]
  by_cases e2 : j = k * 4 + 2
  · subst e2; rw [if_pos rfl, if_pos (by omega), flatH_2]
  rw [if_neg e2]
  by_cases e1 : j = k * 4 + 1
  · subst e1; rw [if_pos rfl, if_pos (by omega), flatH_1]
  rw [if_neg e1]
  by_cases e0 : j = k * 4
  · subst e0; rw [if_pos rfl, if_pos (by omega), flatH_0]
  rw [if_neg e0]
  by_cases hj : j < k * 4
  · rw [if_pos hj, if_pos (by omega)]
  · rw [if_neg hj, if_neg (by omega)]
theorem copyH_end {w wr : World} {rs : List A4} {k : Nat} (h : CopyH w wr rs k) (hk : rs.length ≤ k) : HsRow wr w.heap.size rs ∧ Below w.heap.size w wr :=
  ⟨World.rowIs.congr h.1 fun j hj => by rw [if_pos (by omega)], h.2⟩
theorem copyH_here {w wr : World} {rs : List A4} {k : Nat} (h : CopyH w wr rs k) (hk : k < rs.length) :
    (wr.cell? ⟨w.heap.size, k * 4, none⟩ = some (.int .i64 0) ∧ wr.cell? ⟨w.heap.size, k * 4 + 1, none⟩ = some (.int .i64 0) ∧ wr.cell? ⟨w.heap.size, k * 4 + 2, none⟩ = some (.int .i64 0) ∧ wr.cell? ⟨w.heap.size, k * 4 + 3, none⟩ = some (.int .i64 0)) ∧ wr.frozen? ⟨w.heap.size, k * 4, none⟩ = false ∧ wr.frozen? ⟨w.heap.size, k * 4 + 1, none⟩ = false ∧ wr.frozen? ⟨w.heap.size, k * 4 + 2, none⟩ = false ∧ wr.frozen? ⟨w.heap.size, k * 4 + 3, none⟩ = false :=
  ⟨⟨by rw [World.rowIs.cell h.1 (by omega), if_neg (by omega)], by rw [World.rowIs.cell h.1 (by omega), if_neg (by omega)], by rw [World.rowIs.cell h.1 (by omega), if_neg (by omega)], by rw [World.rowIs.cell h.1 (by omega), if_neg (by omega)]⟩, World.rowIs.frozen h.1 _, World.rowIs.frozen h.1 _, World.rowIs.frozen h.1 _, World.rowIs.frozen h.1 _⟩

set_option maxHeartbeats 800000 in
theorem toHArcS_any (A : Option Addr) (cap : Nat) (rs : List A4) (w : World) (hn : rs.length ≤ 1048576) (h : IsHs w A rs) :
    Calls Try.prog 36 #[.slice A rs.length cap] w fun e w' => e = .returned (.slice (some ⟨w.heap.size, 0, none⟩) rs.length rs.length) ∧ HsRow w' w.heap.size rs ∧ Below w.heap.size w w' := by
  have hmk := run_make_hs rs.length hn
  go_enter Try.func36, Try.ntmps36
  go_wp2
  go_loopw [4] (fun i wr => ∃ k : Nat, k ≤ rs.length ∧ i = .int .i64 k ∧ CopyH w wr rs k) (fun i _ => rs.length - (intOf i).toNat)
  case atStart => exact ⟨0, by omega, rfl, copyH_start w rs⟩
  case round =>
    obtain ⟨k, hk, rfl, hr⟩ := hrel
    by_cases hlt : k < rs.length
    · obtain ⟨b, off, rfl, hb, hck⟩ := (h.below hr.2).at_ hlt
      obtain ⟨c0, c1, c2, c3⟩ := hck
      clear hmk
      go_wp2_with fail
      refine (toHArc_any _ _ _ _ _).mono ?_; rintro e w1 ⟨rfl, b1⟩
      replace hr := copyH_call hr b1
      clear b1 c0 c1 c2 c3
      obtain ⟨⟨d0, d1, d2, d3⟩, d4, d5, d6, d7⟩ := copyH_here hr hlt
      go_wp2
      go_roundw
      case rel => exact ⟨k + 1, by omega, by go_num, copyH_step hr⟩
      case measure => simp [intOf]; omega
    · have HE := copyH_end hr (by omega)
      go_wp2
      go_ret
      exact ⟨rfl, HE⟩

/-- A hierarchy of the call's own: its ranks in block b1, its arcs in block b2, both new. -/
def HierMade (w : World) (zs : List Int) (rs : List A4) (e : Ending) (w' : World) : Prop :=
  ∃ b1 b2, e = .returned (.agg #[.slice (some ⟨b1, 0, none⟩) zs.length zs.length, .slice (some ⟨b2, 0, none⟩) rs.length rs.length]) ∧ w.heap.size ≤ b1 ∧ b1 < b2 ∧ w'.rowIs b1 3 zs.length (fun j => .int .i64 (zg zs j)) ∧ HsRow w' b2 rs ∧ Below w.heap.size w w'


set_option maxHeartbeats 800000 in
theorem toHier_any (A B : Option Addr) (ca cb : Nat) (zs : List Int) (rs : List A4) (w : World) (hn : zs.length ≤ 1048576) (hm : rs.length ≤ 1048576) (ha : IsInts w A zs) (hb : IsHs w B rs) :
    Calls Try.prog 10 #[.agg #[.slice A zs.length ca, .slice B rs.length cb]] w (HierMade w zs rs) := by
  obtain ⟨W, hW⟩ : ∃ W, W = ((w.alloc (.cells #[.slice A zs.length ca, .slice B rs.length cb] 25)).alloc (.cells #[.slice none 0 0, .slice none 0 0] 30)).alloc (.cells #[.slice none 0 0, .slice none 0 0] 30) := ⟨_, rfl⟩
  have X : Pair W w.heap.size 25 (.slice A zs.length ca) (.slice B rs.length cb) := by rw [hW]; exact ((Pair.new w _ _ _).alloc _).alloc _
  have R : Pair W (w.heap.size + 1) 30 (.slice none 0 0) (.slice none 0 0) := by rw [hW]; have := (Pair.new (w.alloc (.cells #[.slice A zs.length ca, .slice B rs.length cb] 25)) 30 (.slice none 0 0) (.slice none 0 0)).alloc (.cells #[.slice none 0 0, .slice none 0 0] 30); simpa using this
  have O : Pair W (w.heap.size + 2) 30 (.slice none 0 0) (.slice none 0 0) := by rw [hW]; have := Pair.new ((w.alloc (.cells #[.slice A zs.length ca, .slice B rs.length cb] 25)).alloc (.cells #[.slice none 0 0, .slice none 0 0] 30)) 30 (.slice none 0 0) (.slice none 0 0); simpa using this
  have K : Below w.heap.size w W := by rw [hW]; exact below3 _ _ _ _
  have HW := Lib.hid hW
  clear hW
  go_enter Try.func10, Try.ntmps10
  go_wp2_with fail
  rw [← HW.out]
  refine (toIntS_any A ca zs W hn (ha.below K)).mono ?_; rintro e w1 ⟨rfl, P1, b1⟩
  have hz := O.lt
  replace X := X.below b1
  replace R := R.below b1
  replace O := O.below b1
  replace K := K.trans (b1.mono K.size)
  clear b1 ha HW
  obtain ⟨x0, x1, -, -⟩ := X.cells
  obtain ⟨o0, o1, o2, o3⟩ := O.cells
  replace P1 := rowIs_far P1 (c := w.heap.size + 2) (by omega) 0 (.slice (some ⟨W.heap.size, 0, none⟩) zs.length zs.length)
  replace X := X.far (c := w.heap.size + 2) (by omega) 0 (.slice (some ⟨W.heap.size, 0, none⟩) zs.length zs.length)
  replace R := R.far (c := w.heap.size + 2) (by omega) 0 (.slice (some ⟨W.heap.size, 0, none⟩) zs.length zs.length)
  replace O := O.set0 (.slice (some ⟨W.heap.size, 0, none⟩) zs.length zs.length)
  replace K : Below w.heap.size w (w1.setCell ⟨w.heap.size + 2, 0, none⟩ (.slice (some ⟨W.heap.size, 0, none⟩) zs.length zs.length)) := K.setCell (by simp) _
  go_wp2_with fail
  clear x0 x1 o0 o1 o2 o3
  refine (toHArcS_any B cb rs _ hm (hb.below K)).mono ?_; rintro e w2 ⟨rfl, P2, b2⟩
  have hz2 := World.rowIs.lt P1
  replace P1 := rowIs_below P1 b2
  replace X := X.below b2
  replace R := R.below b2
  replace O := O.below b2
  replace K := K.trans (b2.mono K.size)
  clear b2 hb
  obtain ⟨B2, hB2⟩ : ∃ B2, B2 = (w1.setCell ⟨w.heap.size + 2, 0, none⟩ (.slice (some ⟨W.heap.size, 0, none⟩) zs.length zs.length)).heap.size := ⟨_, rfl⟩
  rw [← hB2] at P2 hz2 ⊢
  clear hB2
  obtain ⟨r0, r1, r2, r3⟩ := R.cells
  obtain ⟨o0, o1, o2, o3⟩ := O.cells
  go_wp2
  refine bodyPost_ret (v := .agg #[.slice (some ⟨W.heap.size, 0, none⟩) zs.length zs.length, .slice (some ⟨B2, 0, none⟩) rs.length rs.length]) (by simp [results, Try.results10, go_sem, r0, r1]) rfl ⟨W.heap.size, B2, rfl, by omega, hz2, ?_, ?_, ?_⟩
  · exact rowIs_far (rowIs_far (rowIs_far P1 (by omega) _ _) (by omega) _ _) (by omega) _ _
  · exact rowIs_far (rowIs_far (rowIs_far P2 (by omega) _ _) (by omega) _ _) (by omega) _ _
  · exact ((K.setCell (by first | (simp; omega) | simp) _).setCell (by first | (simp; omega) | simp) _).setCell (by first | (simp; omega) | simp) _


theorem szIntS_anyH (A : Option Addr) (n cap : Nat) (l : Int) (hn : n ≤ maxLen) (h0 : 0 ≤ l) (h1 : l ≤ 1048576) (w : World) :
    Calls Try.prog 32 #[.slice A n cap, .int .i64 l] w fun e w' => e = .returned (.int .i64 (szn l n)) ∧ w = w' := by
  unfold maxLen at hn
  by_cases h : l < n
  · have H := Lib.hid (szn_no h)
    go_enter Try.func32, Try.ntmps32
    go_wp2
    go_ret
    exact ⟨retI H.out.symm, rfl⟩
  · have H := Lib.hid (szn_yes h)
    go_enter Try.func32, Try.ntmps32
    go_wp2
    go_ret
    exact ⟨retI H.out.symm, rfl⟩


theorem szHArcS_any (A : Option Addr) (n cap : Nat) (l : Int) (hn : n ≤ maxLen) (h0 : 0 ≤ l) (h1 : l ≤ 1048576) (w : World) :
    Calls Try.prog 33 #[.slice A n cap, .int .i64 l] w fun e w' => e = .returned (.int .i64 (szn l n)) ∧ w = w' := by
  unfold maxLen at hn
  by_cases h : l < n
  · have H := Lib.hid (szn_no h)
    go_enter Try.func33, Try.ntmps33
    go_wp2
    go_ret
    exact ⟨retI H.out.symm, rfl⟩
  · have H := Lib.hid (szn_yes h)
    go_enter Try.func33, Try.ntmps33
    go_wp2
    go_ret
    exact ⟨retI H.out.symm, rfl⟩

theorem szHier_no (A B : Option Addr) (n m ca cb : Nat) (hn : n ≤ maxLen) (hm : m ≤ maxLen) (h : 1048576 < n + m) (w : World) :
    Calls Try.prog 8 #[.agg #[.slice A n ca, .slice B m cb], .int .i64 1048576] w fun e w' => e = .returned (.int .i64 (-1)) ∧ Below w.heap.size w w' := by
  by_cases hx : 1048576 < n
  · have H := Lib.hid (szn_no (show (1048576 : Int) < n by omega))
    go_enter Try.func8, Try.ntmps8
    go_wp2_with fail
    refine (szIntS_anyH A n ca 1048576 hn (by omega) (by omega) _).mono ?_; rintro e w' ⟨rfl, rfl⟩
    rw [H.out]
    go_wp2
    go_ret
    exact ⟨rfl, below1 _ _⟩
  · have H := Lib.hid (szn_yes (show ¬ (1048576 : Int) < n by omega))
    have H2 := Lib.hid (szn_no (show (1048576 : Int) - n < m by omega))
    have hd : ¬ ((1048576 : Int) - n < 0) := by omega
    go_enter Try.func8, Try.ntmps8
    go_wp2_with fail
    refine (szIntS_anyH A n ca 1048576 hn (by omega) (by omega) _).mono ?_; rintro e w' ⟨rfl, rfl⟩
    rw [H.out]
    go_wp2_with fail
    refine (szHArcS_any B m cb _ hm (by omega) (by omega) _).mono ?_; rintro e w' ⟨rfl, rfl⟩
    rw [H2.out]
    go_wp2
    go_ret
    exact ⟨rfl, below1 _ _⟩

theorem szHier_yes (A B : Option Addr) (n m ca cb : Nat) (h : n + m ≤ 1048576) (w : World) :
    Calls Try.prog 8 #[.agg #[.slice A n ca, .slice B m cb], .int .i64 1048576] w fun e w' => e = .returned (.int .i64 (1048576 - n - m)) ∧ Below w.heap.size w w' := by
  have H := Lib.hid (szn_yes (show ¬ (1048576 : Int) < n by omega))
  have H2 := Lib.hid (szn_yes (show ¬ (1048576 : Int) - n < m by omega))
  have hd : ¬ ((1048576 : Int) - n < 0) := by omega
  go_enter Try.func8, Try.ntmps8
  go_wp2_with fail
  refine (szIntS_anyH A n ca 1048576 (by unfold maxLen; omega) (by omega) (by omega) _).mono ?_; rintro e w' ⟨rfl, rfl⟩
  rw [H.out]
  go_wp2_with fail
  refine (szHArcS_any B m cb _ (by unfold maxLen; omega) (by omega) (by omega) _).mono ?_; rintro e w' ⟨rfl, rfl⟩
  rw [H2.out]
  go_wp2
  go_ret
  exact ⟨rfl, below1 _ _⟩


theorem eqHArc_same (x y z v : Int) (w : World) : Calls Try.prog 61 #[.agg #[.int .i64 x, .int .i64 y, .int .i64 z, .int .i64 v], .agg #[.int .i64 x, .int .i64 y, .int .i64 z, .int .i64 v]] w fun e w' => e = .returned (.bool true) ∧ Below w.heap.size w w' := by
  go_enter Try.func61, Try.ntmps61
  go_wp2
  go_ret
  exact ⟨rfl, below2 _ _ _⟩

theorem cellU {w w' : World} (hb : Below w.heap.size w w') {b i : Nat} {v : Value} (h : w.cell? ⟨b, i, none⟩ = some v) : w'.cell? ⟨b, i, none⟩ = some v :=
  (hb.cell (p := ⟨b, i, none⟩) (by simpa using World.block_lt_of_cell? w _ h)).trans h
abbrev EqH (w : World) (b1 o1 b2 o2 : Nat) (x y z v : Int) (w' : World) : Prop :=
  w'.cell? ⟨b1, o1, none⟩ = some (.int .i64 x) ∧ w'.cell? ⟨b1, o1 + 1, none⟩ = some (.int .i64 y) ∧ w'.cell? ⟨b1, o1 + 2, none⟩ = some (.int .i64 z) ∧ w'.cell? ⟨b1, o1 + 3, none⟩ = some (.int .i64 v) ∧ w'.cell? ⟨b2, o2, none⟩ = some (.int .i64 x) ∧ w'.cell? ⟨b2, o2 + 1, none⟩ = some (.int .i64 y) ∧ w'.cell? ⟨b2, o2 + 2, none⟩ = some (.int .i64 z) ∧ w'.cell? ⟨b2, o2 + 3, none⟩ = some (.int .i64 v) ∧ Below w.heap.size w w'
theorem EqH.under {w w1 w2 : World} {b1 o1 b2 o2 : Nat} {x y z v : Int} (hb : Below w1.heap.size w1 w2) (h : EqH w b1 o1 b2 o2 x y z v w1) : EqH w b1 o1 b2 o2 x y z v w2 := by
  obtain ⟨h0, h1, h2, h3, g0, g1, g2, g3, h5⟩ := h
  exact ⟨cellU hb h0, cellU hb h1, cellU hb h2, cellU hb h3, cellU hb g0, cellU hb g1, cellU hb g2, cellU hb g3, h5.trans (hb.mono h5.size)⟩
theorem EqH.drew {w w1 : World} {b1 o1 b2 o2 : Nat} {x y z v : Int} (h : EqH w b1 o1 b2 o2 x y z v w1) : EqH w b1 o1 b2 o2 x y z v w1.drew := by
  obtain ⟨h0, h1, h2, h3, g0, g1, g2, g3, h5⟩ := h
  exact ⟨h0, h1, h2, h3, g0, g1, g2, g3, h5.drew⟩

set_option maxHeartbeats 1000000 in
theorem eqHArcS_same (A B : Option Addr) (ca cb : Nat) (rs : List A4) (w : World) (hn : rs.length ≤ 1048576) (ha : IsHs w A rs) (hb : IsHs w B rs) :
    Calls Try.prog 40 #[.slice A rs.length ca, .slice B rs.length cb] w fun e w' => e = .returned (.bool true) ∧ Below w.heap.size w w' := by
  go_enter Try.func40, Try.ntmps40
  go_wp2
  go_loopw [5] (fun i wr => ∃ k : Nat, k ≤ rs.length ∧ i = .int .i64 k ∧ Below w.heap.size w wr) (fun i _ => rs.length - (intOf i).toNat)
  case atStart => exact ⟨0, by omega, rfl, Below.refl _ _⟩
  case round =>
    obtain ⟨k, hk, rfl, hr⟩ := hrel
    by_cases hlt : k < rs.length
    · obtain ⟨b1, o1, rfl, -, c1, c2, c3, c4⟩ := (ha.below hr).at_ hlt
      obtain ⟨b2, o2, rfl, -, c5, c6, c7, c8⟩ := (hb.below hr).at_ hlt
      have T : EqH w b1 (o1 + k * 4) b2 (o2 + k * 4) (hcg rs k).1 (hcg rs k).2.1 (hcg rs k).2.2.1 (hcg rs k).2.2.2 _ := ⟨c1, c2, c3, c4, c5, c6, c7, c8, hr⟩
      clear c1 c2 c3 c4 c5 c6 c7 c8
      go_wp2_with fail
      go_region_held3 (fun w' => EqH w b1 (o1 + k * 4) b2 (o2 + k * 4) (hcg rs k).1 (hcg rs k).2.1 (hcg rs k).2.2.1 (hcg rs k).2.2.2 w') (first | exact EqH.drew T | (refine EqH.under (by assumption) ?_; assumption))
        (first | (go_at_call 61; refine (eqHArc_same _ _ _ _ _).mono ?_; rintro e w1 ⟨rfl, b1⟩))
      rename_i hU
      obtain ⟨-, -, -, -, -, -, -, -, k1⟩ := hU
      go_wp2
      go_roundw
      case rel => exact ⟨k + 1, by omega, by go_num, k1⟩
      case measure => simp [intOf]; omega
    · go_wp2
      go_ret
      exact ⟨rfl, hr⟩
theorem eqIntS_bel4 (A B : Option Addr) (ca cb : Nat) (zs : List Int) (w : World) (hn : zs.length ≤ 1048576) (ha : IsInts w A zs) (hb : IsInts w B zs) :
    Calls Try.prog 15 #[.slice A zs.length ca, .slice B zs.length cb] w fun e w' => e = .returned (.bool true) ∧ Below w.heap.size w w' :=
  (eqIntS_same A B ca cb zs w hn ha hb).mono fun e w' ⟨h, n, hw⟩ => ⟨h, by rw [hw]; exact below_drewN (Below.refl _ _) n⟩

theorem eqHier_same (A B C D : Option Addr) (ca cb cc cd : Nat) (zs : List Int) (rs : List A4) (w : World) (hn : zs.length ≤ 1048576) (hm : rs.length ≤ 1048576)
    (ha : IsInts w A zs) (hb : IsHs w B rs) (hc : IsInts w C zs) (hd : IsHs w D rs) :
    Calls Try.prog 12 #[.agg #[.slice A zs.length ca, .slice B rs.length cb], .agg #[.slice C zs.length cc, .slice D rs.length cd]] w fun e w' => e = .returned (.bool true) ∧ Below w.heap.size w w' := by
  have k0 := below2 w (.cells #[.slice A zs.length ca, .slice B rs.length cb] 30) (.cells #[.slice C zs.length cc, .slice D rs.length cd] 30)
  have X := (Pair.new w 30 (.slice A zs.length ca) (.slice B rs.length cb)).alloc (.cells #[.slice C zs.length cc, .slice D rs.length cd] 30)
  have Y : Pair ((w.alloc (.cells #[.slice A zs.length ca, .slice B rs.length cb] 30)).alloc (.cells #[.slice C zs.length cc, .slice D rs.length cd] 30)) (w.heap.size + 1) 30 (.slice C zs.length cc) (.slice D rs.length cd) := by
    have := Pair.new (w.alloc (.cells #[.slice A zs.length ca, .slice B rs.length cb] 30)) 30 (.slice C zs.length cc) (.slice D rs.length cd); simpa using this
  go_enter Try.func12, Try.ntmps12
  go_wp2_with fail
  refine (eqIntS_bel4 A C ca cc zs _ hn (ha.below k0) (hc.below k0)).mono ?_; rintro e w1 ⟨rfl, b1⟩
  replace X := X.below b1
  replace Y := Y.below b1
  have k1 := k0.trans (b1.mono k0.size)
  clear b1
  obtain ⟨x0, x1, -, -⟩ := X.cells
  obtain ⟨y0, y1, -, -⟩ := Y.cells
  go_wp2_with fail
  refine (eqHArcS_same B D cb cd rs _ hm (hb.below k1) (hd.below k1)).mono ?_; rintro e w2 ⟨rfl, b2⟩
  have k2 := k1.trans (b2.mono k1.size)
  go_wp2
  go_ret
  exact ⟨rfl, k2⟩

theorem HsRow.own {w : World} {b : Nat} {rs : List A4} (h : HsRow w b rs) : OwnAt w b 57 0 (rs.length * 4) (flatH rs) := by
  obtain ⟨c, h1, h2, h3⟩ := h
  exact ⟨c, h1, by omega, fun i hi => by rw [Nat.zero_add]; exact h3 i hi⟩

set_option maxHeartbeats 1000000 in
theorem markHArcS_any (w : World) (base : Nat) (A : Option Addr) (n cap : Nat) (f : Nat → Int) (k : Int) (hn : n ≤ 1048576) (hk : 0 ≤ k ∧ k ≤ 100000000) (h : OwnSl w base 57 A (n * 4) f) :
    Calls Try.prog 46 #[.slice A n cap, .int .i64 k] w (Marked w base 57 A (n * 4) k) := by
  rcases Nat.eq_zero_or_pos n with rfl | hp
  · go_enter Try.func46, Try.ntmps46
    go_wp2
    refine wp_loop_rounds 1 ?_; rw [rounds_succ]
    go_wp2
    go_ret
    exact ⟨by simp, fun h => by omega, World.grownBy.refl w _, rfl⟩
  · obtain ⟨g, off, rfl, hb, ho⟩ := h (by omega)
    have R0 := MarkRel.start (k := k) ho
    go_enter Try.func46, Try.ntmps46
    go_wp2
    go_loopw [1, 5] (fun q i wr => ∃ m : Nat, m ≤ n ∧ i = .int .i64 m ∧ q = .int .i64 (k + (m * 4 : Nat)) ∧ MarkRel w wr g 57 off (n * 4) f k (m * 4)) (fun _ i _ => n - (intOf i).toNat)
    case atStart => exact ⟨0, by omega, rfl, by simp, by simpa using R0⟩
    case round =>
      clear R0
      obtain ⟨m, hm, rfl, rfl, hr⟩ := hrel
      by_cases hlt : m < n
      · have R := hr.step.step.step.step
        rw [show k + ((m * 4 + 1 : Nat) : Int) = k + ((m * 4 : Nat) : Int) + 1 by omega] at R
        rw [show k + ((m * 4 + 2 : Nat) : Int) = k + ((m * 4 : Nat) : Int) + 1 + 1 by omega] at R
        have c0 := hr.1.cell (i := m * 4) (by omega)
        have d0 := hr.1.frozen (off + (m * 4))
        obtain ⟨y0, hy0⟩ : ∃ y : Int, wr.cell? ⟨g, off + (m * 4), none⟩ = some (.int .i64 y) := ⟨_, c0⟩
        clear c0
        have c1 := hr.1.cell (i := m * 4 + 1) (by omega)
        have d1 := hr.1.frozen (off + (m * 4 + 1))
        obtain ⟨y1, hy1⟩ : ∃ y : Int, wr.cell? ⟨g, off + (m * 4 + 1), none⟩ = some (.int .i64 y) := ⟨_, c1⟩
        clear c1
        have c2 := hr.1.cell (i := m * 4 + 2) (by omega)
        have d2 := hr.1.frozen (off + (m * 4 + 2))
        obtain ⟨y2, hy2⟩ : ∃ y : Int, wr.cell? ⟨g, off + (m * 4 + 2), none⟩ = some (.int .i64 y) := ⟨_, c2⟩
        clear c2
        rw [show off + (m * 4 + 1) = off + m * 4 + 1 from rfl] at hy1 d1
        rw [show off + (m * 4 + 2) = off + m * 4 + 2 from rfl] at hy2 d2
        rw [show k + ((m * 4 + 3 : Nat) : Int) = k + ((m * 4 : Nat) : Int) + 1 + 1 + 1 by omega] at R
        have c3 := hr.1.cell (i := m * 4 + 3) (by omega)
        have d3 := hr.1.frozen (off + (m * 4 + 3))
        obtain ⟨y3, hy3⟩ : ∃ y : Int, wr.cell? ⟨g, off + (m * 4 + 3), none⟩ = some (.int .i64 y) := ⟨_, c3⟩
        clear c3
        rw [show off + (m * 4 + 3) = off + m * 4 + 3 from rfl] at hy3 d3
        have hb1 : 0 ≤ k + ((m * 4 : Nat) : Int) := by omega
        have hb2 : k + ((m * 4 : Nat) : Int) ≤ 200000000 := by omega
        go_wp2
        go_roundw
        case rel => exact ⟨m + 1, by omega, by go_num, congrArg (Value.int .i64) (by omega), by rw [show (m + 1) * 4 = m * 4 + 4 by omega]; exact R⟩
        case measure => simp [intOf]; omega
      · obtain rfl : m = n := by omega
        go_wp2
        go_ret
        exact hr.done hb (by omega)


set_option maxHeartbeats 1000000 in
theorem markHier_any (w : World) (base : Nat) (A B : Option Addr) (n m ca cb : Nat) (f h : Nat → Int) (k : Int) (hn : n ≤ 1048576) (hm : m ≤ 1048576) (hk : 0 ≤ k ∧ k ≤ 1000000) (ha : OwnSl w base 3 A n f) (hb : OwnSl w base 57 B (m * 4) h)
    (hp : Parted A B n (m * 4)) :
    Calls Try.prog 16 #[.agg #[.slice A n ca, .slice B m cb], .int .i64 k] w fun e w' => e = .returned (.int .i64 (k + (n : Nat) + (m * 4 : Nat))) ∧ OwnSl w' base 3 A n (fun j => k + j) ∧ OwnSl w' base 57 B (m * 4) (fun j => k + (n : Nat) + j) ∧
      OnlyTwo w w' (blk A n) (blk B (m * 4)) := by
  have X := Pair.new w 30 (.slice A n ca) (.slice B m cb)
  have k0 := below1 w (.cells #[.slice A n ca, .slice B m cb] 30)
  have hA := fun g e => blk_own ha (g := g) e
  have hB := fun g e => blk_own hb (g := g) e
  have HA := Lib.hid hA
  have HB := Lib.hid hB
  clear hA hB
  go_enter Try.func16, Try.ntmps16
  go_wp2_with fail
  refine (markIntS_any _ base A n ca f k hn (by omega) (ha.below k0)).mono ?_
  rintro e w1 ⟨rfl, o1, g1, z1⟩
  replace hb := (hb.below k0).of_block (fun g e hg => g1.block g hg (fun e' => hp g e'.symm e))
  replace X := X.grown' g1 (fun g e => by have := (HA.out g e).2; omega)
  have g1' := g1
  have Z1 := Lib.hid z1
  have hz1 : w.heap.size < w1.heap.size := by rw [Z1.out]; simp
  clear z1 g1'
  obtain ⟨x0, x1, -, -⟩ := X.cells
  have hb1 : 0 ≤ k + ((n : Nat) : Int) := by omega
  have hb2 : k + ((n : Nat) : Int) ≤ 10000000 := by omega
  go_wp2_with fail
  clear x0 x1
  refine (markHArcS_any _ base B m cb h _ hm (by omega) hb).mono ?_
  rintro e w2 ⟨rfl, o2, g2, z2⟩
  have Z2 := Lib.hid z2
  clear z2
  replace o1 := o1.of_block (fun g e hg => g2.block g hg (fun e' => hp g e e'.symm))
  have G : OnlyTwo w w2 (blk A n) (blk B (m * 4)) :=
    ⟨g2.os.trans (g1.os.trans k0.os), g2.tape.trans (g1.tape.trans k0.tape), g2.output.trans (g1.output.trans k0.output), by have := g2.size; omega,
      fun q hq e1 e2 => (g2.block q (by omega) e2).trans ((g1.block q (by simp; omega) e1).trans (k0.block q hq))⟩
  go_wp2
  go_ret
  exact ⟨rfl, o1, o2, G⟩


section
variable {H : Type} {enc : TypeId × Value → H} {w : World} {b0 base : Nat} {spare : Nat → Bool} {held : Bool} {r : Reach}
theorem opens_hs {fuel : Nat} {v : Value} {x : DataW H × List MemPlace} (h : DataW.trod enc Try.prog w base spare held fuel 23 [v] = some x) :
    ∃ (A : Option Addr) (cap : Nat) (rs : List A4), v = .slice A rs.length cap ∧ rs.length ≤ cap ∧ cap ≤ maxLen ∧ IsHs w A rs ∧ ∀ p ∈ rs, In64 p.1 ∧ In64 p.2.1 ∧ In64 p.2.2.1 ∧ In64 p.2.2.2 := by
  obtain ⟨A, len, cap, rfl, hl, hm, hr⟩ := trod_rows (k := 4) Try.underlying23 Try.underlying85 Try.underlying3 (by kernel_rfl) (by kernel_rfl) (by omega) (fun i hi => by match i, hi with | 0, _ => exact ⟨_, rfl, rfl, rfl⟩ | 1, _ => exact ⟨_, rfl, rfl, rfl⟩ | 2, _ => exact ⟨_, rfl, rfl, rfl⟩ | 3, _ => exact ⟨_, rfl, rfl, rfl⟩) h
  rcases Nat.eq_zero_or_pos len with rfl | hp
  · exact ⟨A, cap, [], rfl, Nat.zero_le _, hm, fun h => by simp at h, by simp⟩
  · obtain ⟨b, off, rfl, hb, hc⟩ := hr hp
    refine ⟨_, cap, (List.range len).map fun i => (intAt w ⟨b, off + i * 4, none⟩, intAt w ⟨b, off + i * 4 + 1, none⟩, intAt w ⟨b, off + i * 4 + 2, none⟩, intAt w ⟨b, off + i * 4 + 3, none⟩), by simp, by simpa using hl, hm, fun _ => ⟨b, off, rfl, hb, fun i hi => ?_⟩, fun p hp' => ?_⟩
    · have hi' : i < len := by simpa using hi
      have e : hcg ((List.range len).map fun i => (intAt w ⟨b, off + i * 4, none⟩, intAt w ⟨b, off + i * 4 + 1, none⟩, intAt w ⟨b, off + i * 4 + 2, none⟩, intAt w ⟨b, off + i * 4 + 3, none⟩)) i = (intAt w ⟨b, off + i * 4, none⟩, intAt w ⟨b, off + i * 4 + 1, none⟩, intAt w ⟨b, off + i * 4 + 2, none⟩, intAt w ⟨b, off + i * 4 + 3, none⟩) := by simp [hcg, hi']
      rw [e]
      obtain ⟨z0, h0, -⟩ := hc i 0 hi' (by omega)
      obtain ⟨z1, h1, -⟩ := hc i 1 hi' (by omega)
      obtain ⟨z2, h2, -⟩ := hc i 2 hi' (by omega)
      obtain ⟨z3, h3, -⟩ := hc i 3 hi' (by omega)
      rw [Nat.add_zero] at h0
      exact ⟨by rw [intAt_of h0]; exact h0, by rw [intAt_of h1]; exact h1, by rw [intAt_of h2]; exact h2, by rw [intAt_of h3]; exact h3⟩
    · obtain ⟨i, hi, rfl⟩ := List.mem_map.1 hp'
      have hi' : i < len := List.mem_range.1 hi
      obtain ⟨z0, h0, g0⟩ := hc i 0 hi' (by omega)
      obtain ⟨z1, h1, g1⟩ := hc i 1 hi' (by omega)
      obtain ⟨z2, h2, g2⟩ := hc i 2 hi' (by omega)
      obtain ⟨z3, h3, g3⟩ := hc i 3 hi' (by omega)
      have e0 : intAt w ⟨b, off + i * 4, none⟩ = z0 := intAt_of h0
      exact ⟨by show In64 (intAt w ⟨b, off + i * 4, none⟩); rw [e0]; exact g0, by show In64 (intAt w ⟨b, off + i * 4 + 1, none⟩); rw [intAt_of h1]; exact g1, by show In64 (intAt w ⟨b, off + i * 4 + 2, none⟩); rw [intAt_of h2]; exact g2, by show In64 (intAt w ⟨b, off + i * 4 + 3, none⟩); rw [intAt_of h3]; exact g3⟩
theorem opens_intsH {fuel : Nat} {v : Value} {x : DataW H × List MemPlace} (h : DataW.trod enc Try.prog w base (fun _ => true) true fuel 22 [v] = some x) :
    ∃ (A : Option Addr) (cap : Nat) (zs : List Int), v = .slice A zs.length cap ∧ zs.length ≤ cap ∧ cap ≤ maxLen ∧ IsInts w A zs := by
  rcases open_ints Try.underlying22 Try.underlying3 (by kernel_rfl) h with ⟨hcs, _⟩ | ⟨x, l, c, zs, hcs, _, hl, hm, hz, _, hcell, hwz⟩
  · injection hcs with hcs
    exact ⟨none, 0, [], hcs, Nat.zero_le _, Nat.zero_le _, fun hp => by simp at hp⟩
  · injection hcs with hcs
    subst hcs
    obtain ⟨ys, rfl, h1, h2, -⟩ := isInts_of (w := w) (a := some x) (len := l) (cap := c) (zs := zs) (.inr ⟨_, rfl, hl, hm, by simpa using hz, hcell, hwz⟩)
    exact ⟨_, _, ys, rfl, h1, hm, h2⟩
end
/-- A hierarchy that came in: what a law is told of it. -/
def HierIn (w : World) (A B : Option Addr) (ca cb : Nat) (zs : List Int) (rs : List A4) : Prop :=
  (zs.length ≤ ca ∧ ca ≤ maxLen ∧ rs.length ≤ cb ∧ cb ≤ maxLen) ∧ IsInts w A zs ∧ IsHs w B rs ∧ ∀ p ∈ rs, In64 p.1 ∧ In64 p.2.1 ∧ In64 p.2.2.1 ∧ In64 p.2.2.2
section
variable {H : Type} {enc : TypeId × Value → H} {w : World} {b0 base : Nat} {spare : Nat → Bool} {held : Bool} {r : Reach}
set_option maxRecDepth 100000 in
theorem opens_hier {v : Value} {d : DataW H} {p : List MemPlace} (hv : Value.okWide Try.prog w r b0 25 v) (h : DataW.Trod enc Try.prog w base (fun _ => true) true 25 v d p) :
    ∃ (A B : Option Addr) (ca cb : Nat) (zs : List Int) (rs : List A4), v = .agg #[.slice A zs.length ca, .slice B rs.length cb] ∧ HierIn w A B ca cb zs rs := by
  obtain ⟨v0, v1, y0, y1, n, rfl, -, -, h0, h1⟩ := open_agg2 Try.underlying25 (by kernel_rfl) (by kernel_rfl) hv h
  obtain ⟨A, ca, zs, rfl, g1, g2, g3⟩ := opens_intsH h0
  obtain ⟨B, cb, rs, rfl, k1, k2, k3, k4⟩ := opens_hs h1
  exact ⟨A, B, ca, cb, zs, rs, rfl, ⟨g1, g2, k1, k2⟩, g3, k3, k4⟩
end

end Go.Proofs.Ytagaildnfbegkab
