/-
  What laws.toNet, szNet and eqNet compute; how a network that came in reads.
-/
import Derived.Test.YtagaildnfbegkaaNetMem
import Derived.Deep.RegionHeld3
namespace Go.Proofs.Ytagaildnfbegkaa
open Go.RowKit Go.Deep Go.ChangeShapes Go.WideShapes Go.Joins

set_option maxHeartbeats 400000 in
theorem toArcS_any (A : Option Addr) (cap : Nat) (rs : List (Int × Int × Int)) (w : World) (hn : rs.length ≤ 1048576) (h : IsArcs w A rs) :
    Calls Try.prog 48 #[.slice A rs.length cap] w fun e w' => e = .returned (.slice (some ⟨w.heap.size, 0, none⟩) rs.length rs.length) ∧ ArcsRow w' w.heap.size rs ∧ Below w.heap.size w w' := by
  have hmk := run_make_arcs rs.length hn
  go_enter Try.func48, Try.ntmps48
  go_wp2
  go_loopw [4] (fun i wr => ∃ k : Nat, k ≤ rs.length ∧ i = .int .i64 k ∧ CopyA w wr rs k) (fun i _ => rs.length - (intOf i).toNat)
  case atStart => exact ⟨0, by omega, rfl, copyA_start w rs⟩
  case round =>
    obtain ⟨k, hk, rfl, hr⟩ := hrel
    by_cases hlt : k < rs.length
    · obtain ⟨b, off, rfl, hb, hck⟩ := (h.below hr.2).at_ hlt
      obtain ⟨c0, c1, c2⟩ := hck
      clear hmk
      go_wp2_with fail
      refine (toArc_any _ _ _ _).mono ?_; rintro e w1 ⟨rfl, b1⟩
      replace hr := copyA_call hr b1
      clear b1 c0 c1 c2
      obtain ⟨⟨d0, d1, d2⟩, d3, d4, d5⟩ := copyA_here hr hlt
      go_wp2
      go_roundw
      case rel => exact ⟨k + 1, by omega, by go_num, copyA_step hr⟩
      case measure => simp [intOf]; omega
    · have HE := copyA_end hr (by omega)
      go_wp2
      go_ret
      exact ⟨rfl, HE⟩

/-- Block b holds the two cells u and v, and is known whole. -/
def Pair (w : World) (b : Nat) (t : TypeId) (u v : Value) : Prop := w.heap[b]? = some (.cells #[u, v] t (0, 0))
section
variable {w w' : World} {b c : Nat} {t : TypeId} {u v : Value}
theorem Pair.lt (h : Pair w b t u v) : b < w.heap.size := (Array.getElem?_eq_some_iff.1 h).1
theorem Pair.new (w : World) (t : TypeId) (u v : Value) : Pair (w.alloc (.cells #[u, v] t)) w.heap.size t u v := heap_alloc_new w _
theorem Pair.alloc (h : Pair w b t u v) (o : Obj) : Pair (w.alloc o) b t u v := (Below.heap_alloc w o b h.lt).trans h
theorem Pair.below (h : Pair w b t u v) (hb : Below w.heap.size w w') : Pair w' b t u v := (hb.block b h.lt).trans h
theorem Pair.cells (h : Pair w b t u v) : w.cell? ⟨b, 0, none⟩ = some u ∧ w.cell? ⟨b, 1, none⟩ = some v ∧ w.frozen? ⟨b, 0, none⟩ = false ∧ w.frozen? ⟨b, 1, none⟩ = false :=
  ⟨by rw [cell_of_block h]; rfl, by rw [cell_of_block h]; rfl, frozen_of_block h, frozen_of_block h⟩
theorem Pair.set0 (h : Pair w b t u v) (x : Value) : Pair (w.setCell ⟨b, 0, none⟩ x) b t x v := block_set x h
theorem Pair.set1 (h : Pair w b t u v) (x : Value) : Pair (w.setCell ⟨b, 1, none⟩ x) b t u x := block_set x h
theorem Pair.far (h : Pair w b t u v) (hc : b ≠ c) (i : Nat) (x : Value) : Pair (w.setCell ⟨c, i, none⟩ x) b t u v := (Below.heap_setCell w ⟨c, i, none⟩ x b hc).trans h
end
theorem rowIs_far {w : World} {b c : Nat} {t : TypeId} {n : Nat} {f : Nat → Value} (h : w.rowIs b t n f) (hc : b ≠ c) (i : Nat) (x : Value) : (w.setCell ⟨c, i, none⟩ x).rowIs b t n f := World.rowIs.setOther h (by simpa using hc) x

/-- A network of the call's own: its nodes in block b1, its arcs in block b2, both new. -/
def NetMade (w : World) (ps : List (Int × Int)) (rs : List (Int × Int × Int)) (e : Ending) (w' : World) : Prop :=
  ∃ b1 b2, e = .returned (.agg #[.slice (some ⟨b1, 0, none⟩) ps.length ps.length, .slice (some ⟨b2, 0, none⟩) rs.length rs.length]) ∧ w.heap.size ≤ b1 ∧ b1 < b2 ∧ PtsRow w' b1 ps ∧ ArcsRow w' b2 rs ∧ Below w.heap.size w w'

set_option maxHeartbeats 400000 in
theorem toNet_any (A B : Option Addr) (ca cb : Nat) (ps : List (Int × Int)) (rs : List (Int × Int × Int)) (w : World) (hn : ps.length ≤ 1048576) (hm : rs.length ≤ 1048576) (ha : IsPts w A ps) (hb : IsArcs w B rs) :
    Calls Try.prog 16 #[.agg #[.slice A ps.length ca, .slice B rs.length cb]] w (NetMade w ps rs) := by
  obtain ⟨W, hW⟩ : ∃ W, W = ((w.alloc (.cells #[.slice A ps.length ca, .slice B rs.length cb] 39)).alloc (.cells #[.slice none 0 0, .slice none 0 0] 49)).alloc (.cells #[.slice none 0 0, .slice none 0 0] 49) := ⟨_, rfl⟩
  have X : Pair W w.heap.size 39 (.slice A ps.length ca) (.slice B rs.length cb) := by rw [hW]; exact ((Pair.new w _ _ _).alloc _).alloc _
  have R : Pair W (w.heap.size + 1) 49 (.slice none 0 0) (.slice none 0 0) := by rw [hW]; have := (Pair.new (w.alloc (.cells #[.slice A ps.length ca, .slice B rs.length cb] 39)) 49 (.slice none 0 0) (.slice none 0 0)).alloc (.cells #[.slice none 0 0, .slice none 0 0] 49); simpa using this
  have O : Pair W (w.heap.size + 2) 49 (.slice none 0 0) (.slice none 0 0) := by rw [hW]; have := Pair.new ((w.alloc (.cells #[.slice A ps.length ca, .slice B rs.length cb] 39)).alloc (.cells #[.slice none 0 0, .slice none 0 0] 49)) 49 (.slice none 0 0) (.slice none 0 0); simpa using this
  have K : Below w.heap.size w W := by rw [hW]; exact below3 _ _ _ _
  have HW := Lib.hid hW
  clear hW
  go_enter Try.func16, Try.ntmps16
  go_wp2_with fail
  rw [← HW.out]
  refine (toPtS_any A ca ps W hn (ha.below K)).mono ?_; rintro e w1 ⟨rfl, P1, b1⟩
  have hz := O.lt
  replace X := X.below b1
  replace R := R.below b1
  replace O := O.below b1
  replace K := K.trans (b1.mono K.size)
  clear b1 ha HW
  obtain ⟨x0, x1, -, -⟩ := X.cells
  obtain ⟨o0, o1, o2, o3⟩ := O.cells
  replace P1 := rowIs_far P1 (c := w.heap.size + 2) (by omega) 0 (.slice (some ⟨W.heap.size, 0, none⟩) ps.length ps.length)
  replace X := X.far (c := w.heap.size + 2) (by omega) 0 (.slice (some ⟨W.heap.size, 0, none⟩) ps.length ps.length)
  replace R := R.far (c := w.heap.size + 2) (by omega) 0 (.slice (some ⟨W.heap.size, 0, none⟩) ps.length ps.length)
  replace O := O.set0 (.slice (some ⟨W.heap.size, 0, none⟩) ps.length ps.length)
  replace K : Below w.heap.size w (w1.setCell ⟨w.heap.size + 2, 0, none⟩ (.slice (some ⟨W.heap.size, 0, none⟩) ps.length ps.length)) := K.setCell (by simp) _
  go_wp2_with fail
  clear x0 x1 o0 o1 o2 o3
  refine (toArcS_any B cb rs _ hm (hb.below K)).mono ?_; rintro e w2 ⟨rfl, P2, b2⟩
  have hz2 := World.rowIs.lt P1
  replace P1 := rowIs_below P1 b2
  replace X := X.below b2
  replace R := R.below b2
  replace O := O.below b2
  replace K := K.trans (b2.mono K.size)
  clear b2 hb
  obtain ⟨B2, hB2⟩ : ∃ B2, B2 = (w1.setCell ⟨w.heap.size + 2, 0, none⟩ (.slice (some ⟨W.heap.size, 0, none⟩) ps.length ps.length)).heap.size := ⟨_, rfl⟩
  rw [← hB2] at P2 hz2 ⊢
  clear hB2
  obtain ⟨r0, r1, r2, r3⟩ := R.cells
  obtain ⟨o0, o1, o2, o3⟩ := O.cells
  go_wp2
  refine bodyPost_ret (v := .agg #[.slice (some ⟨W.heap.size, 0, none⟩) ps.length ps.length, .slice (some ⟨B2, 0, none⟩) rs.length rs.length]) (by simp [results, Try.results16, go_sem, r0, r1]) rfl ⟨W.heap.size, B2, rfl, by omega, hz2, ?_, ?_, ?_⟩
  · exact rowIs_far (rowIs_far (rowIs_far P1 (by omega) _ _) (by omega) _ _) (by omega) _ _
  · exact rowIs_far (rowIs_far (rowIs_far P2 (by omega) _ _) (by omega) _ _) (by omega) _ _
  · exact ((K.setCell (by first | (simp; omega) | simp) _).setCell (by first | (simp; omega) | simp) _).setCell (by first | (simp; omega) | simp) _

/-- How much room is left behind n elements: -1 where there is none. -/
def szn (l : Int) (n : Nat) : Int := if l < n then -1 else l - n
theorem szn_no {l : Int} {n : Nat} (h : l < n) : szn l n = -1 := if_pos h
theorem szn_yes {l : Int} {n : Nat} (h : ¬ l < n) : szn l n = l - n := if_neg h

theorem szPtS_any (A : Option Addr) (n cap : Nat) (l : Int) (hn : n ≤ maxLen) (h0 : 0 ≤ l) (h1 : l ≤ 1048576) (w : World) :
    Calls Try.prog 37 #[.slice A n cap, .int .i64 l] w fun e w' => e = .returned (.int .i64 (szn l n)) ∧ w = w' := by
  unfold maxLen at hn
  by_cases h : l < n
  · have H := Lib.hid (szn_no h)
    go_enter Try.func37, Try.ntmps37
    go_wp2
    go_ret
    exact ⟨retI H.out.symm, rfl⟩
  · have H := Lib.hid (szn_yes h)
    go_enter Try.func37, Try.ntmps37
    go_wp2
    go_ret
    exact ⟨retI H.out.symm, rfl⟩

theorem szArcS_any (A : Option Addr) (n cap : Nat) (l : Int) (hn : n ≤ maxLen) (h0 : 0 ≤ l) (h1 : l ≤ 1048576) (w : World) :
    Calls Try.prog 38 #[.slice A n cap, .int .i64 l] w fun e w' => e = .returned (.int .i64 (szn l n)) ∧ w = w' := by
  unfold maxLen at hn
  by_cases h : l < n
  · have H := Lib.hid (szn_no h)
    go_enter Try.func38, Try.ntmps38
    go_wp2
    go_ret
    exact ⟨retI H.out.symm, rfl⟩
  · have H := Lib.hid (szn_yes h)
    go_enter Try.func38, Try.ntmps38
    go_wp2
    go_ret
    exact ⟨retI H.out.symm, rfl⟩

theorem szNet_no (A B : Option Addr) (n m ca cb : Nat) (hn : n ≤ maxLen) (hm : m ≤ maxLen) (h : 1048576 < n + m) (w : World) :
    Calls Try.prog 13 #[.agg #[.slice A n ca, .slice B m cb], .int .i64 1048576] w fun e w' => e = .returned (.int .i64 (-1)) ∧ Below w.heap.size w w' := by
  by_cases hx : 1048576 < n
  · have H := Lib.hid (szn_no (show (1048576 : Int) < n by omega))
    go_enter Try.func13, Try.ntmps13
    go_wp2_with fail
    refine (szPtS_any A n ca 1048576 hn (by omega) (by omega) _).mono ?_; rintro e w' ⟨rfl, rfl⟩
    rw [H.out]
    go_wp2
    go_ret
    exact ⟨rfl, below1 _ _⟩
  · have H := Lib.hid (szn_yes (show ¬ (1048576 : Int) < n by omega))
    have H2 := Lib.hid (szn_no (show (1048576 : Int) - n < m by omega))
    have hd : ¬ ((1048576 : Int) - n < 0) := by omega
    go_enter Try.func13, Try.ntmps13
    go_wp2_with fail
    refine (szPtS_any A n ca 1048576 hn (by omega) (by omega) _).mono ?_; rintro e w' ⟨rfl, rfl⟩
    rw [H.out]
    go_wp2_with fail
    refine (szArcS_any B m cb _ hm (by omega) (by omega) _).mono ?_; rintro e w' ⟨rfl, rfl⟩
    rw [H2.out]
    go_wp2
    go_ret
    exact ⟨rfl, below1 _ _⟩

theorem szNet_yes (A B : Option Addr) (n m ca cb : Nat) (h : n + m ≤ 1048576) (w : World) :
    Calls Try.prog 13 #[.agg #[.slice A n ca, .slice B m cb], .int .i64 1048576] w fun e w' => e = .returned (.int .i64 (1048576 - n - m)) ∧ Below w.heap.size w w' := by
  have H := Lib.hid (szn_yes (show ¬ (1048576 : Int) < n by omega))
  have H2 := Lib.hid (szn_yes (show ¬ (1048576 : Int) - n < m by omega))
  have hd : ¬ ((1048576 : Int) - n < 0) := by omega
  go_enter Try.func13, Try.ntmps13
  go_wp2_with fail
  refine (szPtS_any A n ca 1048576 (by unfold maxLen; omega) (by omega) (by omega) _).mono ?_; rintro e w' ⟨rfl, rfl⟩
  rw [H.out]
  go_wp2_with fail
  refine (szArcS_any B m cb _ (by unfold maxLen; omega) (by omega) (by omega) _).mono ?_; rintro e w' ⟨rfl, rfl⟩
  rw [H2.out]
  go_wp2
  go_ret
  exact ⟨rfl, below1 _ _⟩

theorem eqPt_same (x y : Int) (w : World) : Calls Try.prog 88 #[.agg #[.int .i64 x, .int .i64 y], .agg #[.int .i64 x, .int .i64 y]] w fun e w' => e = .returned (.bool true) ∧ Below w.heap.size w w' := by
  go_enter Try.func88, Try.ntmps88
  go_wp2
  go_ret
  exact ⟨rfl, below2 _ _ _⟩
theorem eqArc_same (x y z : Int) (w : World) : Calls Try.prog 89 #[.agg #[.int .i64 x, .int .i64 y, .int .i64 z], .agg #[.int .i64 x, .int .i64 y, .int .i64 z]] w fun e w' => e = .returned (.bool true) ∧ Below w.heap.size w w' := by
  go_enter Try.func89, Try.ntmps89
  go_wp2
  go_ret
  exact ⟨rfl, below2 _ _ _⟩

/-- The k-th elements of two slices, and nothing older has turned. -/
abbrev EqP (w : World) (b1 o1 b2 o2 : Nat) (x y : Int) (w' : World) : Prop :=
  w'.cell? ⟨b1, o1, none⟩ = some (.int .i64 x) ∧ w'.cell? ⟨b1, o1 + 1, none⟩ = some (.int .i64 y) ∧ w'.cell? ⟨b2, o2, none⟩ = some (.int .i64 x) ∧ w'.cell? ⟨b2, o2 + 1, none⟩ = some (.int .i64 y) ∧ Below w.heap.size w w'
theorem EqP.under {w w1 w2 : World} {b1 o1 b2 o2 : Nat} {x y : Int} (hb : Below w1.heap.size w1 w2) (h : EqP w b1 o1 b2 o2 x y w1) : EqP w b1 o1 b2 o2 x y w2 := by
  obtain ⟨h1, h2, h3, h4, h5⟩ := h
  have g1 : b1 < w1.heap.size := by simpa using World.block_lt_of_cell? w1 _ h1
  have g2 : b2 < w1.heap.size := by simpa using World.block_lt_of_cell? w1 _ h3
  exact ⟨(hb.cell (p := ⟨b1, o1, none⟩) g1).trans h1, (hb.cell (p := ⟨b1, o1 + 1, none⟩) g1).trans h2, (hb.cell (p := ⟨b2, o2, none⟩) g2).trans h3, (hb.cell (p := ⟨b2, o2 + 1, none⟩) g2).trans h4, h5.trans (hb.mono h5.size)⟩
theorem EqP.drew {w w1 : World} {b1 o1 b2 o2 : Nat} {x y : Int} (h : EqP w b1 o1 b2 o2 x y w1) : EqP w b1 o1 b2 o2 x y w1.drew := ⟨h.1, h.2.1, h.2.2.1, h.2.2.2.1, h.2.2.2.2.drew⟩
abbrev EqA (w : World) (b1 o1 b2 o2 : Nat) (x y z : Int) (w' : World) : Prop :=
  w'.cell? ⟨b1, o1, none⟩ = some (.int .i64 x) ∧ w'.cell? ⟨b1, o1 + 1, none⟩ = some (.int .i64 y) ∧ w'.cell? ⟨b1, o1 + 2, none⟩ = some (.int .i64 z) ∧ w'.cell? ⟨b2, o2, none⟩ = some (.int .i64 x) ∧ w'.cell? ⟨b2, o2 + 1, none⟩ = some (.int .i64 y) ∧ w'.cell? ⟨b2, o2 + 2, none⟩ = some (.int .i64 z) ∧ Below w.heap.size w w'
theorem EqA.under {w w1 w2 : World} {b1 o1 b2 o2 : Nat} {x y z : Int} (hb : Below w1.heap.size w1 w2) (h : EqA w b1 o1 b2 o2 x y z w1) : EqA w b1 o1 b2 o2 x y z w2 := by
  obtain ⟨h1, h2, h2', h3, h4, h4', h5⟩ := h
  have g1 : b1 < w1.heap.size := by simpa using World.block_lt_of_cell? w1 _ h1
  have g2 : b2 < w1.heap.size := by simpa using World.block_lt_of_cell? w1 _ h3
  exact ⟨(hb.cell (p := ⟨b1, o1, none⟩) g1).trans h1, (hb.cell (p := ⟨b1, o1 + 1, none⟩) g1).trans h2, (hb.cell (p := ⟨b1, o1 + 2, none⟩) g1).trans h2', (hb.cell (p := ⟨b2, o2, none⟩) g2).trans h3, (hb.cell (p := ⟨b2, o2 + 1, none⟩) g2).trans h4, (hb.cell (p := ⟨b2, o2 + 2, none⟩) g2).trans h4', h5.trans (hb.mono h5.size)⟩
theorem EqA.drew {w w1 : World} {b1 o1 b2 o2 : Nat} {x y z : Int} (h : EqA w b1 o1 b2 o2 x y z w1) : EqA w b1 o1 b2 o2 x y z w1.drew := ⟨h.1, h.2.1, h.2.2.1, h.2.2.2.1, h.2.2.2.2.1, h.2.2.2.2.2.1, h.2.2.2.2.2.2.drew⟩

set_option maxHeartbeats 1000000 in
theorem eqPtS_same (A B : Option Addr) (ca cb : Nat) (ps : List (Int × Int)) (w : World) (hn : ps.length ≤ 1048576) (ha : IsPts w A ps) (hb : IsPts w B ps) :
    Calls Try.prog 58 #[.slice A ps.length ca, .slice B ps.length cb] w fun e w' => e = .returned (.bool true) ∧ Below w.heap.size w w' := by
  go_enter Try.func58, Try.ntmps58
  go_wp2
  go_loopw [5] (fun i wr => ∃ k : Nat, k ≤ ps.length ∧ i = .int .i64 k ∧ Below w.heap.size w wr) (fun i _ => ps.length - (intOf i).toNat)
  case atStart => exact ⟨0, by omega, rfl, Below.refl _ _⟩
  case round =>
    obtain ⟨k, hk, rfl, hr⟩ := hrel
    by_cases hlt : k < ps.length
    · obtain ⟨b1, o1, rfl, -, c1, c2⟩ := (ha.below hr).at_ hlt
      obtain ⟨b2, o2, rfl, -, c3, c4⟩ := (hb.below hr).at_ hlt
      have T : EqP w b1 (o1 + k * 2) b2 (o2 + k * 2) (ptg ps k).1 (ptg ps k).2 _ := ⟨c1, c2, c3, c4, hr⟩
      clear c1 c2 c3 c4
      go_wp2_with fail
      go_region_held3 (fun w' => EqP w b1 (o1 + k * 2) b2 (o2 + k * 2) (ptg ps k).1 (ptg ps k).2 w') (first | exact EqP.drew T | (refine EqP.under (by assumption) ?_; assumption))
        (first | (go_at_call 88; refine (eqPt_same _ _ _).mono ?_; rintro e w1 ⟨rfl, b1⟩))
      rename_i hU
      obtain ⟨-, -, -, -, k1⟩ := hU
      go_wp2
      go_roundw
      case rel => exact ⟨k + 1, by omega, by go_num, k1⟩
      case measure => simp [intOf]; omega
    · go_wp2
      go_ret
      exact ⟨rfl, hr⟩

set_option maxHeartbeats 1000000 in
theorem eqArcS_same (A B : Option Addr) (ca cb : Nat) (rs : List (Int × Int × Int)) (w : World) (hn : rs.length ≤ 1048576) (ha : IsArcs w A rs) (hb : IsArcs w B rs) :
    Calls Try.prog 59 #[.slice A rs.length ca, .slice B rs.length cb] w fun e w' => e = .returned (.bool true) ∧ Below w.heap.size w w' := by
  go_enter Try.func59, Try.ntmps59
  go_wp2
  go_loopw [5] (fun i wr => ∃ k : Nat, k ≤ rs.length ∧ i = .int .i64 k ∧ Below w.heap.size w wr) (fun i _ => rs.length - (intOf i).toNat)
  case atStart => exact ⟨0, by omega, rfl, Below.refl _ _⟩
  case round =>
    obtain ⟨k, hk, rfl, hr⟩ := hrel
    by_cases hlt : k < rs.length
    · obtain ⟨b1, o1, rfl, -, c1, c2, c3⟩ := (ha.below hr).at_ hlt
      obtain ⟨b2, o2, rfl, -, c4, c5, c6⟩ := (hb.below hr).at_ hlt
      have T : EqA w b1 (o1 + k * 3) b2 (o2 + k * 3) (arg rs k).1 (arg rs k).2.1 (arg rs k).2.2 _ := ⟨c1, c2, c3, c4, c5, c6, hr⟩
      clear c1 c2 c3 c4 c5 c6
      go_wp2_with fail
      go_region_held3 (fun w' => EqA w b1 (o1 + k * 3) b2 (o2 + k * 3) (arg rs k).1 (arg rs k).2.1 (arg rs k).2.2 w') (first | exact EqA.drew T | (refine EqA.under (by assumption) ?_; assumption))
        (first | (go_at_call 89; refine (eqArc_same _ _ _ _).mono ?_; rintro e w1 ⟨rfl, b1⟩))
      rename_i hU
      obtain ⟨-, -, -, -, -, -, k1⟩ := hU
      go_wp2
      go_roundw
      case rel => exact ⟨k + 1, by omega, by go_num, k1⟩
      case measure => simp [intOf]; omega
    · go_wp2
      go_ret
      exact ⟨rfl, hr⟩

theorem eqNet_same (A B C D : Option Addr) (ca cb cc cd : Nat) (ps : List (Int × Int)) (rs : List (Int × Int × Int)) (w : World) (hn : ps.length ≤ 1048576) (hm : rs.length ≤ 1048576)
    (ha : IsPts w A ps) (hb : IsArcs w B rs) (hc : IsPts w C ps) (hd : IsArcs w D rs) :
    Calls Try.prog 19 #[.agg #[.slice A ps.length ca, .slice B rs.length cb], .agg #[.slice C ps.length cc, .slice D rs.length cd]] w fun e w' => e = .returned (.bool true) ∧ Below w.heap.size w w' := by
  have k0 := below2 w (.cells #[.slice A ps.length ca, .slice B rs.length cb] 49) (.cells #[.slice C ps.length cc, .slice D rs.length cd] 49)
  have X := (Pair.new w 49 (.slice A ps.length ca) (.slice B rs.length cb)).alloc (.cells #[.slice C ps.length cc, .slice D rs.length cd] 49)
  have Y : Pair ((w.alloc (.cells #[.slice A ps.length ca, .slice B rs.length cb] 49)).alloc (.cells #[.slice C ps.length cc, .slice D rs.length cd] 49)) (w.heap.size + 1) 49 (.slice C ps.length cc) (.slice D rs.length cd) := by
    have := Pair.new (w.alloc (.cells #[.slice A ps.length ca, .slice B rs.length cb] 49)) 49 (.slice C ps.length cc) (.slice D rs.length cd); simpa using this
  go_enter Try.func19, Try.ntmps19
  go_wp2_with fail
  refine (eqPtS_same A C ca cc ps _ hn (ha.below k0) (hc.below k0)).mono ?_; rintro e w1 ⟨rfl, b1⟩
  replace X := X.below b1
  replace Y := Y.below b1
  have k1 := k0.trans (b1.mono k0.size)
  clear b1
  obtain ⟨x0, x1, -, -⟩ := X.cells
  obtain ⟨y0, y1, -, -⟩ := Y.cells
  go_wp2_with fail
  refine (eqArcS_same B D cb cd rs _ hm (hb.below k1) (hd.below k1)).mono ?_; rintro e w2 ⟨rfl, b2⟩
  have k2 := k1.trans (b2.mono k1.size)
  go_wp2
  go_ret
  exact ⟨rfl, k2⟩

end Go.Proofs.Ytagaildnfbegkaa
