/-
  What spec.l03Put computes: an arc put into arcs that rise.
-/
import Derived.Test.YtagaildnfbegkaaRowsBy
import Derived.Test.YtagaildnfbegkaaTurnMath
import Derived.Laws.AppendOwnNone
namespace Go.Proofs.Ytagaildnfbegkaa
open Go.RowKit Go.Deep

/-- Arcs, points as cells. -/
def cellsA (l : List A3) : List Value := l.flatMap fun a => [.int .i64 a.1, .int .i64 a.2.1, .int .i64 a.2.2]
theorem cellsA_append (a b : List A3) : cellsA (a ++ b) = cellsA a ++ cellsA b := List.flatMap_append
theorem cellsA_len (l : List A3) : (cellsA l).length = l.length * 3 := by
  induction l with
  | nil => rfl
  | cons a r ih => unfold cellsA at *; simp only [List.flatMap_cons, List.length_append, List.length_cons, List.length_nil, ih]; omega
theorem arg_succ (a : A3) (r : List A3) (i : Nat) : arg (a :: r) (i + 1) = arg r i := by simp [arg]
theorem flatA_succ (a : A3) (r : List A3) (j : Nat) : flatA (a :: r) (j + 3) = flatA r j := by
  unfold flatA
  rw [show (j + 3) % 3 = j % 3 by omega, show (j + 3) / 3 = j / 3 + 1 by omega, arg_succ]
theorem cellsA_get : ∀ (l : List A3) (j : Nat), j < l.length * 3 → (cellsA l)[j]? = some (.int .i64 (flatA l j))
  | [], j, h => by simp at h
  | a :: r, 0, _ => by simp [cellsA, flatA, arg]
  | a :: r, 1, _ => by simp [cellsA, flatA, arg]
  | a :: r, 2, _ => by simp [cellsA, flatA, arg]
  | a :: r, j + 3, h => by
    rw [flatA_succ, ← cellsA_get r j (by simp at h; omega)]
    simp [cellsA]
theorem cellsA_one (l : List A3) : ∀ u ∈ cellsA l, u.oneCell' = true := by
  intro u hu
  unfold cellsA at hu
  obtain ⟨a, -, h⟩ := List.mem_flatMap.1 hu
  rcases List.mem_cons.1 h with rfl | h
  · rfl
  · rcases List.mem_cons.1 h with rfl | h
    · rfl
    · rcases List.mem_cons.1 h with rfl | h
      · rfl
      · cases h
/-- The cells of arcs that are read, from the s-th on. -/
theorem IsArcs.news {w : World} {b off : Nat} {rs : List A3} (h : IsArcs w (some ⟨b, off, none⟩) rs) (s m : Nat) (hm : s + m ≤ rs.length) : ∀ j u, (cellsA ((rs.drop s).take m))[j]? = some u → w.cell? ((⟨b, off + s * 3, none⟩ : Addr).add j) = some u := by
  intro j u hj
  have hlen : ((rs.drop s).take m).length = m := by rw [List.length_take, List.length_drop]; omega
  have hjn : j < m * 3 := by have := (List.getElem?_eq_some_iff.1 hj).1; rw [cellsA_len, hlen] at this; exact this
  rw [cellsA_get _ _ (by rw [hlen]; exact hjn)] at hj
  have e : arg ((rs.drop s).take m) (j / 3) = arg rs (s + j / 3) := by
    unfold arg
    rw [List.getD_eq_getElem?_getD, List.getElem?_take, if_pos (by omega), List.getElem?_drop, ← List.getD_eq_getElem?_getD]
  obtain ⟨b', off', hA, -, hc⟩ := h (by omega)
  injection hA with hA
  injection hA with hA1 hA2
  subst hA1 hA2
  obtain ⟨c0, c1, c2⟩ := hc (s + j / 3) (by omega)
  rw [← hj, Addr.add_lit]
  unfold flatA
  rw [e]
  rcases (show j % 3 = 0 ∨ j % 3 = 1 ∨ j % 3 = 2 by omega) with r | r | r
  · rw [if_pos r, ← c0, show off + s * 3 + j = off + (s + j / 3) * 3 by omega]
  · rw [if_neg (by omega), if_pos r, ← c1, show off + s * 3 + j = off + (s + j / 3) * 3 + 1 by omega]
  · rw [if_neg (by omega), if_neg (by omega), ← c2, show off + s * 3 + j = off + (s + j / 3) * 3 + 2 by omega]
/-- Arcs of the call's own read as arcs. -/
theorem ownA_is {w : World} {base : Nat} {v : Value} {rs : List A3} (h : w.ownsRow base 82 3 v rs.length (cellsA rs)) : ∃ A cap, v = .slice A rs.length cap ∧ rs.length ≤ cap ∧ cap ≤ maxLen ∧ (0 < rs.length → ∃ g, A = some ⟨g, 0, none⟩ ∧ base ≤ g ∧ OwnAt w g 82 0 (rs.length * 3) (flatA rs)) := by
  rcases h.2 with ⟨h1, h2⟩ | ⟨g, cap, cur, h1, h2, h3, h4, h5, h6, h7⟩
  · exact ⟨none, 0, by rw [h1, h2], by omega, Nat.zero_le _, fun hp => by omega⟩
  · refine ⟨_, cap, h1, h4, h5, fun _ => ⟨g, rfl, h2, cur, h3, by omega, fun i hi => ?_⟩⟩
    have e : (cur.toList.take (rs.length * 3))[i]? = (cellsA rs)[i]? := by rw [h7]
    rw [List.getElem?_take, if_pos hi, Array.getElem?_toList, cellsA_get _ _ hi] at e
    rw [Nat.zero_add, e]
theorem OwnAt.arcs {w : World} {g : Nat} {rs : List A3} (h : OwnAt w g 82 0 (rs.length * 3) (flatA rs)) : IsArcs w (some ⟨g, 0, none⟩) rs := fun _ =>
  ⟨g, 0, rfl, h.lt, fun i hi => ⟨by rw [h.cell (show i * 3 < _ by omega), flatA_0], by rw [show 0 + i * 3 + 1 = 0 + (i * 3 + 1) by omega, h.cell (show i * 3 + 1 < _ by omega), flatA_1], by rw [show 0 + i * 3 + 2 = 0 + (i * 3 + 2) by omega, h.cell (show i * 3 + 2 < _ by omega), flatA_2]⟩⟩

/-- Block b holds three cells, and is known whole. -/
def Trip (w : World) (b : Nat) (t : TypeId) (x y z : Value) : Prop := w.heap[b]? = some (.cells #[x, y, z] t (0, 0))
section
variable {w w' : World} {b c : Nat} {t : TypeId} {x y z : Value}
theorem Trip.lt (h : Trip w b t x y z) : b < w.heap.size := (Array.getElem?_eq_some_iff.1 h).1
theorem Trip.new (w : World) (t : TypeId) (x y z : Value) : Trip (w.alloc (.cells #[x, y, z] t)) w.heap.size t x y z := heap_alloc_new w _
theorem Trip.alloc (h : Trip w b t x y z) (o : Obj) : Trip (w.alloc o) b t x y z := (Below.heap_alloc w o b h.lt).trans h
theorem Trip.below (h : Trip w b t x y z) (hb : Below w.heap.size w w') : Trip w' b t x y z := (hb.block b h.lt).trans h
theorem Trip.far (h : Trip w b t x y z) (hc : b ≠ c) (i : Nat) (v : Value) : Trip (w.setCell ⟨c, i, none⟩ v) b t x y z := (Below.heap_setCell w ⟨c, i, none⟩ v b hc).trans h
theorem Trip.set2 (h : Trip w b t x y z) (v : Value) : Trip (w.setCell ⟨b, 2, none⟩ v) b t x y v := block_set v h
theorem Trip.grownUp {r : Option Nat} (h : Trip w b t x y z) (hg : w.grownBy w' r) (hr : ∀ g, r = some g → b < g) : Trip w' b t x y z := (hg.block b h.lt (fun e => by have := hr b e.symm; omega)).trans h
theorem Trip.cells (h : Trip w b t x y z) : w.cell? ⟨b, 0, none⟩ = some x ∧ w.cell? ⟨b, 1, none⟩ = some y ∧ w.cell? ⟨b, 2, none⟩ = some z ∧ w.frozen? ⟨b, 2, none⟩ = false :=
  ⟨by rw [cell_of_block h]; rfl, by rw [cell_of_block h]; rfl, by rw [cell_of_block h]; rfl, frozen_of_block h⟩
end
/-- What a comparison reads: an arc of the list, the arc at hand. -/
abbrev PutS (base : World) (b o : Nat) (x y z : Int) (c : Nat) (p q r : Int) (w : World) : Prop :=
  w.cell? ⟨b, o, none⟩ = some (.int .i64 x) ∧ w.cell? ⟨b, o + 1, none⟩ = some (.int .i64 y) ∧ w.cell? ⟨b, o + 2, none⟩ = some (.int .i64 z) ∧ w.cell? ⟨c, 0, none⟩ = some (.int .i64 p) ∧ w.cell? ⟨c, 1, none⟩ = some (.int .i64 q) ∧ w.cell? ⟨c, 2, none⟩ = some (.int .i64 r) ∧ Below base.heap.size base w
section
variable {base w w' : World} {b o : Nat} {x y z : Int} {c : Nat} {p q r : Int}
theorem PutS.under (hb : Below w.heap.size w w') (h : PutS base b o x y z c p q r w) : PutS base b o x y z c p q r w' :=
  ⟨cell_under hb h.1, cell_under hb h.2.1, cell_under hb h.2.2.1, cell_under hb h.2.2.2.1, cell_under hb h.2.2.2.2.1, cell_under hb h.2.2.2.2.2.1, h.2.2.2.2.2.2.trans (hb.mono h.2.2.2.2.2.2.size)⟩
theorem PutS.drew (h : PutS base b o x y z c p q r w) : PutS base b o x y z c p q r w.drew := ⟨h.1, h.2.1, h.2.2.1, h.2.2.2.1, h.2.2.2.2.1, h.2.2.2.2.2.1, h.2.2.2.2.2.2.drew⟩
end
/-- Numbers that two nodes of a network have. -/
def Small (a : A3) : Prop := 0 ≤ a.1 ∧ a.1 ≤ 1000 ∧ 0 ≤ a.2.1 ∧ a.2.1 ≤ 1000
theorem small_arg {rs : List A3} (h : ∀ x ∈ rs, Small x) {i : Nat} (hi : i < rs.length) : Small (arg rs i) := h _ (arg_mem hi)
/-- Arcs of the call's own. -/
def ArcsMade (w : World) (rs : List A3) (e : Ending) (w' : World) : Prop := ∃ v, e = .returned v ∧ w'.ownsRow w.heap.size 82 3 v rs.length (cellsA rs) ∧ Below w.heap.size w w'

theorem cells3_new (w : World) (a : A3) (t : TypeId) : ∀ j u, (cellsA [a])[j]? = some u → (w.alloc (.cells #[.int .i64 a.1, .int .i64 a.2.1, .int .i64 a.2.2] t)).cell? ((⟨w.heap.size, 0, none⟩ : Addr).add j) = some u := by
  intro j u hj
  obtain ⟨c0, c1, c2⟩ := arc_new w a.1 a.2.1 a.2.2 t
  have hlt : j < 3 := by have := (List.getElem?_eq_some_iff.1 hj).1; rw [cellsA_len] at this; simpa using this
  rw [Addr.add_lit]
  match j, hlt with
  | 0, _ => simp [cellsA] at hj; rw [← hj]; exact c0
  | 1, _ => simp [cellsA] at hj; rw [← hj]; exact c1
  | 2, _ => simp [cellsA] at hj; rw [← hj]; exact c2

set_option maxHeartbeats 2000000 in
theorem l03Put_nil (a : A3) (w : World) : Calls Try.prog 95 #[.slice none 0 0, .agg #[.int .i64 a.1, .int .i64 a.2.1, .int .i64 a.2.2]] w (ArcsMade w [a]) := by
  obtain ⟨i0, hi, hz0, hz1, hz2⟩ := info_parts Try.infoArc
  have X := Trip.new w 82 (.int .i64 a.1) (.int .i64 a.2.1) (.int .i64 a.2.2)
  have K := below1 w (.cells #[.int .i64 a.1, .int .i64 a.2.1, .int .i64 a.2.2] 82)
  go_enter Try.func95, Try.ntmps95
  go_wp2
  refine wp_loop_rounds 1 ?_; rw [rounds_succ]
  go_wp2_with fail
  go_quiet (fail)
  replace X : Trip ((w.alloc (.cells #[.int .i64 a.1, .int .i64 a.2.1, .int .i64 a.2.2] 82)).drewN nq) w.heap.size 82 (.int .i64 a.1) (.int .i64 a.2.1) (.int .i64 a.2.2) := X
  replace K := below_drewN K nq
  have hW : ((w.alloc (.cells #[.int .i64 a.1, .int .i64 a.2.1, .int .i64 a.2.2] 82)).drewN nq).heap.size = w.heap.size + 1 := by show (w.alloc _).heap.size = _; simp
  generalize (w.alloc (.cells #[.int .i64 a.1, .int .i64 a.2.1, .int .i64 a.2.2] 82)).drewN nq = W at X K hW ⊢
  have O := World.ownsRow_made (e := 82) (size := 3) (base := w.heap.size + 1) W #[] 0 (by omega) (Nat.zero_le _) rfl
  rw [hW] at O
  replace X := X.alloc (.cells #[] 82)
  replace K := K.alloc K.size (.cells #[] 82)
  go_wp2_with fail
  go_quiet (fail)
  replace X : Trip ((W.alloc (.cells #[] 82)).drewN nq) w.heap.size 82 (.int .i64 a.1) (.int .i64 a.2.1) (.int .i64 a.2.2) := X
  replace K := below_drewN K nq
  replace O : ((W.alloc (.cells #[] 82)).drewN nq).ownsRow (w.heap.size + 1) 82 3 (.slice (some ⟨w.heap.size + 1, 0, none⟩) 0 0) 0 [] := O
  clear hW
  generalize (W.alloc (.cells #[] 82)).drewN nq = W2 at X K O ⊢
  obtain ⟨x0, x1, x2, -⟩ := X.cells
  have xl := X.lt
  go_wp2_with (at_builtin; refine wpList_append_own _ rfl _ _ 47 rfl (w.heap.size + 1) 82 i0 (.agg #[.int .i64 0, .int .i64 0, .int .i64 0]) 3 24 Try.underlying47 hi hz0 hz1 hz2 rfl (by decide) _ _ _ rfl (O.alloc _) ⟨W2.heap.size, 0, none⟩ 1 1 (cellsA [a]) rfl ?qc1 ?qc2 ?qc3 ?qc4 ?qc5 ?qc6 ?_)
  case qc1 => rfl
  case qc2 => exact cells3_new _ _ _
  case qc3 => exact cellsA_one _
  case qc4 => decide
  case qc5 => decide
  case qc6 => simp; omega
  intro v4 w4 own4 g4 nil4
  clear x0 x1 x2
  have K4 := (K.alloc K.size (.cells #[.int .i64 a.1, .int .i64 a.2.1, .int .i64 a.2.2] 82)).grown g4 (by have := K.size; simp; omega) (fun g e => by have := ownsRow_block O g e; omega)
  clear g4 O X K
  go_wp2_with (at_builtin; refine wpList_append_own_none rfl _ _ 47 rfl (w.heap.size + 1) 82 i0 3 Try.underlying47 hi _ _ _ rfl own4 rfl ?_)
  go_wp2
  go_ret
  exact ⟨v4, rfl, ownsRow_base own4 (by omega), K4⟩

theorem IsArcs.here {w : World} {b off : Nat} {rs : List A3} (h : IsArcs w (some ⟨b, off, none⟩) rs) {k : Nat} (hk : k < rs.length) :
    w.cell? ⟨b, off + k * 3, none⟩ = some (.int .i64 (arg rs k).1) ∧ w.cell? ⟨b, off + k * 3 + 1, none⟩ = some (.int .i64 (arg rs k).2.1) ∧ w.cell? ⟨b, off + k * 3 + 2, none⟩ = some (.int .i64 (arg rs k).2.2) := by
  obtain ⟨b', off', hA, -, hc⟩ := h (by omega)
  injection hA with hA
  injection hA with hA1 hA2
  subst hA1 hA2
  exact hc k hk
theorem ownsRow_eq {w : World} {base : Nat} {v : Value} {n n' : Nat} {xs xs' : List Value} (h : w.ownsRow (base + 1) 82 3 v n xs) (e : n = n') (e' : xs = xs') : w.ownsRow base 82 3 v n' xs' := by
  subst e e'; exact ownsRow_base h (by omega)

set_option maxHeartbeats 4000000 in
theorem l03Put_some (b off cap : Nat) (rs : List A3) (a : A3) (w : World) (hm : rs.length ≤ 1000) (hcap : rs.length ≤ cap) (hb : IsArcs w (some ⟨b, off, none⟩) rs) (hs : ∀ x ∈ rs, Small x) (ha : Small a) :
    Calls Try.prog 95 #[.slice (some ⟨b, off, none⟩) rs.length cap, .agg #[.int .i64 a.1, .int .i64 a.2.1, .int .i64 a.2.2]] w (ArcsMade w (putA rs a)) := by
  obtain ⟨i0, hi, hz0, hz1, hz2⟩ := info_parts Try.infoArc
  have X := Trip.new w 82 (.int .i64 a.1) (.int .i64 a.2.1) (.int .i64 a.2.2)
  have K := below1 w (.cells #[.int .i64 a.1, .int .i64 a.2.1, .int .i64 a.2.2] 82)
  have HS := Lib.hid hs
  have HA := Lib.hid ha
  clear hs ha
  go_enter Try.func95, Try.ntmps95
  go_wp2
  go_loopw [5] (fun i wr => ∃ k : Nat, k ≤ rs.length ∧ i = .int .i64 k ∧ Trip wr w.heap.size 82 (.int .i64 a.1) (.int .i64 a.2.1) (.int .i64 a.2.2) ∧ Below w.heap.size w wr ∧ ∀ j, j < k → cmpA (arg rs j) a < 0) (fun i _ => rs.length - (intOf i).toNat)
  case atStart => exact ⟨0, by omega, rfl, X, K, fun j hj => by omega⟩
  case round =>
    clear X K
    obtain ⟨k, hk, rfl, X, K, hall⟩ := hrel
    have HALL := Lib.hid hall
    clear hall
    by_cases hlt : k < rs.length
    · obtain ⟨c0, c1, c2⟩ := (hb.below K).here hlt
      obtain ⟨x0, x1, x2, -⟩ := X.cells
      have T : PutS w b (off + k * 3) (arg rs k).1 (arg rs k).2.1 (arg rs k).2.2 w.heap.size a.1 a.2.1 a.2.2 wr := ⟨c0, c1, c2, x0, x1, x2, K⟩
      have hsk := small_arg HS.out hlt
      have HSK := Lib.hid hsk
      clear c0 c1 c2 x0 x1 x2 hsk
      replace X : Trip wr.drew w.heap.size 82 (.int .i64 a.1) (.int .i64 a.2.1) (.int .i64 a.2.2) := X
      by_cases hneg : cmpA (arg rs k) a < 0
      · have HN := Lib.hid hneg
        have hd : decide (cmpA (arg rs k) a < 0) = true := decide_eq_true hneg
        go_wp2_with fail
        go_region_held3 (fun w' => PutS w b (off + k * 3) (arg rs k).1 (arg rs k).2.1 (arg rs k).2.2 w.heap.size a.1 a.2.1 a.2.2 w') (first | exact PutS.drew T | assumption | (refine PutS.under (by assumption) ?_; assumption))
          ((go_at_call 76; refine (l03Cmp_any _ _ _ _ _ _ _ HSK.out HA.out).mono ?_; rintro e w1 ⟨rfl, b1⟩))
        rename_i hU
        obtain ⟨-, -, -, -, -, -, k1⟩ := hU
        replace X := X.below b1
        clear b1 T
        go_wp2
        go_roundw
        case rel => exact ⟨k + 1, by omega, by go_num, X, k1, fun j hj => by
          rcases Nat.lt_or_ge j k with h | h
          · exact HALL.out j h
          · obtain rfl : j = k := by omega
            exact HN.out⟩
        case measure => simp [intOf]; omega
      · have hd : decide (cmpA (arg rs k) a < 0) = false := decide_eq_false hneg
        have HP0 := Lib.hid (putA_at (l := rs) (a := a) (k := k) hk HALL.out (fun _ => hneg))
        by_cases hz : cmpA (arg rs k) a = 0
        · have HP := Lib.hid (show putA rs a = rs.take k ++ [(a.1, a.2.1, min a.2.2 (arg rs k).2.2)] ++ rs.drop (k + 1) by rw [HP0.out, if_pos ⟨hlt, hz⟩])
          have hd0 : (cmpA (arg rs k) a == 0) = true := by simpa using hz
          clear HP0 hneg hz
          go_wp2_with fail
          go_region_held3 (fun w' => PutS w b (off + k * 3) (arg rs k).1 (arg rs k).2.1 (arg rs k).2.2 w.heap.size a.1 a.2.1 a.2.2 w') (first | exact PutS.drew T | assumption | (refine PutS.under (by assumption) ?_; assumption))
            ((go_at_call 76; refine (l03Cmp_any _ _ _ _ _ _ _ HSK.out HA.out).mono ?_; rintro e w1 ⟨rfl, b1⟩))
          rename_i hU
          obtain ⟨-, -, -, -, -, -, k1⟩ := hU
          replace X := X.below b1
          replace K := k1
          clear b1 T hd k1
          have xl := X.lt
          have O := World.ownsRow_made (e := 82) (size := 3) (base := w.heap.size + 1) w1 #[] 0 (by omega) (Nat.zero_le _) rfl
          replace X := X.alloc (.cells #[] 82)
          replace K := K.alloc K.size (.cells #[] 82)
          have N1 := (hb.below K).news 0 k (by omega)
          rw [Nat.zero_mul, Nat.add_zero, List.drop_zero] at N1
          have hkc : k ≤ cap := by omega
          go_wp2_with (at_builtin; refine wpList_append_own _ rfl _ _ 47 rfl (w.heap.size + 1) 82 i0 (.agg #[.int .i64 0, .int .i64 0, .int .i64 0]) 3 24 Try.underlying47 hi hz0 hz1 hz2 rfl (by decide) _ _ _ rfl O ⟨b, off, none⟩ (k) cap (cellsA (rs.take (k))) rfl ?qc1 ?qc2 ?qc3 ?qc4 ?qc5 ?qc6 ?_)
          case qc1 => rw [cellsA_len, List.length_take]; omega
          case qc2 => exact N1
          case qc3 => exact cellsA_one _
          case qc4 => unfold maxLen; omega
          case qc5 => omega
          case qc6 => simp; omega
          intro v4 w4 own4 g4 _
          replace X := X.grownUp g4 (fun g e => by have := ownsRow_block O g e; omega)
          replace K := K.grown g4 (by have := K.size; simp; omega) (fun g e => by have := ownsRow_block O g e; omega)
          clear g4 O N1
          obtain ⟨c0, c1, c2⟩ := (hb.below K).here hlt
          obtain ⟨x0, x1, x2, -⟩ := X.cells
          have T2 : PutS w b (off + k * 3) (arg rs k).1 (arg rs k).2.1 (arg rs k).2.2 w.heap.size a.1 a.2.1 a.2.2 w4 := ⟨c0, c1, c2, x0, x1, x2, K⟩
          clear c0 c1 c2 x0 x1 x2 K
          replace X : Trip w4.drew w.heap.size 82 (.int .i64 a.1) (.int .i64 a.2.1) (.int .i64 a.2.2) := X
          replace own4 : w4.drew.ownsRow (w.heap.size + 1) 82 3 v4 k (cellsA (rs.take k)) := own4
          go_wp2_with fail
          go_region_held3 (fun w' => PutS w b (off + k * 3) (arg rs k).1 (arg rs k).2.1 (arg rs k).2.2 w.heap.size a.1 a.2.1 a.2.2 w') (first | exact PutS.drew T2 | assumption | (refine PutS.under (by assumption) ?_; assumption))
            ((go_at_call 76; refine (l03Cmp_any _ _ _ _ _ _ _ HSK.out HA.out).mono ?_; rintro e w5 ⟨rfl, b5⟩))
          rename_i hU
          obtain ⟨-, -, -, -, -, -, k1⟩ := hU
          replace X := X.below b5
          replace own4 := ownsRow_below own4 b5
          have K := k1
          clear b5 T2 k1 hd0
          obtain ⟨-, -, c2⟩ := (hb.below K).here hlt
          obtain ⟨-, -, x2, x3⟩ := X.cells
          go_wp2_with fail
          go_region
          clear c2 x2 x3
          replace own4 := ownsRow_only (c := w.heap.size) own4 (grown_set (World.grownBy.refl w5 _) 2 (.int .i64 (min a.2.2 (arg rs k).2.2))) (by omega)
          replace X := X.set2 (.int .i64 (min a.2.2 (arg rs k).2.2))
          replace K := (K.setCell (p := ⟨w.heap.size, 2, none⟩) (by simp) (.int .i64 (min a.2.2 (arg rs k).2.2))).drew
          replace X : Trip (w5.setCell ⟨w.heap.size, 2, none⟩ (.int .i64 (min a.2.2 (arg rs k).2.2))).drew w.heap.size 82 (.int .i64 a.1) (.int .i64 a.2.1) (.int .i64 (min a.2.2 (arg rs k).2.2)) := X
          replace own4 : (w5.setCell ⟨w.heap.size, 2, none⟩ (.int .i64 (min a.2.2 (arg rs k).2.2))).drew.ownsRow (w.heap.size + 1) 82 3 v4 k (cellsA (rs.take k)) := own4
          generalize (w5.setCell ⟨w.heap.size, 2, none⟩ (.int .i64 (min a.2.2 (arg rs k).2.2))).drew = w7 at X K own4 ⊢
          obtain ⟨x0, x1, x2, -⟩ := X.cells
          have xl5 := X.lt
          clear xl
          go_wp2_with (at_builtin; refine wpList_append_own _ rfl _ _ 47 rfl (w.heap.size + 1) 82 i0 (.agg #[.int .i64 0, .int .i64 0, .int .i64 0]) 3 24 Try.underlying47 hi hz0 hz1 hz2 rfl (by decide) _ _ _ rfl (own4.alloc _) ⟨w7.heap.size, 0, none⟩ 1 1 (cellsA [(a.1, a.2.1, min a.2.2 (arg rs k).2.2)]) rfl ?qc1 ?qc2 ?qc3 ?qc4 ?qc5 ?qc6 ?_)
          case qc1 => rfl
          case qc2 => exact cells3_new _ (a.1, a.2.1, min a.2.2 (arg rs k).2.2) _
          case qc3 => exact cellsA_one _
          case qc4 => unfold maxLen; omega
          case qc5 => omega
          case qc6 => simp; omega
          intro v6 w6 own6 g6 _
          have hbk := ownsRow_block own4
          have hs6 := g6.size
          rw [World.size_alloc] at hs6
          replace K := (K.alloc K.size (.cells #[.int .i64 a.1, .int .i64 a.2.1, .int .i64 (min a.2.2 (arg rs k).2.2)] 82)).grown g6 (by have := K.size; simp; omega) (fun g e => by have := hbk g e; omega)
          clear x0 x1 x2 X g6 own4 hbk
          have N2 := (hb.below K).news (k + 1) (rs.length - (k + 1)) (by omega)
          have hTD : (rs.drop (k + 1)).take (rs.length - (k + 1)) = rs.drop (k + 1) := List.take_of_length_le (by rw [List.length_drop]; omega)
          rw [hTD] at N2
          have hks := K.size
          clear hTD
          by_cases hce : cap = k + 1
          · have hln : rs.length = k + 1 := by omega
            have hln' : rs.length - (k + 1) = 0 := by omega
            clear N2
            go_wp2_with (at_builtin; refine wpList_append_own _ rfl _ _ 47 rfl (w.heap.size + 1) 82 i0 (.agg #[.int .i64 0, .int .i64 0, .int .i64 0]) 3 24 Try.underlying47 hi hz0 hz1 hz2 rfl (by decide) _ _ _ rfl own6 ⟨b, off, none⟩ (0) (0) ([]) rfl ?qc1 ?qc2 ?qc3 ?qc4 ?qc5 ?qc6 ?_)
            case qc1 => rfl
            case qc2 => intro j u hj; simp at hj
            case qc3 => first | exact cellsA_one _ | (intro u hu; simp at hu)
            case qc4 => unfold maxLen; omega
            case qc5 => omega
            case qc6 => omega
            intro v8 w8 own8 g8 _
            have hbk := ownsRow_block own6
            replace K := K.grown g8 (by omega) (fun g e => by have := hbk g e; omega)
            clear g8 own6 hbk
            go_wp2
            go_ret
            exact ⟨v8, rfl, ownsRow_eq own8 (by rw [HP.out]; simp; try omega) (by have hdn : rs.drop (k + 1) = [] := List.drop_eq_nil_of_le (by omega); rw [HP.out, hdn]; simp only [cellsA_append, List.append_nil]), K⟩
          · go_wp2_with (at_builtin; refine wpList_append_own _ rfl _ _ 47 rfl (w.heap.size + 1) 82 i0 (.agg #[.int .i64 0, .int .i64 0, .int .i64 0]) 3 24 Try.underlying47 hi hz0 hz1 hz2 rfl (by decide) _ _ _ rfl own6 ⟨b, off + (k + 1) * 3, none⟩ (rs.length - (k + 1)) (cap - (k + 1)) (cellsA (rs.drop (k + 1))) rfl ?qc1 ?qc2 ?qc3 ?qc4 ?qc5 ?qc6 ?_)
            case qc1 => rw [cellsA_len, List.length_drop]
            case qc2 => exact N2
            case qc3 => first | exact cellsA_one _ | (intro u hu; simp at hu)
            case qc4 => unfold maxLen; omega
            case qc5 => omega
            case qc6 => omega
            intro v8 w8 own8 g8 _
            have hbk := ownsRow_block own6
            replace K := K.grown g8 (by omega) (fun g e => by have := hbk g e; omega)
            clear g8 own6 hbk N2
            go_wp2
            go_ret
            exact ⟨v8, rfl, ownsRow_eq own8 (by rw [HP.out]; simp; try omega) (by rw [HP.out]; simp only [cellsA_append, List.append_assoc]), K⟩
        · have HP := Lib.hid (show putA rs a = rs.take k ++ [a] ++ rs.drop k by rw [HP0.out, if_neg (fun h => hz h.2)])
          have hd0 : (cmpA (arg rs k) a == 0) = false := by simpa using hz
          clear HP0 hneg hz
          go_wp2_with fail
          go_region_held3 (fun w' => PutS w b (off + k * 3) (arg rs k).1 (arg rs k).2.1 (arg rs k).2.2 w.heap.size a.1 a.2.1 a.2.2 w') (first | exact PutS.drew T | assumption | (refine PutS.under (by assumption) ?_; assumption))
            ((go_at_call 76; refine (l03Cmp_any _ _ _ _ _ _ _ HSK.out HA.out).mono ?_; rintro e w1 ⟨rfl, b1⟩))
          rename_i hU
          obtain ⟨-, -, -, -, -, -, k1⟩ := hU
          replace X := X.below b1
          replace K := k1
          clear b1 T hd k1
          have xl := X.lt
          have O := World.ownsRow_made (e := 82) (size := 3) (base := w.heap.size + 1) w1 #[] 0 (by omega) (Nat.zero_le _) rfl
          replace X := X.alloc (.cells #[] 82)
          replace K := K.alloc K.size (.cells #[] 82)
          have N1 := (hb.below K).news 0 k (by omega)
          rw [Nat.zero_mul, Nat.add_zero, List.drop_zero] at N1
          have hkc : k ≤ cap := by omega
          go_wp2_with (at_builtin; refine wpList_append_own _ rfl _ _ 47 rfl (w.heap.size + 1) 82 i0 (.agg #[.int .i64 0, .int .i64 0, .int .i64 0]) 3 24 Try.underlying47 hi hz0 hz1 hz2 rfl (by decide) _ _ _ rfl O ⟨b, off, none⟩ (k) cap (cellsA (rs.take (k))) rfl ?qc1 ?qc2 ?qc3 ?qc4 ?qc5 ?qc6 ?_)
          case qc1 => rw [cellsA_len, List.length_take]; omega
          case qc2 => exact N1
          case qc3 => exact cellsA_one _
          case qc4 => unfold maxLen; omega
          case qc5 => omega
          case qc6 => simp; omega
          intro v4 w4 own4 g4 _
          replace X := X.grownUp g4 (fun g e => by have := ownsRow_block O g e; omega)
          replace K := K.grown g4 (by have := K.size; simp; omega) (fun g e => by have := ownsRow_block O g e; omega)
          clear g4 O N1
          obtain ⟨c0, c1, c2⟩ := (hb.below K).here hlt
          obtain ⟨x0, x1, x2, -⟩ := X.cells
          have T2 : PutS w b (off + k * 3) (arg rs k).1 (arg rs k).2.1 (arg rs k).2.2 w.heap.size a.1 a.2.1 a.2.2 w4 := ⟨c0, c1, c2, x0, x1, x2, K⟩
          clear c0 c1 c2 x0 x1 x2 K
          replace X : Trip w4.drew w.heap.size 82 (.int .i64 a.1) (.int .i64 a.2.1) (.int .i64 a.2.2) := X
          replace own4 : w4.drew.ownsRow (w.heap.size + 1) 82 3 v4 k (cellsA (rs.take k)) := own4
          go_wp2_with fail
          go_region_held3 (fun w' => PutS w b (off + k * 3) (arg rs k).1 (arg rs k).2.1 (arg rs k).2.2 w.heap.size a.1 a.2.1 a.2.2 w') (first | exact PutS.drew T2 | assumption | (refine PutS.under (by assumption) ?_; assumption))
            ((go_at_call 76; refine (l03Cmp_any _ _ _ _ _ _ _ HSK.out HA.out).mono ?_; rintro e w5 ⟨rfl, b5⟩))
          rename_i hU
          obtain ⟨-, -, -, -, -, -, k1⟩ := hU
          replace X := X.below b5
          replace own4 := ownsRow_below own4 b5
          have K := k1
          clear b5 T2 k1 hd0
          obtain ⟨x0, x1, x2, -⟩ := X.cells
          have xl5 := X.lt
          clear xl
          go_wp2_with (at_builtin; refine wpList_append_own _ rfl _ _ 47 rfl (w.heap.size + 1) 82 i0 (.agg #[.int .i64 0, .int .i64 0, .int .i64 0]) 3 24 Try.underlying47 hi hz0 hz1 hz2 rfl (by decide) _ _ _ rfl (own4.alloc _) ⟨w5.heap.size, 0, none⟩ 1 1 (cellsA [a]) rfl ?qc1 ?qc2 ?qc3 ?qc4 ?qc5 ?qc6 ?_)
          case qc1 => rfl
          case qc2 => exact cells3_new _ a _
          case qc3 => exact cellsA_one _
          case qc4 => unfold maxLen; omega
          case qc5 => omega
          case qc6 => simp; omega
          intro v6 w6 own6 g6 _
          have hbk := ownsRow_block own4
          have hs6 := g6.size
          rw [World.size_alloc] at hs6
          replace K := (K.alloc K.size (.cells #[.int .i64 a.1, .int .i64 a.2.1, .int .i64 a.2.2] 82)).grown g6 (by have := K.size; simp; omega) (fun g e => by have := hbk g e; omega)
          clear x0 x1 x2 X g6 own4 hbk
          have N2 := (hb.below K).news (k) (rs.length - (k)) (by omega)
          have hTD : (rs.drop (k)).take (rs.length - (k)) = rs.drop (k) := List.take_of_length_le (by rw [List.length_drop]; omega)
          rw [hTD] at N2
          have hks := K.size
          have hne : ¬ cap = k := by omega
          clear hTD
          go_wp2_with (at_builtin; refine wpList_append_own _ rfl _ _ 47 rfl (w.heap.size + 1) 82 i0 (.agg #[.int .i64 0, .int .i64 0, .int .i64 0]) 3 24 Try.underlying47 hi hz0 hz1 hz2 rfl (by decide) _ _ _ rfl own6 ⟨b, off + k * 3, none⟩ (rs.length - k) (cap - k) (cellsA (rs.drop k)) rfl ?qc1 ?qc2 ?qc3 ?qc4 ?qc5 ?qc6 ?_)
          case qc1 => rw [cellsA_len, List.length_drop]
          case qc2 => exact N2
          case qc3 => exact cellsA_one _
          case qc4 => unfold maxLen; omega
          case qc5 => omega
          case qc6 => omega
          intro v8 w8 own8 g8 _
          have hbk := ownsRow_block own6
          replace K := K.grown g8 (by omega) (fun g e => by have := hbk g e; omega)
          clear g8 own6 hbk N2
          go_wp2
          go_ret
          exact ⟨v8, rfl, ownsRow_eq own8 (by rw [HP.out]; simp; try omega) (by rw [HP.out]; simp only [cellsA_append, List.append_assoc]), K⟩
    · obtain rfl : k = rs.length := by omega
      have HP := Lib.hid (show putA rs a = rs ++ [a] by rw [putA_at (l := rs) (a := a) (k := rs.length) hk HALL.out (fun h => by omega), if_neg (fun h => by omega)]; simp)
      clear hlt hk
      go_wp2_with fail
      go_quiet (fail)
      replace X : Trip (wr.drewN nq) w.heap.size 82 (.int .i64 a.1) (.int .i64 a.2.1) (.int .i64 a.2.2) := X
      replace K := below_drewN K nq
      generalize wr.drewN nq = w1 at X K ⊢
      have xl := X.lt
      have O := World.ownsRow_made (e := 82) (size := 3) (base := w.heap.size + 1) w1 #[] 0 (by omega) (Nat.zero_le _) rfl
      replace X := X.alloc (.cells #[] 82)
      replace K := K.alloc K.size (.cells #[] 82)
      have N1 := (hb.below K).news 0 rs.length (by omega)
      rw [Nat.zero_mul, Nat.add_zero, List.drop_zero] at N1
      have hkc : rs.length ≤ cap := by omega
      go_wp2_with (at_builtin; refine wpList_append_own _ rfl _ _ 47 rfl (w.heap.size + 1) 82 i0 (.agg #[.int .i64 0, .int .i64 0, .int .i64 0]) 3 24 Try.underlying47 hi hz0 hz1 hz2 rfl (by decide) _ _ _ rfl O ⟨b, off, none⟩ (rs.length) cap (cellsA (rs.take (rs.length))) rfl ?qc1 ?qc2 ?qc3 ?qc4 ?qc5 ?qc6 ?_)
      case qc1 => rw [cellsA_len, List.length_take]; omega
      case qc2 => exact N1
      case qc3 => exact cellsA_one _
      case qc4 => unfold maxLen; omega
      case qc5 => omega
      case qc6 => simp; omega
      intro v4 w4 own4 g4 _
      replace X := X.grownUp g4 (fun g e => by have := ownsRow_block O g e; omega)
      replace K := K.grown g4 (by have := K.size; simp; omega) (fun g e => by have := ownsRow_block O g e; omega)
      clear g4 O N1
      go_wp2_with fail
      go_quiet (fail)
      replace X : Trip (w4.drewN nq) w.heap.size 82 (.int .i64 a.1) (.int .i64 a.2.1) (.int .i64 a.2.2) := X
      replace K := below_drewN K nq
      have own4' : w4.ownsRow (w.heap.size + 1) 82 3 v4 rs.length (cellsA rs) := by simpa using own4
      replace own4 : (w4.drewN nq).ownsRow (w.heap.size + 1) 82 3 v4 rs.length (cellsA rs) := own4'
      clear own4'
      generalize w4.drewN nq = w5 at X K own4 ⊢
      obtain ⟨x0, x1, x2, -⟩ := X.cells
      have xl5 := X.lt
      clear xl
      go_wp2_with (at_builtin; refine wpList_append_own _ rfl _ _ 47 rfl (w.heap.size + 1) 82 i0 (.agg #[.int .i64 0, .int .i64 0, .int .i64 0]) 3 24 Try.underlying47 hi hz0 hz1 hz2 rfl (by decide) _ _ _ rfl (own4.alloc _) ⟨w5.heap.size, 0, none⟩ 1 1 (cellsA [a]) rfl ?qc1 ?qc2 ?qc3 ?qc4 ?qc5 ?qc6 ?_)
      case qc1 => rfl
      case qc2 => exact cells3_new _ a _
      case qc3 => exact cellsA_one _
      case qc4 => unfold maxLen; omega
      case qc5 => omega
      case qc6 => simp; omega
      intro v6 w6 own6 g6 _
      have hbk := ownsRow_block own4
      have hs6 := g6.size
      rw [World.size_alloc] at hs6
      replace K := (K.alloc K.size (.cells #[.int .i64 a.1, .int .i64 a.2.1, .int .i64 a.2.2] 82)).grown g6 (by have := K.size; simp; omega) (fun g e => by have := hbk g e; omega)
      clear x0 x1 x2 X g6 own4 hbk
      have N2 := (hb.below K).news (rs.length) (rs.length - (rs.length)) (by omega)
      have hTD : (rs.drop (rs.length)).take (rs.length - (rs.length)) = rs.drop (rs.length) := List.take_of_length_le (by rw [List.length_drop]; omega)
      rw [hTD] at N2
      have hks := K.size
      clear hTD N2
      by_cases hce : cap = rs.length
      · go_wp2_with (at_builtin; refine wpList_append_own _ rfl _ _ 47 rfl (w.heap.size + 1) 82 i0 (.agg #[.int .i64 0, .int .i64 0, .int .i64 0]) 3 24 Try.underlying47 hi hz0 hz1 hz2 rfl (by decide) _ _ _ rfl own6 ⟨b, off, none⟩ 0 (0) [] rfl ?qc1 ?qc2 ?qc3 ?qc4 ?qc5 ?qc6 ?_)
        case qc1 => rfl
        case qc2 => intro j u hj; simp at hj
        case qc3 => intro u hu; simp at hu
        case qc4 => unfold maxLen; omega
        case qc5 => omega
        case qc6 => omega
        intro v8 w8 own8 g8 _
        have hbk := ownsRow_block own6
        replace K := K.grown g8 (by omega) (fun g e => by have := hbk g e; omega)
        clear g8 own6 hbk
        go_wp2
        go_ret
        exact ⟨v8, rfl, ownsRow_eq own8 (by rw [HP.out]; simp; try omega) (by rw [HP.out]; simp only [cellsA_append]), K⟩
      · go_wp2_with (at_builtin; refine wpList_append_own _ rfl _ _ 47 rfl (w.heap.size + 1) 82 i0 (.agg #[.int .i64 0, .int .i64 0, .int .i64 0]) 3 24 Try.underlying47 hi hz0 hz1 hz2 rfl (by decide) _ _ _ rfl own6 ⟨b, off + rs.length * 3, none⟩ 0 (cap - rs.length) [] rfl ?qc1 ?qc2 ?qc3 ?qc4 ?qc5 ?qc6 ?_)
        case qc1 => rfl
        case qc2 => intro j u hj; simp at hj
        case qc3 => intro u hu; simp at hu
        case qc4 => unfold maxLen; omega
        case qc5 => omega
        case qc6 => omega
        intro v8 w8 own8 g8 _
        have hbk := ownsRow_block own6
        replace K := K.grown g8 (by omega) (fun g e => by have := hbk g e; omega)
        clear g8 own6 hbk
        go_wp2
        go_ret
        exact ⟨v8, rfl, ownsRow_eq own8 (by rw [HP.out]; simp; try omega) (by rw [HP.out]; simp only [cellsA_append]), K⟩

end Go.Proofs.Ytagaildnfbegkaa
