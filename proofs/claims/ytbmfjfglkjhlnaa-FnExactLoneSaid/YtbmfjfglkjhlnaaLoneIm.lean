/-
  What slices.IndexFunc and slices.DeleteFunc do to arcs, where the closure of impl.Lone is handed over; the copy of a network; what impl.Lone computes.
-/
import Derived.Test.YtbmfjfglkjhlnaaLoneSp
import Derived.Deep.Upon
namespace Go.Proofs.Ytbmfjfglkjhlnaa
open Go.RowKit Go.Deep Go.Maps

/-- The closure: whether an arc begins or ends at v. -/
theorem loneFn_any (vb : Nat) (v F T Ln : Int) (W : World) (c : W.cell? ⟨vb, 0, none⟩ = some (.int .i64 v)) :
    Calls Try.prog 89 #[.agg #[.int .i64 F, .int .i64 T, .int .i64 Ln], .pointer (some ⟨vb, 0, none⟩)] W fun e w' => e = .returned (.bool (!loneB v (F, T, Ln))) ∧ Below W.heap.size W w' := by
  have K := below1 W (.cells #[.int .i64 F, .int .i64 T, .int .i64 Ln] 80)
  obtain ⟨a0, a1, a2⟩ := arc_new W F T Ln 80
  have cv := cell_under K c
  by_cases hF : F = v
  · have HB : Hid ((!loneB v (F, T, Ln)) = true) := Lib.hid (by unfold loneB; simp [hF])
    have hFb : (F == v) = true := by simpa using hF
    clear hF
    go_enter Try.func89, Try.ntmps89
    go_wp2
    go_ret
    exact ⟨retB HB.out.symm, K⟩
  · have hFb : (F == v) = false := by simpa using hF
    by_cases hT : T = v
    · have HB : Hid ((!loneB v (F, T, Ln)) = true) := Lib.hid (by unfold loneB; simp [hT])
      have hTb : (T == v) = true := by simpa using hT
      clear hF hT
      go_enter Try.func89, Try.ntmps89
      go_wp2
      go_ret
      exact ⟨retB HB.out.symm, K⟩
    · have HB : Hid ((!loneB v (F, T, Ln)) = false) := Lib.hid (by
        have h1 : (F != v) = true := by simpa using hF
        have h2 : (T != v) = true := by simpa using hT
        unfold loneB; rw [h1, h2]; rfl)
      have hTb : (T == v) = false := by simpa using hT
      clear hF hT
      go_enter Try.func89, Try.ntmps89
      go_wp2
      go_ret
      exact ⟨retB HB.out.symm, K⟩

/-- What IndexFunc gives: the first arc that begins or ends at v. -/
def IdxLone (rs : List A3) (v i : Int) : Prop := (i = -1 ∧ ∀ j, j < rs.length → loneB v (arg rs j) = true) ∨ ∃ I : Nat, i = (I : Int) ∧ I < rs.length ∧ loneB v (arg rs I) = false ∧ ∀ j, j < I → loneB v (arg rs j) = true

set_option maxRecDepth 100000 in
theorem idxLone_any (A : Option Addr) (ca : Nat) (rs : List A3) (vb : Nat) (v : Int) (w : World) (hn : rs.length ≤ 1048576) (h : IsArcs w A rs) (c : w.cell? ⟨vb, 0, none⟩ = some (.int .i64 v)) :
    Calls Try.prog 119 #[.slice A rs.length ca, .func (.func 89) #[] #[.pointer (some ⟨vb, 0, none⟩)]] w fun e w' => ∃ i : Int, e = .returned (.int .i64 i) ∧ IdxLone rs v i ∧ Below w.heap.size w w' := by
  go_enter Try.func119, Try.ntmps119
  go_wp2
  go_loopw [8] (fun i wr => ∃ k : Nat, k ≤ rs.length ∧ i = .int .i64 k ∧ Hid (∀ j, j < k → loneB v (arg rs j) = true) ∧ Below w.heap.size w wr) (fun i _ => rs.length - (intOf i).toNat)
  case atStart => exact ⟨0, by omega, rfl, Lib.hid fun j hj => by omega, Below.refl _ _⟩
  case round =>
    obtain ⟨k, hk, rfl, H, K⟩ := hrel
    by_cases hlt : k < rs.length
    · obtain ⟨b, off, rfl, hb, c0, c1, c2⟩ := (h.below K).at_ hlt
      have hkl2 : (k : Int) < rs.length := by omega
      have HP := Lib.hid (fun V (k : Below wr.heap.size wr V) => cell_under (K.trans (k.mono K.size)) c)
      have cv := cell_under K c
      have HR : Hid (loneB v (arg rs k) = false → IdxLone rs v (k : Int)) := Lib.hid (fun e => .inr ⟨k, rfl, hlt, e, H.out⟩)
      have HS : Hid (loneB v (arg rs k) = true → ∀ j, j < k + 1 → loneB v (arg rs j) = true) := Lib.hid (fun e j hj => by
        by_cases e2 : j = k
        · rw [e2]; exact e
        · exact H.out j (by omega))
      generalize arg rs k = a at c0 c1 c2 HR HS
      obtain ⟨F, T, Ln⟩ := a
      simp only at c0 c1 c2
      cases hB : loneB v (F, T, Ln) with
      | false =>
        have HRR := Lib.hid (HR.out hB)
        have HB : Hid ((!loneB v (F, T, Ln)) = true) := Lib.hid (by rw [hB]; rfl)
        clear hB HR HS H
        go_wp2_with fail
        refine (loneFn_any vb v F T Ln _ cv).mono ?_; rw [HB.out]; rintro e w1 ⟨rfl, b1⟩
        have K1 := K.trans (b1.mono K.size)
        go_wp2
        go_ret
        exact ⟨_, rfl, HRR.out, K1⟩
      | true =>
        have HSS := Lib.hid (HS.out hB)
        have HB : Hid ((!loneB v (F, T, Ln)) = false) := Lib.hid (by rw [hB]; rfl)
        clear hB HR HS H
        go_wp2_with fail
        refine (loneFn_any vb v F T Ln _ cv).mono ?_; rw [HB.out]; rintro e w1 ⟨rfl, b1⟩
        have K1 := K.trans (b1.mono K.size)
        go_wp2
        go_roundw
        case rel => exact ⟨k + 1, by omega, by go_num, HSS, K1⟩
        case measure => simp [intOf]; omega
    · have HP : Hid (IdxLone rs v (-1)) := Lib.hid (.inl ⟨rfl, fun j hj => H.out j (by omega)⟩)
      go_wp2
      go_ret
      exact ⟨_, rfl, HP.out, K⟩

/-- 'clear(s)' of n > 0 arcs. -/
theorem run_clear_arcs (w : World) (b o n c : Nat) (hn : 0 < n) (hc : ∀ j, j < n * 3 → (w.cell? ⟨b, o + j, none⟩).isSome = true) (hf : ∀ j, j < n * 3 → w.frozen? ⟨b, o + j, none⟩ = false) (ty : TypeId) :
    (Builtin.clear_ #[32] ty #[.slice (some ⟨b, o, none⟩) n c]).run Try.prog w = .ok (.tuple #[]) (w.setCells b o (List.replicate (n * 3) (.int .i64 0))) := by
  obtain ⟨i0, hi, hz0, hz1, hz2⟩ := info_parts Try.infoArc
  have hzc : (Builtin.zeroCells (Value.agg #[.int .i64 0, .int .i64 0, .int .i64 0]).cells n).toList = List.replicate (n * 3) (.int .i64 0) := by
    apply List.ext_getElem
    · simp [Builtin.zeroCells, Value.cells]
    · intro i h1 h2
      have h3 : i % 3 = 0 ∨ i % 3 = 1 ∨ i % 3 = 2 := by omega
      rcases h3 with h3 | h3 | h3 <;> simp [Builtin.zeroCells, Value.cells, h3]
  have hst := run_storeCells_cells (P := Try.prog) b o (List.replicate (n * 3) (Value.int .i64 0)) 0 w (by simpa using hc) (by simpa using hf) (by intro v hv'; rw [List.eq_of_mem_replicate hv']; rfl)
  simp only [Nat.add_zero] at hst
  obtain ⟨m, rfl⟩ : ∃ m, n = m + 1 := ⟨n - 1, by omega⟩
  have hv : ∀ w, (zeroValue 80).run Try.prog w = .ok (.agg #[.int .i64 0, .int .i64 0, .int .i64 0]) w := fun w => by simp [zeroValue, typeInfo, hi, hz0]
  simp [Builtin.clear_, run_underlying Try.underlying32, hv, hzc, hst]

/-- Block g alone may have turned, and what is new. -/
structure DelK (g : Nat) (w w' : World) : Prop where
  os : w'.os = w.os
  tape : w'.tape = w.tape
  output : w'.output = w.output
  size : w.heap.size ≤ w'.heap.size
  block : ∀ k, k < w.heap.size → k ≠ g → w'.heap[k]? = w.heap[k]?
theorem DelK.refl (g : Nat) (w : World) : DelK g w w := ⟨rfl, rfl, rfl, Nat.le_refl _, fun _ _ _ => rfl⟩
theorem DelK.below {g : Nat} {w w' w'' : World} (h : DelK g w w') (b : Below w'.heap.size w' w'') : DelK g w w'' := ⟨b.os.trans h.os, b.tape.trans h.tape, b.output.trans h.output, Nat.le_trans h.size b.size, fun k hk hg => (b.block k (Nat.lt_of_lt_of_le hk h.size)).trans (h.block k hk hg)⟩
theorem DelK.set {g : Nat} {w w' : World} (h : DelK g w w') (i : Nat) (x : Value) : DelK g w (w'.setCell ⟨g, i, none⟩ x) := ⟨h.os, h.tape, h.output, by simpa [World.setCell] using h.size, fun k hk hg => (Below.heap_setCell _ _ _ _ (by simpa using hg)).trans (h.block k hk hg)⟩
theorem DelK.setCells {g : Nat} {w : World} : ∀ (vs : List Value) (o : Nat) {w' : World}, DelK g w w' → DelK g w (w'.setCells g o vs)
  | [], _, _, h => h
  | v :: r, o, _, h => DelK.setCells r (o + 1) (h.set o v)
theorem DelK.cell {g : Nat} {w w' : World} (h : DelK g w w') {b o : Nat} {x : Value} (hb : b ≠ g) (c : w.cell? ⟨b, o, none⟩ = some x) : w'.cell? ⟨b, o, none⟩ = some x := by
  have hl : b < w.heap.size := by simpa using World.block_lt_of_cell? w _ c
  exact (World.cell?_of_block (w := w) (a := ⟨b, o, none⟩) (h.block b hl hb)).trans c
theorem OwnAt.setBeyond {w : World} {g : Nat} {t : TypeId} {off N : Nat} {f : Nat → Int} (h : OwnAt w g t off N f) {i : Nat} (hi : off + N ≤ i) (x : Value) : OwnAt (w.setCell ⟨g, i, none⟩ x) g t off N f := by
  obtain ⟨cur, h1, h2, h3⟩ := h
  refine ⟨cur.setIfInBounds i x, block_set (w := w) (c := g) (i := i) x h1, by simpa using h2, fun j hj => ?_⟩
  rw [Array.getElem?_setIfInBounds, if_neg (by omega)]; exact h3 j hj
theorem OwnAt.setCells {g : Nat} {t : TypeId} {off N : Nat} {f : Nat → Int} : ∀ (vs : List Value) (o : Nat) {w : World}, off + N ≤ o → OwnAt w g t off N f → OwnAt (w.setCells g o vs) g t off N f
  | [], _, _, _, h => h
  | v :: r, o, _, ho, h => OwnAt.setCells r (o + 1) (by omega) (h.setBeyond ho v)
theorem OwnAt.less {w : World} {g : Nat} {t : TypeId} {off N M : Nat} {f : Nat → Int} (h : OwnAt w g t off N f) (hM : M ≤ N) : OwnAt w g t off M f := by
  obtain ⟨cur, h1, h2, h3⟩ := h
  exact ⟨cur, h1, by omega, fun i hi => h3 i (by omega)⟩

theorem arg_snoc (L : List A3) (a : A3) (k : Nat) : arg (L ++ [a]) k = if k < L.length then arg L k else if k = L.length then a else (0, 0, 0) := by
  unfold arg
  rw [List.getD_eq_getElem?_getD, List.getD_eq_getElem?_getD]
  by_cases h : k < L.length
  · rw [if_pos h, List.getElem?_append_left h]
  · rw [if_neg h, List.getElem?_append_right (by omega)]
    by_cases e : k = L.length
    · subst e; simp
    · rw [if_neg e, List.getElem?_eq_none (by simp; omega)]; rfl
theorem flatA_snoc (L : List A3) (a : A3) {i q : Nat} (hi : L.length = i) : flatA (L ++ [a]) q = if q < i * 3 then flatA L q else if q = i * 3 then a.1 else if q = i * 3 + 1 then a.2.1 else if q = i * 3 + 2 then a.2.2 else 0 := by
  subst hi
  by_cases h : q < L.length * 3
  · have e : arg (L ++ [a]) (q / 3) = arg L (q / 3) := by rw [arg_snoc, if_pos (by omega)]
    rw [if_pos h]; unfold flatA; rw [e]
  · rw [if_neg h]
    by_cases e : q / 3 = L.length
    · have e2 : arg (L ++ [a]) (q / 3) = a := by rw [arg_snoc, if_neg (by omega), if_pos e]
      unfold flatA
      rw [e2]
      rcases (show q % 3 = 0 ∨ q % 3 = 1 ∨ q % 3 = 2 by omega) with r | r | r
      · rw [if_pos r, if_pos (show q = L.length * 3 by omega)]
      · rw [if_neg (show ¬ q % 3 = 0 by omega), if_pos r, if_neg (show ¬ q = L.length * 3 by omega), if_pos (show q = L.length * 3 + 1 by omega)]
      · rw [if_neg (show ¬ q % 3 = 0 by omega), if_neg (show ¬ q % 3 = 1 by omega), if_neg (show ¬ q = L.length * 3 by omega), if_neg (show ¬ q = L.length * 3 + 1 by omega), if_pos (show q = L.length * 3 + 2 by omega)]
    · have e2 : arg (L ++ [a]) (q / 3) = (0, 0, 0) := by rw [arg_snoc, if_neg (by omega), if_neg e]
      unfold flatA
      rw [e2, if_neg (show ¬ q = L.length * 3 by omega), if_neg (show ¬ q = L.length * 3 + 1 by omega), if_neg (show ¬ q = L.length * 3 + 2 by omega)]
      simp
theorem flatA_take (rs : List A3) {I q : Nat} (hI : I ≤ rs.length) (hq : q < I * 3) : flatA (rs.take I) q = flatA rs q := by
  have e : arg (rs.take I) (q / 3) = arg rs (q / 3) := by
    unfold arg; rw [List.getD_eq_getElem?_getD, List.getD_eq_getElem?_getD, List.getElem?_take, if_pos (by omega)]
  unfold flatA; rw [e]
theorem loneL_all {rs : List A3} {v : Int} (h : ∀ j, j < rs.length → loneB v (arg rs j) = true) : loneL rs v = rs := by
  unfold loneL; rw [List.filter_eq_self]
  intro a ha
  obtain ⟨j, hj, rfl⟩ := mem_arg ha
  exact h j hj
theorem arg_take {rs : List A3} {I j : Nat} (hj : j < I) : arg (rs.take I) j = arg rs j := by
  unfold arg; rw [List.getD_eq_getElem?_getD, List.getD_eq_getElem?_getD, List.getElem?_take, if_pos hj]
/-- How a row stands while arcs are deleted: j are looked at. -/
def DelF (rs : List A3) (v : Int) (i j : Nat) (f : Nat → Int) : Prop := (loneL (rs.take j) v).length = i ∧ (∀ q, q < i * 3 → f q = flatA (loneL (rs.take j) v) q) ∧ ∀ q, j * 3 ≤ q → f q = flatA rs q
theorem DelF.start {rs : List A3} {v : Int} {I : Nat} (hI : I < rs.length) (h0 : loneB v (arg rs I) = false) (h : ∀ j, j < I → loneB v (arg rs j) = true) : DelF rs v I (I + 1) (flatA rs) := by
  have e : loneL (rs.take (I + 1)) v = rs.take I := by
    rw [loneL_take hI, if_neg (by rw [h0]; simp)]
    exact loneL_all (fun j hj => by rw [List.length_take] at hj; rw [arg_take (by omega)]; exact h j (by omega))
  refine ⟨by rw [e, List.length_take]; omega, fun q hq => by rw [e, flatA_take rs (by omega) hq], fun q _ => rfl⟩
theorem DelF.skip {rs : List A3} {v : Int} {i j : Nat} {f : Nat → Int} (h : DelF rs v i j f) (hj : j < rs.length) (h0 : loneB v (arg rs j) = false) : DelF rs v i (j + 1) f := by
  have e : loneL (rs.take (j + 1)) v = loneL (rs.take j) v := by rw [loneL_take hj, if_neg (by rw [h0]; simp)]
  exact ⟨by rw [e]; exact h.1, fun q hq => by rw [e]; exact h.2.1 q hq, fun q hq => h.2.2 q (by omega)⟩
theorem DelF.keep {rs : List A3} {v : Int} {i j : Nat} {f : Nat → Int} (h : DelF rs v i j f) (hj : j < rs.length) (hij : i ≤ j) (h0 : loneB v (arg rs j) = true) : DelF rs v (i + 1) (j + 1) (fun q => if q = i * 3 + 2 then (arg rs j).2.2 else if q = i * 3 + 1 then (arg rs j).2.1 else if q = i * 3 then (arg rs j).1 else f q) := by
  have e : loneL (rs.take (j + 1)) v = loneL (rs.take j) v ++ [arg rs j] := by rw [loneL_take hj, if_pos h0]
  refine ⟨by rw [e, List.length_append, h.1]; rfl, fun q hq => ?_, fun q hq => ?_⟩
  · rw [e, flatA_snoc _ _ h.1]
    by_cases hq1 : q < i * 3
    · rw [if_pos hq1]; simp only
      rw [if_neg (by omega), if_neg (by omega), if_neg (by omega)]; exact h.2.1 q hq1
    · rw [if_neg hq1]; simp only
      rcases (show q = i * 3 ∨ q = i * 3 + 1 ∨ q = i * 3 + 2 by omega) with r | r | r
      · rw [if_neg (by omega), if_neg (by omega), if_pos r, if_pos r]
      · rw [if_neg (by omega), if_pos r, if_neg (by omega), if_pos r]
      · rw [if_pos r, if_neg (by omega), if_neg (by omega), if_pos r]
  · simp only
    rw [if_neg (by omega), if_neg (by omega), if_neg (by omega)]; exact h.2.2 q (by omega)

set_option maxRecDepth 100000 in
set_option maxHeartbeats 4000000 in
/-- Arcs are deleted in a row of one's own. -/
theorem deleteLone_any (g off cap : Nat) (rs : List A3) (vb : Nat) (v : Int) (w : World) (hn : rs.length ≤ 1048576) (h0 : 0 < rs.length) (hcap : rs.length ≤ cap) (O : OwnAt w g 80 off (rs.length * 3) (flatA rs)) (c : w.cell? ⟨vb, 0, none⟩ = some (.int .i64 v)) (hvb : vb ≠ g) :
    Calls Try.prog 88 #[.slice (some ⟨g, off, none⟩) rs.length cap, .func (.func 89) #[] #[.pointer (some ⟨vb, 0, none⟩)]] w fun e w' => e = .returned (.slice (some ⟨g, off, none⟩) (loneL rs v).length cap) ∧ OwnAt w' g 80 off ((loneL rs v).length * 3) (flatA (loneL rs v)) ∧ DelK g w w' := by
  have hA : IsArcs w (some ⟨g, off, none⟩) rs := fun _ => ⟨g, off, rfl, O.lt, fun i hi => ⟨by rw [O.cell (i := i * 3) (by omega), flatA_0], by rw [show off + i * 3 + 1 = off + (i * 3 + 1) by omega, O.cell (i := i * 3 + 1) (by omega), flatA_1], by rw [show off + i * 3 + 2 = off + (i * 3 + 2) by omega, O.cell (i := i * 3 + 2) (by omega), flatA_2]⟩⟩
  obtain ⟨LL, hLL⟩ : ∃ LL, LL = loneL rs v := ⟨_, rfl⟩
  rw [← hLL]
  have HLL := Lib.hid hLL
  clear hLL
  go_enter Try.func88, Try.ntmps88
  go_wp2_with fail
  refine (idxLone_any (some ⟨g, off, none⟩) cap rs vb v _ hn hA c).mono ?_; rintro e w1 ⟨i0, rfl, HI, b1⟩
  have O1 := O.below b1
  have D1 := (DelK.refl g w).below b1
  have HC := Lib.hid (fun V (d : DelK g w V) => d.cell hvb c)
  clear O b1 hA
  rcases HI with ⟨rfl, hall⟩ | ⟨I, rfl, hI, hIno, hIall⟩
  · have HE : Hid (LL = rs) := Lib.hid (by rw [HLL.out]; exact loneL_all hall)
    clear hall
    go_wp2
    go_ret
    rw [HE.out]
    exact ⟨rfl, O1, D1⟩
  · have hIb : ((I : Int) == -1) = false := by rw [beq_eq_false_iff_ne]; omega
    have HF0 := Lib.hid (DelF.start hI hIno hIall)
    clear hIno hIall
    go_wp2
    go_loopw [5, 6] (fun vi vj wr => ∃ (i j : Nat) (f : Nat → Int), i < j ∧ j ≤ rs.length ∧ vi = .int .i64 i ∧ vj = .int .i64 j ∧ Hid (DelF rs v i j f) ∧ OwnAt wr g 80 off (rs.length * 3) f ∧ DelK g w wr) (fun _ j _ => rs.length - (intOf j).toNat)
    case atStart => exact ⟨I, I + 1, _, by omega, by omega, rfl, by go_num, HF0, O1, D1⟩
    case round =>
      clear HF0 O1 D1
      obtain ⟨i, j, f, hij, hj, rfl, rfl, HF, O, D⟩ := hrel
      by_cases hlt : j < rs.length
      · have hjl2 : (j : Int) < rs.length := by omega
        have c0 := O.cell (i := j * 3) (by omega)
        have c1 := O.cell (i := j * 3 + 1) (by omega)
        have c2 := O.cell (i := j * 3 + 2) (by omega)
        rw [HF.out.2.2 _ (by omega)] at c0 c1 c2
        rw [flatA_0] at c0
        rw [flatA_1, ← Nat.add_assoc] at c1
        rw [flatA_2, ← Nat.add_assoc] at c2
        have HSK := Lib.hid (fun h => HF.out.skip hlt h)
        have HKP := Lib.hid (fun h => HF.out.keep hlt (by omega) h)
        generalize arg rs j = a at c0 c1 c2 HSK HKP
        obtain ⟨F, T, Ln⟩ := a
        simp only at c0 c1 c2 HSK HKP
        have kb := below1 wr (.cells #[.int .i64 F, .int .i64 T, .int .i64 Ln] 80)
        have Y := arc_new wr F T Ln 80
        have OB := O.below kb
        have DB := D.below kb
        have cv := HC.out _ DB
        have hOl := O.lt
        have Y' : ArcBox (wr.alloc (.cells #[.int .i64 F, .int .i64 T, .int .i64 Ln] 80)) wr.heap.size F T Ln := Y
        obtain ⟨y0, y1, y2⟩ := Y
        cases hB : loneB v (F, T, Ln) with
        | false =>
          have HN := Lib.hid (HSK.out hB)
          have HB : Hid ((!loneB v (F, T, Ln)) = true) := Lib.hid (by rw [hB]; rfl)
          clear hB HSK HKP HF
          go_wp2_with fail
          refine (loneFn_any vb v F T Ln _ cv).mono ?_; rw [HB.out]; rintro e w2 ⟨rfl, b2⟩
          have O2 := OB.below b2
          have D2 := DB.below b2
          clear O D OB DB y0 y1 y2 c0 c1 c2
          go_wp2
          go_roundw
          case rel => exact ⟨i, j + 1, f, by omega, by omega, rfl, by go_num, HN, O2, D2⟩
          case measure => simp [intOf]; omega
        | true =>
          have HN := Lib.hid (HKP.out hB)
          have HB : Hid ((!loneB v (F, T, Ln)) = false) := Lib.hid (by rw [hB]; rfl)
          clear hB HSK HKP HF
          go_wp2_with fail
          refine (loneFn_any vb v F T Ln _ cv).mono ?_; rw [HB.out]; rintro e w2 ⟨rfl, b2⟩
          have O2 := OB.below b2
          have D2 := DB.below b2
          obtain ⟨z0, z1, z2⟩ := Y'.below b2
          clear O D OB DB y0 y1 y2 c0 c1 c2 Y'
          have hil : i < rs.length := by omega
          have hil2 : (i : Int) < rs.length := by omega
          have e0 := O2.cell (i := i * 3) (by omega)
          have e1 := O2.cell (i := i * 3 + 1) (by omega)
          have e2 := O2.cell (i := i * 3 + 2) (by omega)
          rw [← Nat.add_assoc] at e1 e2
          have g0 := O2.frozen (off + i * 3)
          have g1 := O2.frozen (off + i * 3 + 1)
          have g2 := O2.frozen (off + i * 3 + 2)
          have O3 := ((O2.set (i * 3) F).set (i * 3 + 1) T).set (i * 3 + 2) Ln
          rw [← Nat.add_assoc, ← Nat.add_assoc] at O3
          have D3 := ((D2.set (off + i * 3) (.int .i64 F)).set (off + i * 3 + 1) (.int .i64 T)).set (off + i * 3 + 2) (.int .i64 Ln)
          clear O2 D2
          go_wp2
          go_roundw
          case rel => exact ⟨i + 1, j + 1, _, by omega, by omega, by go_num, by go_num, HN, O3, D3⟩
          case measure => simp [intOf]; omega
      · obtain rfl : j = rs.length := by omega
        have hLi : LL.length = i := by rw [HLL.out]; have := HF.out.1; rw [List.take_length] at this; exact this
        have OF : OwnAt wr g 80 off (i * 3) (flatA LL) := (O.less (by omega)).congr (fun q hq => by have := HF.out.2.1 q hq; rw [List.take_length] at this; rw [HLL.out]; exact this)
        have hcl := fun ty => run_clear_arcs wr g (off + i * 3) (rs.length - i) (cap - i) (by omega) (fun q hq => by
          have := O.cell (i := i * 3 + q) (by omega)
          rw [show off + i * 3 + q = off + (i * 3 + q) by omega, this]; rfl) (fun q _ => O.frozen _) ty
        have OE := OF.setCells (List.replicate ((rs.length - i) * 3) (.int .i64 0)) (off + i * 3) (Nat.le_refl _)
        have DE := D.setCells (List.replicate ((rs.length - i) * 3) (.int .i64 0)) (off + i * 3)
        have hic : i < cap := by omega
        have hil : i < rs.length := by omega
        have HLi := Lib.hid hLi
        generalize wr.setCells g (off + i * 3) (List.replicate ((rs.length - i) * 3) (.int .i64 0)) = WE at hcl OE DE
        clear O D OF hLi HF
        go_wp2
        go_ret
        rw [HLi.out]
        exact ⟨rfl, OE, DE⟩
theorem deleteLone_none (cap : Nat) (rs : List A3) (A : Option Addr) (vb : Nat) (v : Int) (w : World) (h0 : rs.length = 0) (c : w.cell? ⟨vb, 0, none⟩ = some (.int .i64 v)) :
    Calls Try.prog 88 #[.slice A rs.length cap, .func (.func 89) #[] #[.pointer (some ⟨vb, 0, none⟩)]] w fun e w' => e = .returned (.slice A rs.length cap) ∧ Below w.heap.size w w' := by
  go_enter Try.func88, Try.ntmps88
  have H0 := Lib.hid h0
  clear h0
  go_wp2_with fail
  refine (idxLone_any A cap rs vb v _ (by have := H0.out; omega) (fun hp => by have := H0.out; omega) c).mono ?_; rintro e w1 ⟨i0, rfl, HI, b1⟩
  have hi : i0 = -1 := by
    rcases HI with ⟨h, -⟩ | ⟨I, -, h, -⟩
    · exact h
    · have := H0.out; omega
  subst hi
  clear HI
  go_wp2
  go_ret
  exact ⟨rfl, b1⟩

end Go.Proofs.Ytbmfjfglkjhlnaa
