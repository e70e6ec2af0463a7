/-
  What impl.lowFor, (impl.Hier).rungs and its closure do.
-/
import Derived.Test.YtagaildnfbegkabClimbIm
import Derived.Maps.AppendAt
import Derived.Test.YtagaildnfbegkabPtrShelf
namespace Go.Proofs.Ytagaildnfbegkab
open Go.RowKit Go.Deep Go.Maps
open Go.Sort (SWO PermIn SortedIn ahead grow putRow mapBlock onCells Holds)

/-- Two numbers held against each other. -/
def cpH (x y : Int) : Int := if x < y then -1 else if y < x then 1 else 0
theorem cpH_neg {x y : Int} : cpH x y < 0 ↔ x < y := by unfold cpH; split <;> (try split) <;> omega
theorem compare_intH (x y : Int) (w : World) : Calls Try.prog 75 #[.int .i64 x, .int .i64 y] w fun e w' => e = .returned (.int .i64 (cpH x y)) ∧ w = w' := by
  unfold cpH
  by_cases h : x < y
  · rw [if_pos h]
    go_enter Try.func75, Try.ntmps75
    go_wp2
    go_ret
    exact ⟨rfl, rfl⟩
  · rw [if_neg h]
    by_cases h2 : y < x
    · rw [if_pos h2]
      go_enter Try.func75, Try.ntmps75
      go_wp2
      go_ret
      exact ⟨rfl, rfl⟩
    · rw [if_neg h2]
      go_enter Try.func75, Try.ntmps75
      go_wp2
      go_ret
      exact ⟨rfl, rfl⟩

def encP (b off : Nat) (i : Nat) : Value := .pointer (some ⟨b, off + i * 4, none⟩)

theorem lowFor_any (up : Bool) (s : Int) (b o : Nat) (f t : Int) (w : World) (c0 : w.cell? ⟨b, o, none⟩ = some (.int .i64 f)) (c1 : w.cell? ⟨b, o + 1, none⟩ = some (.int .i64 t)) :
    Calls Try.prog 66 #[climbV up s, .pointer (some ⟨b, o, none⟩)] w fun e w' => e = .returned (.int .i64 (if up then f else t)) ∧ ∃ k, w' = w.drewN k := by
  have HE := Lib.hid (endsFor_any up s b o f t w c0 c1)
  generalize (if up = true then f else t) = x at HE ⊢
  generalize (if up = true then t else f) = y at HE
  go_enter Try.func66, Try.ntmps66
  go_wp2_with fail
  refine HE.out.mono ?_; rintro e w1 ⟨rfl, k, rfl⟩
  go_wp2
  go_ret
  exact ⟨rfl, k, rfl⟩

/-- What the closure reads: the climb's box, the hierarchy's box. -/
abbrev RuS (cb hb : Nat) (c : Value) (u v : Value) (w : World) : Prop := w.cell? ⟨cb, 0, none⟩ = some c ∧ w.cell? ⟨hb, 0, none⟩ = some u ∧ w.cell? ⟨hb, 1, none⟩ = some v

set_option maxRecDepth 100000 in
set_option maxHeartbeats 4000000 in
theorem rungs1_any (up : Bool) (s : Int) (cb hb b off ca cc : Nat) (A : Option Addr) (zs : List Int) (rs : List A4) (i j : Nat) (w : World) (hi : i < rs.length) (hj : j < rs.length) (hk : hok zs.length rs) (ha : IsInts w A zs) (hs : IsHs w (some ⟨b, off, none⟩) rs)
    (R : RuS cb hb (climbV up s) (.slice A zs.length ca) (.slice (some ⟨b, off, none⟩) rs.length cc) w) :
    Calls Try.prog 74 #[encP b off i, encP b off j, .pointer (some ⟨cb, 0, none⟩), .pointer (some ⟨hb, 0, none⟩)] w fun e w' => e = .returned (.int .i64 (cpH (zg zs (lw rs up i)) (zg zs (lw rs up j)))) ∧ ∃ k, w' = w.drewN k := by
  obtain ⟨i1, i2, -, -, -⟩ := hok_at hk up hi
  obtain ⟨j1, j2, -, -, -⟩ := hok_at hk up hj
  obtain ⟨b', off', e, -, a0, a1, -, -⟩ := hs.at_ hi
  cases e
  obtain ⟨b', off', e, -, d0, d1, -, -⟩ := hs.at_ hj
  cases e
  obtain ⟨rb, ro, rfl, -, r0⟩ := ha.at_ i2
  obtain ⟨rb', ro', er, -, r1⟩ := ha.at_ j2
  cases er
  obtain ⟨g0, g1, g2⟩ := R
  have HI : Hid ((if up then (hcg rs i).1 else (hcg rs i).2.1) = ((lw rs up i : Nat) : Int)) := Lib.hid (by rw [← i1]; rfl)
  have HJ : Hid ((if up then (hcg rs j).1 else (hcg rs j).2.1) = ((lw rs up j : Nat) : Int)) := Lib.hid (by rw [← j1]; rfl)
  have HCI := Lib.hid (fun V (e : ∃ k, V = w.drewN k) => lowFor_any up s b (off + i * 4) (hcg rs i).1 (hcg rs i).2.1 V (by obtain ⟨k, rfl⟩ := e; exact a0) (by obtain ⟨k, rfl⟩ := e; exact a1))
  have HCJ := Lib.hid (fun V (e : ∃ k, V = w.drewN k) => lowFor_any up s b (off + j * 4) (hcg rs j).1 (hcg rs j).2.1 V (by obtain ⟨k, rfl⟩ := e; exact d0) (by obtain ⟨k, rfl⟩ := e; exact d1))
  rw [HI.out] at HCI
  rw [HJ.out] at HCJ
  clear i1 j1 a0 a1 d0 d1 HI HJ
  generalize zg zs (lw rs up i) = x at r0 ⊢
  generalize zg zs (lw rs up j) = y at r1 ⊢
  generalize lw rs up i = F at *
  generalize lw rs up j = T at *
  have hFi : (F : Int) < zs.length := by omega
  have hTi : (T : Int) < zs.length := by omega
  unfold encP
  generalize off + i * 4 = oi at HCI ⊢
  generalize off + j * 4 = oj at HCJ ⊢
  go_enter Try.func74, Try.ntmps74
  go_wp2_with fail
  refine wp_region_quiet_lit (by kernel_rfl) (by kernel_rfl) ?_
  repeat (go_big_quiet_step (fail))
  go_big_quiet_want
  go_big_quiet_op
  go_big_quiet_call ((go_at_call 66; refine (HCI.out _ ⟨_, rfl⟩).mono ?_; rintro e w' ⟨rfl, k, rfl⟩; exact ⟨rfl, _, by rw [World.drewN_drewN]⟩))
  repeat (go_big_quiet_step (fail))
  go_big_quiet_want
  go_big_quiet_op
  go_big_quiet_call ((go_at_call 66; refine (HCJ.out _ ⟨_, rfl⟩).mono ?_; rintro e w' ⟨rfl, k, rfl⟩; exact ⟨rfl, _, by rw [World.drewN_drewN]⟩))
  repeat (go_big_quiet_step (fail))
  refine wpQuiet_nil ?_
  intro _ hw'
  obtain ⟨nq, hw''⟩ := hw'
  subst hw''
  obtain ⟨nq2, hnq⟩ : ∃ nq2, nq2 = nq := ⟨_, rfl⟩
  rw [← hnq]
  clear hnq nq
  go_wp2_with fail
  go_quiet ((go_at_call 75; refine (compare_intH x y _).mono ?_; rintro e w' ⟨rfl, rfl⟩; exact ⟨rfl, _, rfl⟩))
  go_wp2
  go_ret
  exact ⟨rfl, nq2 + nq, by rw [World.drewN_drewN]⟩

/-- How the sort holds two arcs against each other. -/
def cfH (zs : List Int) (rs : List A4) (up : Bool) {m : Nat} (x y : Fin (m + 1)) : Int := cpH (zg zs (lw rs up x.val)) (zg zs (lw rs up y.val))
theorem swoH (zs : List Int) (rs : List A4) (up : Bool) (m : Nat) : SWO (ltOf (cfH zs rs up (m := m))) where
  irrefl x := by unfold ltOf cfH; rw [decide_eq_false_iff_not, cpH_neg]; omega
  trans x y z h1 h2 := by unfold ltOf cfH at *; rw [decide_eq_true_eq, cpH_neg] at *; omega
  ntrans x y z h1 h2 := by unfold ltOf cfH at *; rw [decide_eq_false_iff_not, cpH_neg] at *; omega

/-- What the two boxes hold is kept by whatever turns the row alone. -/
theorem sortW_cell {α : Type} [Inhabited α] {enc : α → Value} {w : World} {g off m : Nat} {d : Array α} {os : Array Obj} {b i : Nat} {v : Value} (h : w.cell? ⟨b, i, none⟩ = some v) (hb : b ≠ g) : (sortWorld enc w g off m d os).cell? ⟨b, i, none⟩ = some v := by
  have hl : b < w.heap.size := by simpa using World.block_lt_of_cell? w _ h
  have e : (sortWorld enc w g off m d os).heap[b]? = w.heap[b]? := by
    unfold sortWorld
    rw [Go.Sort.heap_grow_old _ _ (by simpa using hl)]
    simp [putRow, mapBlock, ahead, Array.getElem?_modify, Ne.symm hb]
  exact (World.cell?_of_block (a := ⟨b, i, none⟩) e).trans h

theorem sortW_size {α : Type} [Inhabited α] {enc : α → Value} {w : World} {g off m : Nat} {d : Array α} {os : Array Obj} : w.heap.size ≤ (sortWorld enc w g off m d os).heap.size := by
  simp [sortWorld, putRow, mapBlock, ahead, Go.Sort.grow]

set_option maxRecDepth 100000 in
/-- slices.SortFunc over a row of the call's own that holds pointers to arcs. -/
theorem sortPtr_any (up : Bool) (s : Int) (cb hb b off ca cc g cap : Nat) (A : Option Addr) (zs : List Int) (rs : List A4) (L : List Nat) (w : World) (hm : rs.length ≤ 1048576) (hL : L.length ≤ rs.length) (hLm : ∀ i ∈ L, i < rs.length) (hk : hok zs.length rs) (hg : g < w.heap.size)
    (hcb : cb < g) (hhb : hb < g) (ha : IsInts w A zs) (hs : IsHs w (some ⟨b, off, none⟩) rs) (haB : ∀ a, A = some a → a.block < g) (hbB : b < g)
    (R : RuS cb hb (climbV up s) (.slice A zs.length ca) (.slice (some ⟨b, off, none⟩) rs.length cc) w) (h0 : 0 < L.length)
    (cur : Array Value) (hcur : w.heap[g]? = some (.cells cur 98 (0, 0))) (htake : cur.toList.take L.length = L.map (encP b off)) (hsz : L.length ≤ cur.size) :
    Calls Try.prog 73 #[.slice (some ⟨g, 0, none⟩) L.length cap, .func (.func 74) #[] #[.pointer (some ⟨cb, 0, none⟩), .pointer (some ⟨hb, 0, none⟩)]] w fun e w' => e = .returned (.tuple #[]) ∧ ∃ L' : List Nat, L'.Perm L ∧ (∀ i j, i < j → j < L'.length → zg zs (lw rs up (L'.getD i 0)) ≤ zg zs (lw rs up (L'.getD j 0))) ∧ (∀ k, k < L'.length → w'.cell? ⟨g, k, none⟩ = some (encP b off (L'.getD k 0))) ∧ Below g w w' := by
  obtain ⟨m, hm'⟩ : ∃ m, rs.length = m + 1 := ⟨rs.length - 1, by omega⟩
  let enc : Fin (m + 1) → Value := fun i => encP b off i.val
  let d : List (Fin (m + 1)) := L.attach.map fun x => ⟨x.val, by have := hLm x.val x.property; omega⟩
  have hd : d.map Fin.val = L := by simp [d]
  have hdl : d.length = L.length := by rw [← hd]; simp
  have hat : ∀ j, j < L.length → w.cell? ⟨g, j, none⟩ = some (encP b off (L.getD j 0)) := fun j hj => by
    rw [cell_of_block hcur]
    have e : (cur.toList.take L.length)[j]? = (L.map (encP b off))[j]? := by rw [htake]
    rw [List.getElem?_take, if_pos hj, Array.getElem?_toList] at e
    rw [e]; simp [hj]
  have hdj : ∀ j, j < L.length → enc (d.toArray[j]!) = encP b off (L.getD j 0) := fun j hj => by
    have h1 : d.toArray[j]! = d[j]'(by omega) := by simp [hdl, hj]
    have h2 : (d[j]'(by omega)).val = L.getD j 0 := by
      have : (d.map Fin.val)[j]'(by simp; omega) = L[j] := by simp only [hd]
      rw [List.getElem_map] at this
      rw [this]; simp [hj]
    rw [h1]; show encP b off _ = _; rw [h2]
  have hH : Holds enc w g 0 d.toArray := fun j hj => by
    have hj' : j < L.length := by simpa [hdl] using hj
    rw [Nat.zero_add, hat j hj', hdj j hj']
    exact ⟨rfl, frozen_of_block hcur⟩
  have hcmp : CmpLays1 Try.prog 74 #[.pointer (some ⟨cb, 0, none⟩), .pointer (some ⟨hb, 0, none⟩)] enc (cfH zs rs up) g 0 d.toArray.size w := fun mm os dk _ x y => by
    have R' : RuS cb hb (climbV up s) (.slice A zs.length ca) (.slice (some ⟨b, off, none⟩) rs.length cc) (sortWorld enc w g 0 mm dk os) := ⟨sortW_cell R.1 (by omega), sortW_cell R.2.1 (by omega), sortW_cell R.2.2 (by omega)⟩
    have ha' : IsInts (sortWorld enc w g 0 mm dk os) A zs := fun hp => by
      obtain ⟨q, o, e, hq, hc⟩ := ha hp
      have := haB _ e
      simp at this
      exact ⟨q, o, e, Nat.lt_of_lt_of_le hq sortW_size, fun i hi => sortW_cell (hc i hi) (by omega)⟩
    have hs' : IsHs (sortWorld enc w g 0 mm dk os) (some ⟨b, off, none⟩) rs := fun hp => by
      obtain ⟨q, o, e, hq, hc⟩ := hs hp
      cases e
      exact ⟨b, off, rfl, Nat.lt_of_lt_of_le hq sortW_size, fun i hi => ⟨sortW_cell (hc i hi).1 (by omega), sortW_cell (hc i hi).2.1 (by omega), sortW_cell (hc i hi).2.2.1 (by omega), sortW_cell (hc i hi).2.2.2 (by omega)⟩⟩
    refine (rungs1_any up s cb hb b off ca cc A zs rs x.val y.val _ (by omega) (by omega) hk ha' hs' R').mono ?_
    rintro e w' ⟨rfl, k, rfl⟩
    exact ⟨rfl, k, #[], (Go.Sort.grow_empty _).symm⟩
  have h := Any.slices_SortFunc Try.laysPtr enc (fun _ => rfl) (cfH zs rs up) (swoH zs rs up m) 74 #[.pointer (some ⟨cb, 0, none⟩), .pointer (some ⟨hb, 0, none⟩)] g 0 cap d.toArray w (enters_of Try.func74 (by kernel_rfl) rfl) hcmp hH hg (by simp [hdl]; omega)
  have e : d.toArray.size = L.length := by simp [hdl]
  rw [e] at h
  refine Calls.mono h fun e w' ⟨he, d', n, os, hp, hsd, hw⟩ => ?_
  have hs2 : d'.size = L.length := by have := hp.1; simpa [hdl] using this
  have hpm : d'.toList.Perm d := by
    have := hp.2.2
    rw [show d'.extract 0 L.length = d' by rw [← hs2]; simp, show d.toArray.extract 0 L.length = d.toArray by rw [← hdl]; simp] at this
    simpa using this
  have hgd : ∀ k (hk : k < d'.size), (d'.toList.map Fin.val).getD k 0 = (d'[k]'hk).val := fun k hk => by simp [hk]
  refine ⟨he, d'.toList.map Fin.val, by rw [← hd]; exact hpm.map _, fun i j hij hj => ?_, fun k hk => ?_, ?_⟩
  · have hj' : j < d'.size := by simpa using hj
    have q := hsd i j (Nat.zero_le _) hij (by omega)
    unfold ltOf cfH at q
    rw [decide_eq_false_iff_not, cpH_neg] at q
    rw [hgd i (by omega), hgd j hj']
    rw [getElem!_pos d' i (by omega), getElem!_pos d' j hj'] at q
    omega
  · have hk' : k < d'.size := by simpa using hk
    rw [hgd k hk', hw]
    have hb' : (sortWorld enc w g 0 n d' os).heap[g]? = some (.cells (Go.Sort.putCells enc 0 d' cur) 98 (0, 0)) := by
      unfold sortWorld
      rw [Go.Sort.heap_grow_old _ _ (by simpa using hg)]
      simp [putRow, mapBlock, ahead, Array.getElem?_modify, hcur, onCells]
    rw [cell_of_block hb']
    simp [Go.Sort.putCells, hk', show k < cur.size by omega, enc]
  · rw [hw]
    refine ⟨rfl, rfl, rfl, by simp [sortWorld, putRow, mapBlock], fun k hk => ?_⟩
    unfold sortWorld
    rw [Go.Sort.heap_grow_old _ _ (by simp; omega)]
    simp [putRow, mapBlock, ahead, Array.getElem?_modify, show ¬ g = k by omega]

end Go.Proofs.Ytagaildnfbegkab
