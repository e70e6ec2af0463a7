/-
  What impl.Table computes.
-/
import Derived.Test.YtagaildnfbegkabTabM
import Derived.Test.YtagaildnfbegkabShortest0
import Derived.Test.YtagaildnfbegkabRowsLaw
namespace Go.Proofs.Ytagaildnfbegkab
open Go.RowKit Go.Deep Go.Maps

theorem Try.infoRow : (Try.prog.info? 80).map (fun i => (i.zero, i.size, i.bytes)) = some (some (.agg #[.slice none 0 0]), 1, 24) := by kernel_rfl
def rowCells (A : Nat → Option Addr) (c : Nat → Nat) (m n : Nat) : List Value := (List.range n).map (fun i => .slice (A i) m (c i))
theorem rowCells_succ (A : Nat → Option Addr) (c : Nat → Nat) (m n : Nat) : rowCells A c m (n + 1) = rowCells A c m n ++ [.slice (A n) m (c n)] := by unfold rowCells; rw [List.range_succ, List.map_append]; rfl
theorem rowCells_len (A : Nat → Option Addr) (c : Nat → Nat) (m n : Nat) : (rowCells A c m n).length = n := by simp [rowCells]
theorem rowCells_congr {A B : Nat → Option Addr} {c d : Nat → Nat} {m n : Nat} (h : ∀ i, i < n → A i = B i ∧ c i = d i) : rowCells A c m n = rowCells B d m n := by
  unfold rowCells; apply List.map_congr_left; intro i hi; rw [(h i (List.mem_range.1 hi)).1, (h i (List.mem_range.1 hi)).2]
/-- The rows so far: n rows of m numbers, in memory of the call's own, no two in one block. -/
structure TabS (wr : World) (base : Nat) (v : Value) (n m : Nat) (A : Nat → Option Addr) (c : Nat → Nat) (f : Nat → Nat → Int) : Prop where
  own : wr.ownsRow base 80 1 v n (rowCells A c m n)
  rows : ∀ i, i < n → OwnSl wr base 3 (A i) m (f i)
  sep : ∀ i j, i < n → j < n → i ≠ j → ∀ b, blk (A i) m = some b → blk (A j) m ≠ some b
  apart : ∀ i, i < n → ∀ b, blk (A i) m = some b → v.ownBlock ≠ some b
section
variable {wr w' : World} {base n m : Nat} {v : Value} {A : Nat → Option Addr} {c : Nat → Nat} {f : Nat → Nat → Int}
theorem TabS.below (h : TabS wr base v n m A c f) (b : Below wr.heap.size wr w') : TabS w' base v n m A c f := ⟨ownsRow_below h.own b, fun i hi => (h.rows i hi).below b, h.sep, h.apart⟩
theorem TabS.congr {f' : Nat → Nat → Int} (h : TabS wr base v n m A c f) (e : ∀ i x, i < n → x < m → f i x = f' i x) : TabS wr base v n m A c f' := ⟨h.own, fun i hi hp => by
  obtain ⟨q, o, e1, q1, q2⟩ := h.rows i hi hp
  exact ⟨q, o, e1, q1, q2.congr (fun x hx => e i x hi hx)⟩, h.sep, h.apart⟩
theorem TabS.start (w : World) (base m : Nat) (A : Nat → Option Addr) (c : Nat → Nat) (f : Nat → Nat → Int) : TabS w base (.slice none 0 0) 0 m A c f := ⟨⟨rfl, .inl ⟨rfl, rfl⟩⟩, fun i hi => by omega, fun i j hi => by omega, fun i hi => by omega⟩
set_option maxRecDepth 100000 in
/-- One row more: its block is younger than all that was there at the world wo. -/
theorem TabS.put {wo : World} (h : TabS wo base v n m A c f) (kb : Below wo.heap.size wo wr) (hb : base ≤ wo.heap.size) (hn : n ≤ 20) {B : Option Addr} {d : Nat} {fn : Nat → Int} (hB : OwnSl wr wo.heap.size 3 B m fn) :
    ∃ v' w', (Builtin.append_ #[45, 45] 45 #[v, .slice (some ⟨wr.heap.size, 0, none⟩) 1 1]).run Try.prog (wr.alloc (.cells #[.slice B m d] 80)) = .ok v' w' ∧
      TabS w' base v' (n + 1) m (fun i => if i = n then B else A i) (fun i => if i = n then d else c i) (fun i => if i = n then fn else f i) ∧ (∀ q, q ≤ base → q ≤ wr.heap.size → Below q wr w') ∧ ∃ VB cB, v' = .slice VB (n + 1) cB := by
  obtain ⟨i0, hi, hz0, hz1, hz2⟩ := info_parts Try.infoRow
  have hT := h.below kb
  have ka := below1 wr (.cells #[.slice B m d] 80)
  have cell0 : (wr.alloc (.cells #[.slice B m d] 80)).cell? ⟨wr.heap.size, 0, none⟩ = some (.slice B m d) := cell_of_block (heap_alloc_new _ _)
  obtain ⟨v', w', hr, own', g', -, hob⟩ := run_append_own_at (P := Try.prog) (wr.alloc (.cells #[.slice B m d] 80)) base 45 45 80 i0 (.agg #[.slice none 0 0]) 1 24 Try.underlying45 hi hz0 hz1 hz2 rfl (by decide) v n _ (ownsRow_below hT.own ka) ⟨wr.heap.size, 0, none⟩ 1 1 [.slice B m d] rfl
    (fun j u hj => by
      have hj0 : j = 0 := by have := (List.getElem?_eq_some_iff.1 hj).1; simpa using this
      subst hj0
      have hu : Value.slice B m d = u := by simpa using hj
      rw [Addr.add_lit, ← hu]; exact cell0)
    (fun u hu => by simp at hu; subst hu; rfl) (by unfold maxLen; omega) (by omega) (by rw [World.size_alloc]; have := kb.size; omega)
  have hvo : ∀ g, v.ownBlock = some g → base ≤ g ∧ g < wo.heap.size := fun g e => ⟨ownsRow_block h.own g e, own_lt h.own e⟩
  have hao : ∀ i g, i < n → blk (A i) m = some g → base ≤ g ∧ g < wo.heap.size := fun i g hi e => blk_own (h.rows i hi) e
  have hbo : ∀ g, blk B m = some g → wo.heap.size ≤ g ∧ g < wr.heap.size := fun g e => blk_own hB e
  have hs := kb.size
  have hnew : ∀ g, v'.ownBlock = some g → v.ownBlock = some g ∨ g = wr.heap.size + 1 := fun g e => by
    rcases hob with q | q
    · exact .inl (by rw [← q]; exact e)
    · rw [q, World.size_alloc] at e; injection e with e; exact .inr e.symm
  refine ⟨v', w', hr, ⟨?_, fun i hi' => ?_, fun i j hi' hj' hij b eb => ?_, fun i hi' b eb => ?_⟩, fun q hq1 hq2 => ((Below.refl q wr).trans (ka.mono hq2)).grown g' (by rw [World.size_alloc]; omega) (fun g e => by have := (hvo g e).1; omega), own_formB own'⟩
  · rw [rowCells_succ, if_pos rfl, if_pos rfl, rowCells_congr (B := A) (d := c) (fun i hi' => ⟨if_neg (by omega), if_neg (by omega)⟩)]; exact own'
  · by_cases e : i = n
    · subst e
      simp only [if_pos]
      exact (fun hp => by
        obtain ⟨q, o, e1, h1, h2⟩ := ((hB.below ka).of_block (fun b eb hb2 => g'.block b hb2 (fun e' => by have := (hvo b e'.symm).2; have := (hbo b eb).1; omega))) hp
        exact ⟨q, o, e1, by omega, h2⟩)
    · simp only [if_neg e]
      exact ((hT.rows i (by omega)).below ka).of_block (fun b eb hb2 => g'.block b hb2 (fun e' => h.apart i (by omega) b eb e'.symm))
  · by_cases e : i = n
    · have hj2 : ¬ j = n := fun q => hij (by rw [e, q])
      simp only [if_pos e] at eb
      simp only [if_neg hj2]
      intro ej
      have := (hbo b eb).1
      have := (hao j b (by omega) ej).2
      omega
    · simp only [if_neg e] at eb
      by_cases e2 : j = n
      · simp only [if_pos e2]
        intro ej
        have := (hbo b ej).1
        have := (hao i b (by omega) eb).2
        omega
      · simp only [if_neg e2]
        exact h.sep i j (by omega) (by omega) hij b eb
  · intro ev
    by_cases e : i = n
    · simp only [if_pos e] at eb
      rcases hnew b ev with q | q
      · have := (hvo b q).2; have := (hbo b eb).1; omega
      · have := (hbo b eb).2; omega
    · simp only [if_neg e] at eb
      rcases hnew b ev with q | q
      · exact h.apart i (by omega) b eb q
      · have := (hao i b (by omega) eb).2; omega
end
/-- Rows of the call's own are its answer. -/
def TabMade (w : World) (n m : Nat) (f : Nat → Nat → Int) (e : Ending) (w' : World) : Prop := ∃ R cap, e = .returned (.slice R n cap) ∧ Rows w' w.heap.size w'.heap.size R n m f ∧ Below w.heap.size w w'
theorem tabMade_of {w w' : World} {base n m : Nat} {v : Value} {A : Nat → Option Addr} {c : Nat → Nat} {f : Nat → Nat → Int} (h : TabS w' base v n m A c f) (hb : w.heap.size ≤ base) (k : Below w.heap.size w w') : TabMade w n m f (.returned v) w' := by
  rcases h.own.2 with ⟨h1, h2⟩ | ⟨g, cap, cur, h1, h2, h3, h4, h5, h6, h7⟩
  · subst h1; subst h2; exact ⟨none, 0, rfl, fun hp => by omega, k⟩
  · subst h1
    have hg : g < w'.heap.size := (Array.getElem?_eq_some_iff.1 h3).1
    refine ⟨_, _, rfl, fun hp => ⟨g, 0, A, c, rfl, hg, ⟨by omega, hg⟩, fun i hi => ?_, fun i hi hp2 => ?_, fun i hi b eb => ?_, h.sep⟩, k⟩
    · have e : (cur.toList.take (n * 1))[i]? = (rowCells A c m n)[i]? := by rw [h7]
      rw [List.getElem?_take, if_pos (by omega), Array.getElem?_toList] at e
      have e2 : (rowCells A c m n)[i]? = some (.slice (A i) m (c i)) := by simp [rowCells, hi]
      rw [e2] at e
      rw [Nat.zero_add]
      simp [World.cell?, h3, e]
    · obtain ⟨q, o, e1, q1, q2⟩ := h.rows i hi hp2
      exact ⟨q, o, e1, by omega, q2⟩
    · have q := blk_own (h.rows i hi) eb
      exact ⟨by omega, q.2, fun e' => h.apart i hi b eb (by rw [e']; rfl)⟩

/-- What keeps a table from being made. -/
def tabBad (zs : List Int) (rs : List A4) (fs ts : List Int) : Prop := 20 < fs.length ∨ (0 < ts.length ∧ bksZ zs rs ts = []) ∨ ∃ i, i < fs.length ∧ clZ zs rs true (zg fs i) = []
open Classical in
/-- The number of a table's rows. -/
noncomputable def tabN (zs : List Int) (rs : List A4) (fs ts : List Int) : Nat := if tabBad zs rs fs ts then 0 else fs.length
noncomputable def tabF (zs : List Int) (rs : List A4) (fs ts : List Int) (i x : Nat) : Int := spT (clZ zs rs true (zg fs i)) (bksZ zs rs ts) (bksZ zs rs ts).length x
theorem tabN_bad {zs : List Int} {rs : List A4} {fs ts : List Int} (h : tabBad zs rs fs ts) : tabN zs rs fs ts = 0 := by unfold tabN; rw [if_pos h]
theorem tabN_ok {zs : List Int} {rs : List A4} {fs ts : List Int} (h : ¬ tabBad zs rs fs ts) : tabN zs rs fs ts = fs.length := by unfold tabN; rw [if_neg h]
/-- One row of the program's. -/
theorem row_is {zs : List Int} {rs : List A4} {fs ts : List Int} (hn : zs.length ≤ 1048576) {i : Nat} (hu : clZ zs rs true (zg fs i) ≠ []) (x : Nat) (hx : x < ts.length) :
    zg (stL (meetK (clZ zs rs true (zg fs i)) (bksZ zs rs ts) (bksZ zs rs ts).length) ts.length) x = tabF zs rs fs ts i x := by
  have hb := bksZ_in (zs := zs) (rs := rs) (ts := ts) hn
  have hbk : bkIn zs.length (bksZ zs rs ts) := fun i hi => ⟨(hb i hi).1, (hb i hi).2.2⟩
  have hv : ∀ v, v < zs.length → -1 ≤ zg (clZ zs rs true (zg fs i)) v := fun v hv => by
    rcases clZ_nil_or zs rs true (zg fs i) with e | ⟨-, -, e⟩
    · exact absurd e hu
    · exact (e v hv).1
  rw [stL_at _ hx, stV_is (fun k hk => (meet_mem hbk hv _ (Nat.le_refl _) k hk).1), meet_spT]
  rfl

set_option maxRecDepth 1000000 in
set_option maxHeartbeats 8000000 in
theorem implTable_any (A B C D : Option Addr) (ca cb cc cd : Nat) (zs : List Int) (rs : List A4) (fs ts : List Int) (w : World) (hn : zs.length ≤ 1048576) (hm : rs.length ≤ 1048576) (hf : fs.length ≤ 1048576) (ht : ts.length ≤ 1048576) (ha : IsInts w A zs) (hb : IsHs w B rs) (hc : IsInts w C fs) (hd : IsInts w D ts) :
    Calls Try.prog 28 #[.agg #[.slice A zs.length ca, .slice B rs.length cb], .slice C fs.length cc, .slice D ts.length cd] w (TabMade w (tabN zs rs fs ts) ts.length (tabF zs rs fs ts)) := by
  have q22 : ∀ (w : World) (a : Option Addr) (n c n' c' : Nat), (binOp .eql 22 (.slice a n c) (.slice none n' c')).run Try.prog w = .ok (.bool a.isNone) w := fun w a n c n' c' => Lib.run_eql_slice_nil w _ _ a n c n' c' Try.underlying22
  have X := Pair.new w 30 (.slice A zs.length ca) (.slice B rs.length cb)
  have K := below1 w (.cells #[.slice A zs.length ca, .slice B rs.length cb] 30)
  have HBAD : Hid (tabBad zs rs fs ts → tabN zs rs fs ts = 0) := Lib.hid tabN_bad
  have HOKN : Hid (¬ tabBad zs rs fs ts → tabN zs rs fs ts = fs.length) := Lib.hid tabN_ok
  have HBI := Lib.hid (bksZ_in (zs := zs) (rs := rs) (ts := ts) hn)
  have hlq := bksZ_len rs ts hn
  have HROW := Lib.hid (fun i (hu : clZ zs rs true (zg fs i) ≠ []) x (hx : x < ts.length) => row_is (zs := zs) (rs := rs) (fs := fs) (ts := ts) hn hu x hx)
  have HB2 : Hid (20 < ts.length → bksZ zs rs ts = []) := Lib.hid (fun h => bksZ_long (by omega))
  obtain ⟨x0, x1, -, -⟩ := X.cells
  generalize tabF zs rs fs ts = F at *
  go_enter Try.func28, Try.ntmps28
  go_wp2_with fail
  refine (implBuckets_any A B D ca cb cd zs rs ts _ hn hm ht (ha.below K) (hb.below K) (hd.below K)).mono ?_; rintro e w1 ⟨Q, cq, rfl, OQ, b1⟩
  replace X := X.below b1
  replace K := K.trans (b1.mono K.size)
  clear b1 x0 x1
  -- BEHIND THE BUCKETS
  have HBADD : Hid ((20 < fs.length ∨ (0 < ts.length ∧ (bksZ zs rs ts).length = 0) ∨ ∃ i, i < fs.length ∧ clZ zs rs true (zg fs i) = []) → tabN zs rs fs ts = 0) := Lib.hid (fun h => HBAD.out (by unfold tabBad; rw [← List.length_eq_zero_iff]; exact h))
  have HOKK : Hid (¬ (20 < fs.length ∨ (0 < ts.length ∧ (bksZ zs rs ts).length = 0) ∨ ∃ i, i < fs.length ∧ clZ zs rs true (zg fs i) = []) → tabN zs rs fs ts = fs.length) := Lib.hid (fun h => HOKN.out (by unfold tabBad; rw [← List.length_eq_zero_iff]; exact h))
  have HB0 : Hid (ts.length = 0 → (bksZ zs rs ts).length = 0) := Lib.hid (fun h => by
    have : bksZ zs rs ts = [] := by
      unfold bksZ; split
      · rw [h]; rfl
      · rfl
    rw [this]; rfl)
  have HB2' : Hid (20 < ts.length → (bksZ zs rs ts).length = 0) := Lib.hid (fun h => by rw [HB2.out h]; rfl)
  generalize tabN zs rs fs ts = N at *
  generalize bksZ zs rs ts = QS at *
  clear HBAD HOKN HB2
  have HU := Lib.hid (fun i => clZ_nil_or zs rs true (zg fs i))
  have hw1 : w.heap.size ≤ w1.heap.size := K.size
  by_cases hf20 : 20 < fs.length
  · have hd1 : decide ((20 : Int) < fs.length) = true := decide_eq_true (by omega)
    have hd2 : (20 : Int) < fs.length := by omega
    have HN := Lib.hid (HBADD.out (.inl hf20))
    clear HBADD HOKK HROW HU HBI HB0 HB2'
    go_wp2
    go_ret
    rw [HN.out]
    exact ⟨none, 0, rfl, fun h => by omega, K⟩
  have hd2 : ¬ (20 : Int) < fs.length := by omega
  have hd1 : decide ((20 : Int) < fs.length) = false := decide_eq_false hd2
  by_cases hts : 0 < ts.length
  · have ht1 : (0 : Int) < ts.length := by omega
    have ht2 : decide ((0 : Int) < ts.length) = true := decide_eq_true ht1
    by_cases hqs : QS.length = 0
    · have hq1 : ((QS.length : Int) == 0) = true := beq_iff_eq.2 (by omega)
      have HN := Lib.hid (HBADD.out (.inr (.inl ⟨hts, hqs⟩)))
      clear HBADD HOKK HROW HU HBI HB0 HB2'
      go_wp2
      go_ret
      rw [HN.out]
      exact ⟨none, 0, rfl, fun h => by omega, K⟩
    have hq1 : ((QS.length : Int) == 0) = false := beq_eq_false_iff_ne.2 (by omega)
    have hq2 : ¬ (QS.length : Int) = 0 := by omega
    have hq3 : ¬ QS.length = 0 := hqs
    have ht20 : ts.length ≤ 20 := by
      rcases Nat.lt_or_ge 20 ts.length with h | h
      · exact absurd (HB2'.out h) hqs
      · exact h
    have T0 := TabS.start w1 w1.heap.size ts.length (fun _ => none) (fun _ => 0) F
    have HJ0 : Hid (∀ j, j < 0 → clZ zs rs true (zg fs j) ≠ []) := Lib.hid (fun j hj => by omega)
    go_wp2
    go_loopw [8, 30] (fun v vi wr => ∃ (i : Nat) (Af : Nat → Option Addr) (cf : Nat → Nat), i ≤ fs.length ∧ vi = .int .i64 i ∧ Hid (∀ j, j < i → clZ zs rs true (zg fs j) ≠ []) ∧ TabS wr w1.heap.size v i ts.length Af cf F ∧ Below w1.heap.size w1 wr) (fun _ i _ => fs.length - (intOf i).toNat)
    case atStart => exact ⟨0, _, _, by omega, rfl, HJ0, T0, Below.refl _ _⟩
    case round =>
      clear T0 HJ0
      obtain ⟨i, Af, cf, hi, rfl, HJ, T, K1⟩ := hrel
      by_cases hit : i < fs.length
      · have hii : (i : Int) < fs.length := by omega
        have KW := K.trans (K1.mono K.size)
        obtain ⟨fb, fo, rfl, -, c0⟩ := (hc.below KW).at_ hit
        obtain ⟨x0, x1, -, -⟩ := (X.below K1).cells
        obtain ⟨VT, cT, rfl⟩ := own_formB T.own
        have HUP := Lib.hid (implUpsZ A B ca cb zs rs (zg fs i) wr hn hm (ha.below KW) (hb.below KW))
        have hU := HU.out i
        have HRW := Lib.hid (HROW.out i)
        have HNX : Hid (clZ zs rs true (zg fs i) ≠ [] → ∀ j, j < i + 1 → clZ zs rs true (zg fs j) ≠ []) := Lib.hid (fun e j hj => by
          by_cases q : j = i
          · rw [q]; exact e
          · exact HJ.out j (by omega))
        have HNB : Hid (clZ zs rs true (zg fs i) = [] → N = 0) := Lib.hid (fun e => HBADD.out (.inr (.inr ⟨i, hit, e⟩)))
        generalize clZ zs rs true (zg fs i) = U at *
        generalize zg fs i = s at *
        go_wp2_with fail
        refine HUP.out.mono ?_; rintro e w2 ⟨n1, A1, c1, rfl, hc1, O1, b2⟩
        clear x0 x1 c0 HUP
        by_cases hUn : U = []
        · have HN := Lib.hid (HNB.out hUn)
          have e1 := n1 hUn
          subst hUn
          injection e1 with e1
          injection e1 with e11 e12 e13
          subst e11
          subst e13
          have KE := KW.trans (b2.mono KW.size)
          clear n1 O1 hc1 T HNB HNX HRW hU
          go_wp2
          go_ret
          rw [HN.out]
          exact ⟨none, 0, rfl, fun h => by omega, KE⟩
        obtain ⟨hl1, hlp, hbd⟩ : U.length = zs.length ∧ 0 < zs.length ∧ ∀ v, v < zs.length → -1 ≤ zg U v ∧ zg U v ≤ (zs.length : Int) * 1000000 := by
          rcases hU with h | h
          · exact absurd h hUn
          · exact h
        have HIU := Lib.hid O1.ints
        have hUp : 0 < U.length := by omega
        obtain ⟨ug, uo, rfl, -, -⟩ := O1 hUp
        have HJ2 := Lib.hid (HNX.out hUn)
        have HRW2 := Lib.hid (HRW.out hUn)
        have HQ2 : Hid (IsArcs w2 Q QS) := Lib.hid (((OwnSl.bks OQ).below K1).below b2)
        have HBK : Hid (bkIn U.length QS) := Lib.hid (fun i hi => by rw [hl1]; exact ⟨(HBI.out i hi).1, (HBI.out i hi).2.2⟩)
        have HBU : Hid (∀ v, v < U.length → -1 ≤ zg U v ∧ zg U v ≤ 1048576000000) := Lib.hid (fun v hv => by have := hbd v (by omega); omega)
        have HMM := Lib.hid (fun k hk => meet_mem (u := U) (qs := QS) (n := zs.length) (fun i hi => ⟨(HBI.out i hi).1, (HBI.out i hi).2.2⟩) (fun v hv => (hbd v hv).1) QS.length (Nat.le_refl _) k hk)
        have hmlen := meetK_len U QS QS.length
        have hul : U.length ≤ 1048576 := by omega
        clear hU hbd n1 O1 hUn HNX HNB HRW hc1 hl1
        go_wp2_with fail
        refine (meetings_any _ Q c1 cq U QS _ hul hlq HIU.out HQ2.out HBK.out HBU.out).mono ?_; rintro e w3 ⟨A3', c3, rfl, O3, b3⟩
        have HM3 := Lib.hid (OwnSl.bks O3)
        clear O3 HIU HQ2 HBK HBU
        go_wp2_with fail
        refine (shortestTo_any A3' c3 ts.length (meetK U QS QS.length) _ hts ht20 (by omega) HM3.out (fun k hk => by
          obtain ⟨-, q, hq, e⟩ := HMM.out k hk
          rw [e]; exact (HBI.out q hq).2.1)).mono ?_; rintro e w4 ⟨A4, c4, rfl, hc4, O4, b4⟩
        rw [stL_len] at O4 ⊢
        have hB4 : OwnSl w4 w3.heap.size 3 A4 ts.length (zg (stL (meetK U QS QS.length) ts.length)) := O4
        have kb := (b2.trans (b3.mono b2.size)).trans (b4.mono (Nat.le_trans b2.size b3.size))
        have hB5 : OwnSl w4 wr.heap.size 3 A4 ts.length (zg (stL (meetK U QS QS.length) ts.length)) := fun hp => by
          obtain ⟨q, o, e1, q1, q2⟩ := hB4 hp
          have := b2.size
          have := b3.size
          exact ⟨q, o, e1, by omega, q2⟩
        obtain ⟨v', w', hr, T1, hlow, VB, cB, rfl⟩ := T.put (wr := w4) (B := A4) (d := c4) kb K1.size (by omega) hB5
        have T2 := T1.congr (f' := F) (fun j x hj hx => by
          by_cases q : j = i
          · subst q; rw [if_pos rfl]; exact (HRW2.out x hx)
          · rw [if_neg q])
        have K2 := (K1.trans (kb.mono K1.size)).trans (hlow w1.heap.size (Nat.le_refl _) (by have := K1.size; have := kb.size; omega))
        clear T T1 hlow hB4 hB5 O4 b2 b3 b4 kb HM3 HMM HRW2
        go_wp2_with (at_builtin; refine Lib.wpList_append_run _ rfl _ _ _ _ rfl _ _ rfl rfl _ _ hr ?_)
        clear hr
        go_wp2
        go_roundw
        case rel => exact ⟨i + 1, _, _, by omega, by go_num, HJ2, T2, K2⟩
        case measure => simp [intOf]; omega
      · obtain rfl : i = fs.length := by omega
        have HN := Lib.hid (HOKK.out (by
          rintro (q | ⟨q1, q2⟩ | ⟨j, hj, q⟩)
          · omega
          · omega
          · exact HJ.out j hj q))
        have HE := tabMade_of T hw1 (K.trans (K1.mono K.size))
        clear T HJ HBADD HOKK
        go_wp2
        go_ret
        rw [HN.out]
        exact HE
  · have hts0 : ts.length = 0 := by omega
    have ht1 : ¬ (0 : Int) < ts.length := by omega
    have ht2 : decide ((0 : Int) < ts.length) = false := decide_eq_false ht1
    have T0 := TabS.start w1 w1.heap.size ts.length (fun _ => none) (fun _ => 0) F
    have HJ0 : Hid (∀ j, j < 0 → clZ zs rs true (zg fs j) ≠ []) := Lib.hid (fun j hj => by omega)
    go_wp2
    go_loopw [8, 30] (fun v vi wr => ∃ (i : Nat) (Af : Nat → Option Addr) (cf : Nat → Nat), i ≤ fs.length ∧ vi = .int .i64 i ∧ Hid (∀ j, j < i → clZ zs rs true (zg fs j) ≠ []) ∧ TabS wr w1.heap.size v i ts.length Af cf F ∧ Below w1.heap.size w1 wr) (fun _ i _ => fs.length - (intOf i).toNat)
    case atStart => exact ⟨0, _, _, by omega, rfl, HJ0, T0, Below.refl _ _⟩
    case round =>
      clear T0 HJ0
      obtain ⟨i, Af, cf, hi, rfl, HJ, T, K1⟩ := hrel
      by_cases hit : i < fs.length
      · have hii : (i : Int) < fs.length := by omega
        have KW := K.trans (K1.mono K.size)
        obtain ⟨fb, fo, rfl, -, c0⟩ := (hc.below KW).at_ hit
        obtain ⟨x0, x1, -, -⟩ := (X.below K1).cells
        obtain ⟨VT, cT, rfl⟩ := own_formB T.own
        have HUP := Lib.hid (implUpsZ A B ca cb zs rs (zg fs i) wr hn hm (ha.below KW) (hb.below KW))
        have hU := HU.out i
        have HRW := Lib.hid (HROW.out i)
        have HNX : Hid (clZ zs rs true (zg fs i) ≠ [] → ∀ j, j < i + 1 → clZ zs rs true (zg fs j) ≠ []) := Lib.hid (fun e j hj => by
          by_cases q : j = i
          · rw [q]; exact e
          · exact HJ.out j (by omega))
        have HNB : Hid (clZ zs rs true (zg fs i) = [] → N = 0) := Lib.hid (fun e => HBADD.out (.inr (.inr ⟨i, hit, e⟩)))
        generalize clZ zs rs true (zg fs i) = U at *
        generalize zg fs i = s at *
        go_wp2_with fail
        refine HUP.out.mono ?_; rintro e w2 ⟨n1, A1, c1, rfl, hc1, O1, b2⟩
        clear x0 x1 c0 HUP
        by_cases hUn : U = []
        · have HN := Lib.hid (HNB.out hUn)
          have e1 := n1 hUn
          subst hUn
          injection e1 with e1
          injection e1 with e11 e12 e13
          subst e11
          subst e13
          have KE := KW.trans (b2.mono KW.size)
          clear n1 O1 hc1 T HNB HNX HRW hU
          go_wp2
          go_ret
          rw [HN.out]
          exact ⟨none, 0, rfl, fun h => by omega, KE⟩
        obtain ⟨hl1, hlp, hbd⟩ : U.length = zs.length ∧ 0 < zs.length ∧ ∀ v, v < zs.length → -1 ≤ zg U v ∧ zg U v ≤ (zs.length : Int) * 1000000 := by
          rcases hU with h | h
          · exact absurd h hUn
          · exact h
        have HIU := Lib.hid O1.ints
        have hUp : 0 < U.length := by omega
        obtain ⟨ug, uo, rfl, -, -⟩ := O1 hUp
        have HJ2 := Lib.hid (HNX.out hUn)
        have HRW2 := Lib.hid (HRW.out hUn)
        have HQ2 : Hid (IsArcs w2 Q QS) := Lib.hid (((OwnSl.bks OQ).below K1).below b2)
        have HBK : Hid (bkIn U.length QS) := Lib.hid (fun i hi => by rw [hl1]; exact ⟨(HBI.out i hi).1, (HBI.out i hi).2.2⟩)
        have HBU : Hid (∀ v, v < U.length → -1 ≤ zg U v ∧ zg U v ≤ 1048576000000) := Lib.hid (fun v hv => by have := hbd v (by omega); omega)
        have HMM := Lib.hid (fun k hk => meet_mem (u := U) (qs := QS) (n := zs.length) (fun i hi => ⟨(HBI.out i hi).1, (HBI.out i hi).2.2⟩) (fun v hv => (hbd v hv).1) QS.length (Nat.le_refl _) k hk)
        have hmlen := meetK_len U QS QS.length
        have hul : U.length ≤ 1048576 := by omega
        clear hU hbd n1 O1 hUn HNX HNB HRW hc1 hl1
        go_wp2_with fail
        refine (meetings_any _ Q c1 cq U QS _ hul hlq HIU.out HQ2.out HBK.out HBU.out).mono ?_; rintro e w3 ⟨A3', c3, rfl, O3, b3⟩
        have HM3 := Lib.hid (OwnSl.bks O3)
        clear O3 HIU HQ2 HBK HBU
        go_wp2_with fail
        have hm0 : (meetK U QS QS.length).length = 0 := by have := HB0.out hts0; omega
        rw [hm0]
        refine (shortestTo_zero A3' c3 _).mono ?_; rintro e w4 ⟨A4, c4, rfl, hc4, O4, b4⟩
        have hB4 : OwnSl w4 w3.heap.size 3 A4 ts.length (zg []) := by rw [hts0]; exact O4
        have kb := (b2.trans (b3.mono b2.size)).trans (b4.mono (Nat.le_trans b2.size b3.size))
        have hB5 : OwnSl w4 wr.heap.size 3 A4 ts.length (zg []) := fun hp => by
          obtain ⟨q, o, e1, q1, q2⟩ := hB4 hp
          have := b2.size
          have := b3.size
          exact ⟨q, o, e1, by omega, q2⟩
        obtain ⟨v', w', hr, T1, hlow, VB, cB, rfl⟩ := T.put (wr := w4) (B := A4) (d := c4) kb K1.size (by omega) hB5
        have T2 := T1.congr (f' := F) (fun j x hj hx => by
          by_cases q : j = i
          · subst q; rw [if_pos rfl]; exact (by omega)
          · rw [if_neg q])
        have K2 := (K1.trans (kb.mono K1.size)).trans (hlow w1.heap.size (Nat.le_refl _) (by have := K1.size; have := kb.size; omega))
        clear T T1 hlow hB4 hB5 O4 b2 b3 b4 kb HM3 HMM HRW2
        rw [hts0] at hr
        go_wp2_with (at_builtin; refine Lib.wpList_append_run _ rfl _ _ _ _ rfl _ _ rfl rfl _ _ hr ?_)
        clear hr
        go_wp2
        go_roundw
        case rel => exact ⟨i + 1, _, _, by omega, by go_num, HJ2, T2, K2⟩
        case measure => simp [intOf]; omega
      · obtain rfl : i = fs.length := by omega
        have HN := Lib.hid (HOKK.out (by
          rintro (q | ⟨q1, q2⟩ | ⟨j, hj, q⟩)
          · omega
          · omega
          · exact HJ.out j hj q))
        have HE := tabMade_of T hw1 (K.trans (K1.mono K.size))
        clear T HJ HBADD HOKK
        go_wp2
        go_ret
        rw [HN.out]
        exact HE

end Go.Proofs.Ytagaildnfbegkab
