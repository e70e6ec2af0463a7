/-
  What impl.Buckets and spec.Buckets compute.
-/
import Derived.Test.YtagaildnfbegkabBksM
import Derived.Test.YtagaildnfbegkabQueryIm
namespace Go.Proofs.Ytagaildnfbegkab
open Go.RowKit Go.Deep Go.Maps

theorem Pair.grownAt {w w' : World} {b : Nat} {t : TypeId} {u v : Value} {r : Option Nat} (h : Pair w b t u v) (hg : w.grownBy w' r) (hr : ∀ g, r = some g → b < g) : Pair w' b t u v := (hg.block b h.lt (fun e => by have := hr b e.symm; omega)).trans h
/-- The hierarchy's box, the buckets so far, and nothing older has turned. -/
structure BkS (w : World) (base : Nat) (A B : Option Addr) (n ca m cb : Nat) (v : Value) (qs : List A3) (wr : World) : Prop where
  own : wr.ownsRow base 67 3 v qs.length (cellsA qs)
  box : Pair wr w.heap.size 30 (.slice A n ca) (.slice B m cb)
  bel : Below w.heap.size w wr
section
variable {w wr w' : World} {base n ca m cb : Nat} {A B : Option Addr} {v : Value} {qs : List A3}
theorem BkS.below (h : BkS w base A B n ca m cb v qs wr) (b : Below wr.heap.size wr w') : BkS w base A B n ca m cb v qs w' := ⟨ownsRow_below h.own b, h.box.below b, h.bel.trans (b.mono h.bel.size)⟩
end
theorem own_lt {w : World} {base : Nat} {e : TypeId} {size n : Nat} {v : Value} {xs : List Value} (h : w.ownsRow base e size v n xs) {g : Nat} (k : v.ownBlock = some g) : g < w.heap.size := by
  rcases h.2 with ⟨h1, -⟩ | ⟨g', cap, cur, h1, h2, h3, -⟩
  · rw [h1] at k; cases k
  · rw [h1] at k
    have : g' = g := by simpa [Value.ownBlock] using k
    subst this
    exact (Array.getElem?_eq_some_iff.1 h3).1
set_option maxRecDepth 100000 in
/-- One bucket more. -/
theorem BkS.put {w wr : World} {base n ca m cb : Nat} {A B : Option Addr} {v : Value} {qs : List A3} (h : BkS w base A B n ca m cb v qs wr) (hb : w.heap.size < base) (a : A3) (hq : qs.length ≤ 20971519) (hr : base ≤ wr.heap.size) :
    ∃ v' w', (Builtin.append_ #[39, 39] 39 #[v, .slice (some ⟨wr.heap.size, 0, none⟩) 1 1]).run Try.prog (wr.alloc (.cells #[.int .i64 a.1, .int .i64 a.2.1, .int .i64 a.2.2] 67)) = .ok v' w' ∧
      BkS w base A B n ca m cb v' (qs ++ [a]) w' ∧ (∃ VB cB, v' = .slice VB (qs.length + 1) cB) ∧ (wr.alloc (.cells #[.int .i64 a.1, .int .i64 a.2.1, .int .i64 a.2.2] 67)).grownBy w' v.ownBlock ∧ (v'.ownBlock = v.ownBlock ∨ v'.ownBlock = some (wr.heap.size + 1)) := by
  obtain ⟨v', w', hr', own', g', hob⟩ := run_append_bk 39 base v qs.length _ h.own a (by omega) hr
  have hbk := ownsRow_block h.own
  have kb := below1 wr (.cells #[.int .i64 a.1, .int .i64 a.2.1, .int .i64 a.2.2] 67)
  refine ⟨v', w', hr', ⟨?_, (h.box.below kb).grownAt g' (fun g e => by have := hbk g e; omega), (h.bel.trans (kb.mono h.bel.size)).grown g' (by have := h.bel.size; rw [World.size_alloc]; omega) (fun g e => by have := hbk g e; omega)⟩, own_formB own', g', hob⟩
  rw [List.length_append, cellsA_append]; exact own'
/-- The numbers of one climb, apart from the buckets' own block. -/
def DnA (wr : World) (v : Value) (g o n : Nat) (D : List Int) : Prop := OwnAt wr g 3 o n (zg D) ∧ v.ownBlock ≠ some g
theorem DnA.put {wr w' : World} {v v' : Value} {g o n : Nat} {D : List Int} {x : Obj} (h : DnA wr v g o n D) (hg : (wr.alloc x).grownBy w' v.ownBlock) (hb : v'.ownBlock = v.ownBlock ∨ v'.ownBlock = some (wr.heap.size + 1)) : DnA w' v' g o n D := by
  have hlt := h.1.lt
  have h1 : OwnAt (wr.alloc x) g 3 o n (zg D) := h.1.below (below1 wr x)
  refine ⟨h1.of_block (hg.block g h1.lt (fun e => h.2 e.symm)), ?_⟩
  rcases hb with e | e <;> rw [e]
  · exact h.2
  · intro e'; injection e' with e'; omega
theorem DnA.cell {wr : World} {v : Value} {g o n : Nat} {D : List Int} (h : DnA wr v g o n D) {j : Nat} (hj : j < n) : wr.cell? ⟨g, o + j, none⟩ = some (.int .i64 (zg D j)) := h.1.cell hj

set_option maxRecDepth 1000000 in
set_option maxHeartbeats 8000000 in
theorem implBuckets_any (A B C : Option Addr) (ca cb cc : Nat) (zs : List Int) (rs : List A4) (ts : List Int) (w : World) (hn : zs.length ≤ 1048576) (hm : rs.length ≤ 1048576) (hk : ts.length ≤ 1048576) (ha : IsInts w A zs) (hb : IsHs w B rs) (hc : IsInts w C ts) :
    Calls Try.prog 23 #[.agg #[.slice A zs.length ca, .slice B rs.length cb], .slice C ts.length cc] w (BksMade w (bksZ zs rs ts)) := by
  have X := Pair.new w 30 (.slice A zs.length ca) (.slice B rs.length cb)
  have K := below1 w (.cells #[.slice A zs.length ca, .slice B rs.length cb] 30)
  by_cases hl : 20 < ts.length
  · have hd : decide ((20 : Int) < ts.length) = true := decide_eq_true (by omega)
    have hd' : (20 : Int) < ts.length := by omega
    have HQ := Lib.hid (bksZ_long (zs := zs) (rs := rs) (ts := ts) (by omega))
    go_enter Try.func23, Try.ntmps23
    go_wp2
    go_ret
    rw [HQ.out]
    exact ⟨none, 0, rfl, fun h => by simp at h, K⟩
  have hd : ¬ (20 : Int) < ts.length := by omega
  have q22 : ∀ (w : World) (a : Option Addr) (n c n' c' : Nat), (binOp .eql 22 (.slice a n c) (.slice none n' c')).run Try.prog w = .ok (.bool a.isNone) w := fun w a n c n' c' => Lib.run_eql_slice_nil w _ _ a n c n' c' Try.underlying22
  have HSZ : w.heap.size < w.heap.size + 1 := Nat.lt_succ_self _
  have R0 : BkS w (w.heap.size + 1) A B zs.length ca rs.length cb (.slice none 0 0) (bkL zs rs ts 0) (w.alloc (.cells #[.slice A zs.length ca, .slice B rs.length cb] 30)) := ⟨⟨rfl, .inl ⟨rfl, rfl⟩⟩, X, K⟩
  have HALL0 : Hid (bkAll zs rs ts 0) := Lib.hid (fun j hj => by omega)
  clear X K
  go_enter Try.func23, Try.ntmps23
  go_wp2
  go_loopw [5, 16] (fun v vi wr => ∃ k : Nat, k ≤ ts.length ∧ vi = .int .i64 k ∧ Hid (bkAll zs rs ts k) ∧ w.heap.size < wr.heap.size ∧ BkS w (w.heap.size + 1) A B zs.length ca rs.length cb v (bkL zs rs ts k) wr) (fun _ i _ => ts.length - (intOf i).toNat)
  case atStart => exact ⟨0, by omega, rfl, HALL0, by simp, R0⟩
  case round =>
    clear R0 HALL0
    obtain ⟨k, hkk, rfl, HALL, hsz, R⟩ := hrel
    by_cases hlt : k < ts.length
    · have hki : (k : Int) < ts.length := by omega
      obtain ⟨b, off, rfl, -, c0⟩ := (hc.below R.bel).at_ hlt
      obtain ⟨x0, x1, -, -⟩ := R.box.cells
      have HL := Lib.hid (show (bkL zs rs ts k).length ≤ 20971520 from bkL_room hn (by omega))
      have HL2 : Hid ((bkL zs rs ts k).length + zs.length ≤ 20971520) := Lib.hid (by have h := bkL_len zs rs ts k; have h2 : (k + 1) * zs.length ≤ 20 * 1048576 := Nat.mul_le_mul (by omega) hn; rw [Nat.succ_mul] at h2; omega)
      have HT := Lib.hid (clZ_nil_or zs rs false (zg ts k))
      have HNX : Hid (bkL zs rs ts (k + 1) = bkL zs rs ts k ++ bkRow (clZ zs rs false (zg ts k)) k zs.length) := Lib.hid rfl
      have HN1 : Hid (clZ zs rs false (zg ts k) ≠ [] → bkAll zs rs ts (k + 1)) := Lib.hid (fun e => HALL.out.next e)
      have HN2 : Hid (clZ zs rs false (zg ts k) = [] → bksZ zs rs ts = []) := Lib.hid (fun e => bksZ_nil hlt e)
      have HDN := Lib.hid (implDownsZ A B ca cb zs rs (zg ts k) wr hn hm (ha.below R.bel) (hb.below R.bel))
      generalize bkL zs rs ts k = Q0 at *
      generalize clZ zs rs false (zg ts k) = D at *
      generalize zg ts k = t at *
      obtain ⟨VA, cV, rfl⟩ := own_formB R.own
      have HVB : Hid (∀ g, wr.heap.size ≤ g → (Value.slice VA Q0.length cV).ownBlock ≠ some g) := Lib.hid (fun g hg e => by
        have := own_lt R.own e
        omega)
      go_wp2_with fail
      refine HDN.out.mono ?_; rintro e w1 ⟨n1, A1, c1, rfl, hc1, O1, b1⟩
      clear c0 x0 x1 HDN
      replace R := R.below b1
      replace hsz := Nat.lt_of_lt_of_le hsz b1.size
      clear b1
      by_cases hDn : D = []
      · have hq := Lib.hid (HN2.out hDn)
        have e1 := n1 hDn
        subst hDn
        injection e1 with e1
        injection e1 with e11 e12 e13
        subst e11
        subst e13
        have KE := R.bel
        clear HNX HN1 HN2 HT n1 O1 hc1 R
        go_wp2
        go_ret
        rw [hq.out]
        exact ⟨none, 0, rfl, fun h => by simp at h, KE⟩
      obtain ⟨hl1, hlp, hbd⟩ : D.length = zs.length ∧ 0 < zs.length ∧ ∀ v, v < zs.length → -1 ≤ zg D v ∧ zg D v ≤ (zs.length : Int) * 1000000 := by
        rcases HT.out with h | h
        · exact (hDn h).elim
        · exact h
      obtain ⟨g1, o1, rfl, hg1, D1⟩ := O1 (by omega)
      have HBD := Lib.hid hbd
      have HAL := Lib.hid (HN1.out hDn)
      rw [hl1] at hc1 D1 ⊢
      have HV1 : (Value.slice VA Q0.length cV).ownBlock ≠ some g1 := HVB.out g1 hg1
      clear n1 O1 HT HN1 HN2 hDn hl1 hbd
      have R0 : BkS w (w.heap.size + 1) A B zs.length ca rs.length cb (.slice VA Q0.length cV) (Q0 ++ bkRow D k 0) w1 := by rw [show Q0 ++ bkRow D k 0 = Q0 from List.append_nil _]; exact R
      have A0 : DnA w1 (.slice VA Q0.length cV) g1 o1 zs.length D := ⟨D1, HV1⟩
      clear D1 HV1
      go_wp2
      go_loopw [5, 28] (fun v vi wr => ∃ j : Nat, j ≤ zs.length ∧ vi = .int .i64 j ∧ w.heap.size < wr.heap.size ∧ DnA wr v g1 o1 zs.length D ∧ BkS w (w.heap.size + 1) A B zs.length ca rs.length cb v (Q0 ++ bkRow D k j) wr) (fun _ i _ => zs.length - (intOf i).toNat)
      case atStart => exact ⟨0, by omega, rfl, hsz, A0, R0⟩
      case round =>
        clear R0 A0 R hsz
        obtain ⟨j, hj, rfl, hsz, DA, R⟩ := hrel
        by_cases hjt : j < zs.length
        · have hji : (j : Int) < zs.length := by omega
          have d1 := DA.cell hjt
          have HON := Lib.hid (fun h => bkRow_on (d := D) (k := k) (v := j) h)
          have HOFF := Lib.hid (fun h => bkRow_off (d := D) (k := k) (v := j) h)
          have HR := Lib.hid (bkRow_len D k j)
          generalize bkRow D k j = B0 at *
          generalize zg D j = x at *
          by_cases hx : x = -1
          · have HN := Lib.hid (HOFF.out hx)
            have hx1 : (x != -1) = false := by simpa using hx
            clear hx HON HOFF
            go_wp2
            go_roundw
            case rel => exact ⟨j + 1, by omega, by go_num, hsz, DA, by rw [HN.out]; exact R⟩
            case measure => simp [intOf]; omega
          · have HN := Lib.hid (HON.out hx)
            have hx1 : (x != -1) = true := by simpa using hx
            clear hx HON HOFF
            obtain ⟨v', w', hr1, R1, ⟨VB, cB, rfl⟩, g', hob⟩ := R.put (by omega) ((j : Int), (k : Int), x) (by have := HR.out; have := HL2.out; rw [List.length_append]; omega) (by omega)
            have DA1 := DA.put g' hob
            have hsz1 : w.heap.size < w'.heap.size := by have := g'.size; rw [World.size_alloc] at this; omega
            obtain ⟨VC, cC, rfl⟩ := own_formB R.own
            clear g' hob DA R hsz
            dsimp only at hr1
            rw [List.length_append] at DA1 R1
            go_wp2_with (at_builtin; refine Lib.wpList_append_run _ rfl _ _ _ _ rfl _ _ rfl rfl _ _ hr1 ?_)
            clear hr1 d1
            go_wp2
            go_roundw
            case rel => exact ⟨j + 1, by omega, by go_num, hsz1, DA1, by rw [HN.out, ← List.append_assoc]; exact R1⟩
            case measure => simp [intOf]; omega
        · obtain rfl : j = zs.length := by omega
          go_wp2
          go_roundw
          case rel => exact ⟨k + 1, by omega, by go_num, HAL, hsz, by rw [HNX.out]; exact R⟩
          case measure => simp [intOf]; omega
    · obtain rfl : k = ts.length := by omega
      have HQ := Lib.hid (bksZ_all (zs := zs) (rs := rs) (ts := ts) (by omega) HALL.out)
      have KE := R.bel
      have OE := R.own
      clear HALL R hlt
      rw [← HQ.out] at OE
      go_wp2
      go_ret
      exact bksMade_of OE (by omega) KE

/-- A hierarchy in its box, a number at hand, and what else is carried. -/
abbrev BkT (W0 : World) (xb : Nat) (u v : Value) (b o : Nat) (t : Int) (P : World → Prop) (w : World) : Prop := w.cell? ⟨xb, 0, none⟩ = some u ∧ w.cell? ⟨xb, 1, none⟩ = some v ∧ w.cell? ⟨b, o, none⟩ = some (.int .i64 t) ∧ Below W0.heap.size W0 w ∧ P w
def StabB (P : World → Prop) : Prop := ∀ w w', Below w.heap.size w w' → P w → P w'
section
variable {W0 w w' : World} {xb b o : Nat} {u v : Value} {t : Int} {P : World → Prop}
theorem BkT.under (hP : StabB P) (hb : Below w.heap.size w w') (h : BkT W0 xb u v b o t P w) : BkT W0 xb u v b o t P w' := ⟨cell_under hb h.1, cell_under hb h.2.1, cell_under hb h.2.2.1, h.2.2.2.1.trans (hb.mono h.2.2.2.1.size), hP _ _ hb h.2.2.2.2⟩
theorem BkT.drew (hP : StabB P) (h : BkT W0 xb u v b o t P w) : BkT W0 xb u v b o t P w.drew := BkT.under hP (Below.refl _ _).drew h
theorem BkT.bel (h : BkT W0 xb u v b o t P w) : Below W0.heap.size W0 w := h.2.2.2.1
end

set_option maxRecDepth 1000000 in
set_option maxHeartbeats 8000000 in
theorem specBuckets_any (A B C : Option Addr) (ca cb cc : Nat) (zs : List Int) (rs : List A4) (ts : List Int) (w : World) (hn : zs.length ≤ 1048576) (hm : rs.length ≤ 1048576) (hk : ts.length ≤ 1048576) (ha : IsInts w A zs) (hb : IsHs w B rs) (hc : IsInts w C ts) :
    Calls Try.prog 21 #[.agg #[.slice A zs.length ca, .slice B rs.length cb], .slice C ts.length cc] w (BksMade w (bksZ zs rs ts)) := by
  have X := (Pair.new w 30 (.slice A zs.length ca) (.slice B rs.length cb)).alloc (.cells #[] 67)
  have K := below2 w (.cells #[.slice A zs.length ca, .slice B rs.length cb] 30) (.cells #[] 67)
  have O : ((w.alloc (.cells #[.slice A zs.length ca, .slice B rs.length cb] 30)).alloc (.cells #[] 67)).ownsRow (w.heap.size + 1) 67 3 (.slice (some ⟨w.heap.size + 1, 0, none⟩) 0 0) 0 [] :=
    ⟨rfl, .inr ⟨w.heap.size + 1, 0, #[], rfl, by omega, by have := heap_alloc_new (w.alloc (.cells #[.slice A zs.length ca, .slice B rs.length cb] 30)) (.cells #[] 67); simpa using this, Nat.le_refl _, Nat.zero_le _, rfl, rfl⟩⟩
  by_cases hl : 20 < ts.length
  · have hd : decide ((20 : Int) < ts.length) = true := decide_eq_true (by omega)
    have hd' : (20 : Int) < ts.length := by omega
    have HQ := Lib.hid (bksZ_long (zs := zs) (rs := rs) (ts := ts) (by omega))
    go_enter Try.func21, Try.ntmps21
    go_wp2
    go_ret
    rw [HQ.out]
    exact ⟨_, _, rfl, fun h => by simp at h, K⟩
  have hd : ¬ (20 : Int) < ts.length := by omega
  have HSZ : w.heap.size < w.heap.size + 1 := Nat.lt_succ_self _
  have R0 : BkS w (w.heap.size + 1) A B zs.length ca rs.length cb (.slice (some ⟨w.heap.size + 1, 0, none⟩) 0 0) (bkL zs rs ts 0) ((w.alloc (.cells #[.slice A zs.length ca, .slice B rs.length cb] 30)).alloc (.cells #[] 67)) := ⟨O, X, K⟩
  have HALL0 : Hid (bkAll zs rs ts 0) := Lib.hid (fun j hj => by omega)
  clear X K O
  go_enter Try.func21, Try.ntmps21
  go_wp2
  go_loopw [5, 6] (fun v vi wr => ∃ k : Nat, k ≤ ts.length ∧ vi = .int .i64 k ∧ Hid (bkAll zs rs ts k) ∧ w.heap.size < wr.heap.size ∧ BkS w (w.heap.size + 1) A B zs.length ca rs.length cb v (bkL zs rs ts k) wr) (fun _ i _ => ts.length - (intOf i).toNat)
  case atStart => exact ⟨0, by omega, rfl, HALL0, by simp <;> omega, R0⟩
  case round =>
    clear R0 HALL0
    obtain ⟨k, hkk, rfl, HALL, hsz, R⟩ := hrel
    by_cases hlt : k < ts.length
    · have hki : (k : Int) < ts.length := by omega
      obtain ⟨b, off, rfl, -, c0⟩ := (hc.below R.bel).at_ hlt
      obtain ⟨x0, x1, -, -⟩ := R.box.cells
      have HL := Lib.hid (show (bkL zs rs ts k).length ≤ 20971520 from bkL_room hn (by omega))
      have HL2 : Hid ((bkL zs rs ts k).length + zs.length ≤ 20971520) := Lib.hid (by have h := bkL_len zs rs ts k; have h2 : (k + 1) * zs.length ≤ 20 * 1048576 := Nat.mul_le_mul (by omega) hn; rw [Nat.succ_mul] at h2; omega)
      have HT := Lib.hid (clZ_nil_or zs rs false (zg ts k))
      have HNX : Hid (bkL zs rs ts (k + 1) = bkL zs rs ts k ++ bkRow (clZ zs rs false (zg ts k)) k zs.length) := Lib.hid rfl
      have HN1 : Hid (clZ zs rs false (zg ts k) ≠ [] → bkAll zs rs ts (k + 1)) := Lib.hid (fun e => HALL.out.next e)
      have HN2 : Hid (clZ zs rs false (zg ts k) = [] → bksZ zs rs ts = []) := Lib.hid (fun e => bksZ_nil hlt e)
      have HDN : Hid (∀ w1, Below w.heap.size w w1 → Calls Try.prog 35 #[.agg #[.slice A zs.length ca, .slice B rs.length cb], .int .i64 (zg ts k)] w1 (IntsMade w1 (clZ zs rs false (zg ts k)))) := Lib.hid (fun w1 k1 => specDownsZ A B ca cb zs rs (zg ts k) w1 hn hm (ha.below k1) (hb.below k1))
      generalize bkL zs rs ts k = Q0 at *
      generalize clZ zs rs false (zg ts k) = D at *
      generalize zg ts k = t at *
      obtain ⟨VA, cV, rfl⟩ := own_formB R.own
      have HVB : Hid (∀ g, wr.heap.size ≤ g → (Value.slice VA Q0.length cV).ownBlock ≠ some g) := Lib.hid (fun g hg e => by
        have := own_lt R.own e
        omega)
      obtain ⟨P, hPe⟩ : ∃ P : World → Prop, P = fun w' => w.heap.size < w'.heap.size ∧ wr.heap.size ≤ w'.heap.size ∧ BkS w (w.heap.size + 1) A B zs.length ca rs.length cb (.slice VA Q0.length cV) Q0 w' := ⟨_, rfl⟩
      have hst : StabB P := by rw [hPe]; exact fun w w' hb h => ⟨Nat.lt_of_lt_of_le h.1 hb.size, Nat.le_trans h.2.1 hb.size, h.2.2.below hb⟩
      have T : BkT w w.heap.size (.slice A zs.length ca) (.slice B rs.length cb) b (off + k) t P wr := ⟨x0, x1, c0, R.bel, by rw [hPe]; exact ⟨hsz, Nat.le_refl _, R⟩⟩
      have HPE := Lib.hid hPe
      clear hPe x0 x1 c0 R hsz
      go_wp2_with fail
      go_region_held3 (fun w' => BkT w w.heap.size (.slice A zs.length ca) (.slice B rs.length cb) b (off + k) t P w')
        (first | exact BkT.drew hst T | assumption | (refine BkT.under hst (by assumption) ?_; assumption))
        (first
          | (go_at_call 35; refine (HDN.out _ (BkT.bel (by assumption))).mono ?_; rintro e w1 ⟨A1, c1, rfl, hc1, O1, b1⟩))
      rename_i hU
      have hwm : wr.heap.size ≤ wr.drew.heap.size := Nat.le_refl _
      rw [HPE.out] at hU
      obtain ⟨-, -, -, -, hsz, hsw, R⟩ := hU
      clear b1 T HDN HPE hst
      by_cases hDn : D = []
      · have hq := Lib.hid (HN2.out hDn)
        subst hDn
        have KE := R.bel.alloc R.bel.size (.cells #[] 67)
        clear HNX HN1 HN2 HT O1 hc1 R
        go_wp2
        go_ret
        rw [hq.out]
        exact ⟨_, _, rfl, fun h => by simp at h, KE⟩
      obtain ⟨hl1, hlp, hbd⟩ : D.length = zs.length ∧ 0 < zs.length ∧ ∀ v, v < zs.length → -1 ≤ zg D v ∧ zg D v ≤ (zs.length : Int) * 1000000 := by
        rcases HT.out with h | h
        · exact (hDn h).elim
        · exact h
      obtain ⟨g1, o1, rfl, hg1, D1⟩ := O1 (by omega)
      have HBD := Lib.hid hbd
      have HAL := Lib.hid (HN1.out hDn)
      rw [hl1] at hc1 D1 ⊢
      have HV1 : (Value.slice VA Q0.length cV).ownBlock ≠ some g1 := HVB.out g1 hg1
      have hne : ((zs.length : Int) == 0) = false := by simpa using (by omega : ¬ (zs.length : Int) = 0)
      clear O1 HT HN1 HN2 hDn hl1 hbd
      have R0 : BkS w (w.heap.size + 1) A B zs.length ca rs.length cb (.slice VA Q0.length cV) (Q0 ++ bkRow D k 0) w1 := by rw [show Q0 ++ bkRow D k 0 = Q0 from List.append_nil _]; exact R
      have A0 : DnA w1 (.slice VA Q0.length cV) g1 o1 zs.length D := ⟨D1, HV1⟩
      clear D1 HV1
      go_wp2
      go_loopw [5, 8] (fun v vi wr => ∃ j : Nat, j ≤ zs.length ∧ vi = .int .i64 j ∧ w.heap.size < wr.heap.size ∧ DnA wr v g1 o1 zs.length D ∧ BkS w (w.heap.size + 1) A B zs.length ca rs.length cb v (Q0 ++ bkRow D k j) wr) (fun _ i _ => zs.length - (intOf i).toNat)
      case atStart => exact ⟨0, by omega, rfl, hsz, A0, R0⟩
      case round =>
        clear R0 A0 R hsz
        obtain ⟨j, hj, rfl, hsz, DA, R⟩ := hrel
        by_cases hjt : j < zs.length
        · have hji : (j : Int) < zs.length := by omega
          have d1 := DA.cell hjt
          have HON := Lib.hid (fun h => bkRow_on (d := D) (k := k) (v := j) h)
          have HOFF := Lib.hid (fun h => bkRow_off (d := D) (k := k) (v := j) h)
          have HR := Lib.hid (bkRow_len D k j)
          generalize bkRow D k j = B0 at *
          generalize zg D j = x at *
          by_cases hx : x = -1
          · have HN := Lib.hid (HOFF.out hx)
            have hx1 : (x != -1) = false := by simpa using hx
            clear hx HON HOFF
            go_wp2
            go_roundw
            case rel => exact ⟨j + 1, by omega, by go_num, hsz, DA, by rw [HN.out]; exact R⟩
            case measure => simp [intOf]; omega
          · have HN := Lib.hid (HON.out hx)
            have hx1 : (x != -1) = true := by simpa using hx
            clear hx HON HOFF
            obtain ⟨v', w', hr1, R1, ⟨VB, cB, rfl⟩, g', hob⟩ := R.put (by omega) ((j : Int), (k : Int), x) (by have := HR.out; have := HL2.out; rw [List.length_append]; omega) (by omega)
            have DA1 := DA.put g' hob
            have hsz1 : w.heap.size < w'.heap.size := by have := g'.size; rw [World.size_alloc] at this; omega
            obtain ⟨VC, cC, rfl⟩ := own_formB R.own
            clear g' hob DA R hsz
            dsimp only at hr1
            rw [List.length_append] at DA1 R1
            go_wp2_with (at_builtin; refine Lib.wpList_append_run _ rfl _ _ _ _ rfl _ _ rfl rfl _ _ hr1 ?_)
            clear hr1 d1
            go_wp2
            go_roundw
            case rel => exact ⟨j + 1, by omega, by go_num, hsz1, DA1, by rw [HN.out, ← List.append_assoc]; exact R1⟩
            case measure => simp [intOf]; omega
        · obtain rfl : j = zs.length := by omega
          go_wp2
          go_roundw
          case rel => exact ⟨k + 1, by omega, by go_num, HAL, hsz, by rw [HNX.out]; exact R⟩
          case measure => simp [intOf]; omega
    · obtain rfl : k = ts.length := by omega
      have HQ := Lib.hid (bksZ_all (zs := zs) (rs := rs) (ts := ts) (by omega) HALL.out)
      have KE := R.bel
      have OE := R.own
      clear HALL R hlt
      rw [← HQ.out] at OE
      go_wp2
      go_ret
      exact bksMade_of OE (by omega) KE

end Go.Proofs.Ytagaildnfbegkab
