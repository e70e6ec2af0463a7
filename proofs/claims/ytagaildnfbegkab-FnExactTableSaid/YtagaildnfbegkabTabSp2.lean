/-
  What spec.Table computes: the walk.
-/
import Derived.Test.YtagaildnfbegkabTabSp
namespace Go.Proofs.Ytagaildnfbegkab
open Go.RowKit Go.Deep Go.Maps

theorem tabF_is (zs : List Int) (rs : List A4) (fs ts : List Int) (i x : Nat) : tabF zs rs fs ts i x = spT (clZ zs rs true (zg fs i)) (bksZ zs rs ts) (bksZ zs rs ts).length x := rfl
theorem tabMade_none {w w' : World} {m : Nat} {f : Nat → Nat → Int} {R : Option Addr} {cap : Nat} (k : Below w.heap.size w w') : TabMade w 0 m f (.returned (.slice R 0 cap)) w' := ⟨R, cap, rfl, fun h => by omega, k⟩

theorem drow_ints {w2 wr : World} {rb m : Nat} {v : Value} (h : DRow w2 wr rb m v) (hp : 0 < m) : ∃ dg dof cap, v = .slice (some ⟨dg, dof, none⟩) m cap ∧ rb + 1 ≤ dg ∧ OwnAt wr dg 3 dof m (fun _ => -1) := by
  have hl : (List.replicate m (-1 : Int)).length = m := by simp
  have ho : wr.ownsRow (rb + 1) 3 1 v (List.replicate m (-1 : Int)).length ((List.replicate m (-1 : Int)).map (Value.int .i64)) := by rw [hl, List.map_replicate]; exact h.own
  obtain ⟨A, cap, rfl, -, hO⟩ := ownSl_of_own ho
  rw [hl] at hO ⊢
  obtain ⟨g, off, rfl, hg, hA⟩ := hO hp
  exact ⟨g, off, cap, rfl, hg, hA.congr (fun i hi => by unfold zg; simp [hi])⟩
theorem spT_three (U : List Int) (QS : List A3) (j V T : Nat) (l : Int) (e : (arg QS j) = ((V : Int), (T : Int), l)) :
    (zg U V = -1 → ∀ x, spT U QS (j + 1) x = spT U QS j x) ∧ (¬ (spT U QS j T = -1 ∨ zg U V + l < spT U QS j T) → ∀ x, spT U QS (j + 1) x = spT U QS j x) ∧
      (zg U V ≠ -1 → (spT U QS j T = -1 ∨ zg U V + l < spT U QS j T) → ∀ x, spT U QS (j + 1) x = if x = T then zg U V + l else spT U QS j x) := by
  have hV : (arg QS j).1.toNat = V := by rw [e]; simp
  have hl : (arg QS j).2.2 = l := by rw [e]
  have ht : (arg QS j).2.1 = (T : Int) := by rw [e]
  refine ⟨fun h x => spT_off (.inl (by rw [hV]; exact h)), fun h x => ?_, fun h1 h2 x => ?_⟩
  · by_cases q : x = T
    · subst q; exact spT_off (.inr (.inr (by rw [hV, hl]; exact h)))
    · exact spT_off (.inr (.inl (by rw [ht]; omega)))
  · by_cases q : x = T
    · subst q; rw [if_pos rfl, spT_on (by rw [hV]; exact h1) ht (by rw [hV, hl]; exact h2), hV, hl]
    · rw [if_neg q]; exact spT_off (.inr (.inl (by rw [ht]; omega)))

set_option maxRecDepth 1000000 in
set_option maxHeartbeats 16000000 in
theorem specTable_any (A B C D : Option Addr) (ca cb cc cd : Nat) (zs : List Int) (rs : List A4) (fs ts : List Int) (w : World) (hn : zs.length ≤ 1048576) (hm : rs.length ≤ 1048576) (hf : fs.length ≤ 1048576) (ht : ts.length ≤ 1048576) (ha : IsInts w A zs) (hb : IsHs w B rs) (hc : IsInts w C fs) (hd : IsInts w D ts) :
    Calls Try.prog 27 #[.agg #[.slice A zs.length ca, .slice B rs.length cb], .slice C fs.length cc, .slice D ts.length cd] w (TabMade w (tabN zs rs fs ts) ts.length (tabF zs rs fs ts)) := by
  have X := (Pair.new w 30 (.slice A zs.length ca) (.slice B rs.length cb)).alloc (.cells #[] 80)
  have K := below2 w (.cells #[.slice A zs.length ca, .slice B rs.length cb] 30) (.cells #[] 80)
  have O : ((w.alloc (.cells #[.slice A zs.length ca, .slice B rs.length cb] 30)).alloc (.cells #[] 80)).ownsRow (w.heap.size + 1) 80 1 (.slice (some ⟨w.heap.size + 1, 0, none⟩) 0 0) 0 [] :=
    ⟨rfl, .inr ⟨w.heap.size + 1, 0, #[], rfl, by omega, by have := heap_alloc_new (w.alloc (.cells #[.slice A zs.length ca, .slice B rs.length cb] 30)) (.cells #[] 80); simpa using this, Nat.le_refl _, Nat.zero_le _, rfl, rfl⟩⟩
  have hW2 : ((w.alloc (.cells #[.slice A zs.length ca, .slice B rs.length cb] 30)).alloc (.cells #[] 80)).heap.size = w.heap.size + 2 := by rw [World.size_alloc, World.size_alloc]
  have HBADD0 : Hid (tabBad zs rs fs ts → tabN zs rs fs ts = 0) := Lib.hid tabN_bad
  have HOKN : Hid (¬ tabBad zs rs fs ts → tabN zs rs fs ts = fs.length) := Lib.hid tabN_ok
  have HBI := Lib.hid (bksZ_in (zs := zs) (rs := rs) (ts := ts) hn)
  have hlq := bksZ_len rs ts hn
  have HFI := Lib.hid (tabF_is zs rs fs ts)
  have HB2 : Hid (20 < ts.length → (bksZ zs rs ts).length = 0) := Lib.hid (fun h => by rw [bksZ_long (by omega)]; rfl)
  have HBADD : Hid ((20 < fs.length ∨ (0 < ts.length ∧ (bksZ zs rs ts).length = 0) ∨ ∃ i, i < fs.length ∧ clZ zs rs true (zg fs i) = []) → tabN zs rs fs ts = 0) := Lib.hid (fun h => HBADD0.out (by unfold tabBad; rw [← List.length_eq_zero_iff]; exact h))
  have HOKK : Hid (¬ (20 < fs.length ∨ (0 < ts.length ∧ (bksZ zs rs ts).length = 0) ∨ ∃ i, i < fs.length ∧ clZ zs rs true (zg fs i) = []) → tabN zs rs fs ts = fs.length) := Lib.hid (fun h => HOKN.out (by unfold tabBad; rw [← List.length_eq_zero_iff]; exact h))
  have HB0 : Hid (ts.length = 0 → (bksZ zs rs ts).length = 0) := Lib.hid (fun h => by
    have : bksZ zs rs ts = [] := by
      unfold bksZ; split
      · rw [h]; rfl
      · rfl
    rw [this]; rfl)
  have HU := Lib.hid (fun i => clZ_nil_or zs rs true (zg fs i))
  have HBU := Lib.hid (specBuckets_any A B D ca cb cd zs rs ts _ hn hm ht (ha.below K) (hb.below K) (hd.below K))
  obtain ⟨x0, x1, -, -⟩ := X.cells
  clear HBADD0 HOKN
  generalize tabF zs rs fs ts = F at *
  generalize tabN zs rs fs ts = N at *
  generalize bksZ zs rs ts = QS at *
  go_enter Try.func27, Try.ntmps27
  go_wp2_with fail
  refine HBU.out.mono ?_; rintro e w1 ⟨Q, cq, rfl, OQ, b1⟩
  clear x0 x1 HBU
  rw [hW2] at OQ
  replace X := X.below b1
  replace O := ownsRow_below O b1
  have hw1 : w.heap.size + 2 ≤ w1.heap.size := by have := b1.size; omega
  replace K := K.trans (b1.mono K.size)
  clear b1 hW2
  by_cases hf20 : 20 < fs.length
  · have hd1 : decide ((20 : Int) < fs.length) = true := decide_eq_true (by omega)
    have hd2 : (20 : Int) < fs.length := by omega
    have HN := Lib.hid (HBADD.out (.inl hf20))
    clear HBADD HOKK HU HBI HB0 HB2
    go_wp2
    go_ret
    rw [HN.out]
    exact tabMade_none K
  have hd2 : ¬ (20 : Int) < fs.length := by omega
  have hd1 : decide ((20 : Int) < fs.length) = false := decide_eq_false hd2
  by_cases ht20 : 20 < ts.length
  · have he1 : decide ((20 : Int) < ts.length) = true := decide_eq_true (by omega)
    have he2 : (20 : Int) < ts.length := by omega
    have HN := Lib.hid (HBADD.out (.inr (.inl ⟨by omega, HB2.out ht20⟩)))
    clear HBADD HOKK HU HBI HB0 HB2
    go_wp2
    go_ret
    rw [HN.out]
    exact tabMade_none K
  have he2 : ¬ (20 : Int) < ts.length := by omega
  have he1 : decide ((20 : Int) < ts.length) = false := decide_eq_false he2
  have ht20' : ts.length ≤ 20 := by omega
  have T0 : TabS w1 (w.heap.size + 1) (.slice (some ⟨w.heap.size + 1, 0, none⟩) 0 0) 0 ts.length (fun _ => none) (fun _ => 0) F := ⟨O, fun i hi => by omega, fun i j hi => by omega, fun i hi => by omega⟩
  have S0 : Hid (∀ b, blk Q (QS.length * 3) = some b → (Value.slice (some ⟨w.heap.size + 1, 0, none⟩) 0 0).ownBlock ≠ some b) := Lib.hid (fun b e e' => by
    have := (blk_own OQ e).1
    have h2 : w.heap.size + 1 = b := by simpa [Value.ownBlock] using e'
    omega)
  have HJ0 : Hid (∀ j, j < 0 → clZ zs rs true (zg fs j) ≠ []) := Lib.hid (fun j hj => by omega)
  clear O
  by_cases hts : 0 < ts.length
  · have ht1 : (0 : Int) < ts.length := by omega
    have ht2 : decide ((0 : Int) < ts.length) = true := decide_eq_true ht1
    by_cases hqs : QS.length = 0
    · have hq1 : ((QS.length : Int) == 0) = true := beq_iff_eq.2 (by omega)
      have HN := Lib.hid (HBADD.out (.inr (.inl ⟨hts, hqs⟩)))
      clear HBADD HOKK HU HBI HB0 HB2 T0 S0 OQ
      go_wp2
      go_ret
      rw [HN.out]
      exact tabMade_none K
    have hq1 : ((QS.length : Int) == 0) = false := beq_eq_false_iff_ne.2 (by omega)
    have hq2 : ¬ (QS.length : Int) = 0 := by omega
    have hq3 : ¬ QS.length = 0 := hqs
    go_wp2
    go_loopw [7, 9] (fun v vi wr => ∃ (i : Nat) (Af : Nat → Option Addr) (cf : Nat → Nat), i ≤ fs.length ∧ vi = .int .i64 i ∧ Hid (∀ j, j < i → clZ zs rs true (zg fs j) ≠ []) ∧ TabS wr (w.heap.size + 1) v i ts.length Af cf F ∧ Pair wr w.heap.size 30 (.slice A zs.length ca) (.slice B rs.length cb) ∧ OwnSl wr (w.heap.size + 2) 67 Q (QS.length * 3) (flatA QS) ∧ Hid (∀ b, blk Q (QS.length * 3) = some b → v.ownBlock ≠ some b) ∧ w.heap.size + 2 ≤ wr.heap.size ∧ Below w.heap.size w wr) (fun _ i _ => fs.length - (intOf i).toNat)
    case atStart => exact ⟨0, _, _, by omega, rfl, HJ0, T0, X, OQ, S0, hw1, K⟩
    case round =>
      clear T0 HJ0 X OQ S0 K hw1
      obtain ⟨i, Af, cf, hi, rfl, HJ, T, X, OQ, SQ, hsz, K⟩ := hrel
      by_cases hit : i < fs.length
      · have hii : (i : Int) < fs.length := by omega
        obtain ⟨fb, fo, rfl, -, c0⟩ := (hc.below K).at_ hit
        obtain ⟨x0, x1, -, -⟩ := X.cells
        obtain ⟨VT, cT, rfl⟩ := own_formB T.own
        have HUP : Hid (∀ w1, Below w.heap.size w w1 → Calls Try.prog 34 #[.agg #[.slice A zs.length ca, .slice B rs.length cb], .int .i64 (zg fs i)] w1 (IntsMade w1 (clZ zs rs true (zg fs i)))) := Lib.hid (fun w1 k1 => specUpsZ A B ca cb zs rs (zg fs i) w1 hn hm (ha.below k1) (hb.below k1))
        have hU := HU.out i
        have HFI2 := Lib.hid (HFI.out i)
        have HNX : Hid (clZ zs rs true (zg fs i) ≠ [] → ∀ j, j < i + 1 → clZ zs rs true (zg fs j) ≠ []) := Lib.hid (fun e j hj => by
          by_cases q : j = i
          · rw [q]; exact e
          · exact HJ.out j (by omega))
        have HNB : Hid (clZ zs rs true (zg fs i) = [] → N = 0) := Lib.hid (fun e => HBADD.out (.inr (.inr ⟨i, hit, e⟩)))
        generalize clZ zs rs true (zg fs i) = U at *
        generalize zg fs i = s at *
        obtain ⟨P, hPe⟩ : ∃ P : World → Prop, P = fun w' => Below wr.heap.size wr w' := ⟨_, rfl⟩
        have hst : StabB P := by rw [hPe]; exact fun w w' hb h => h.trans (hb.mono h.size)
        have TB : BkT w w.heap.size (.slice A zs.length ca) (.slice B rs.length cb) fb (fo + i) s P wr := ⟨x0, x1, c0, K, by rw [hPe]; exact Below.refl _ _⟩
        have HPE := Lib.hid hPe
        clear hPe x0 x1 c0
        go_wp2_with fail
        go_region_held3 (fun w' => BkT w w.heap.size (.slice A zs.length ca) (.slice B rs.length cb) fb (fo + i) s P w')
          (first | exact BkT.drew hst TB | assumption | (refine BkT.under hst (by assumption) ?_; assumption))
          (first
            | (go_at_call 34; refine (HUP.out _ (BkT.bel (by assumption))).mono ?_; rintro e w2 ⟨A1, c1, rfl, hc1, O1, b2⟩))
        rename_i hUU
        rw [HPE.out] at hUU
        obtain ⟨-, -, -, K2, k2⟩ := hUU
        have O1' : OwnSl w2 wr.heap.size 3 A1 U.length (zg U) := O1
        clear O1 b2 TB hst HPE HUP
        by_cases hUn : U = []
        · have HN := Lib.hid (HNB.out hUn)
          subst hUn
          have KE := K2.alloc K2.size (.cells #[] 80)
          clear O1' hc1 T HNB HNX HFI2 hU OQ SQ X
          go_wp2
          go_ret
          rw [HN.out]
          exact tabMade_none KE
        obtain ⟨hl1, hlp, hbd⟩ : U.length = zs.length ∧ 0 < zs.length ∧ ∀ v, v < zs.length → -1 ≤ zg U v ∧ zg U v ≤ (zs.length : Int) * 1000000 := by
          rcases hU with h | h
          · exact absurd h hUn
          · exact h
        have HJ2 := Lib.hid (HNX.out hUn)
        have HBD := Lib.hid (fun v (hv : v < zs.length) => (show -1 ≤ zg U v ∧ zg U v ≤ 1048576000000 by have := hbd v hv; omega))
        rw [hl1] at hc1 O1' ⊢
        obtain ⟨ug, uo, rfl, hug, D1⟩ := O1' hlp
        have hne : ((zs.length : Int) == 0) = false := beq_eq_false_iff_ne.2 (by omega)
        have HSP := Lib.hid (fun k (hk : k ≤ QS.length) x => spT_room (u := U) (qs := QS) (n := zs.length) (fun i hi => ⟨(HBI.out i hi).1, (HBI.out i hi).2.2⟩) (fun v hv => HBD.out v hv) x k hk)
        clear hU hbd HNX HNB hUn hl1 hc1 O1'
        -- THE BOX
        obtain ⟨rb, hrb⟩ : ∃ rb, rb = w2.heap.size := ⟨_, rfl⟩
        have kr := below1 w2 (.cells #[.slice none 0 0] 80)
        have R0 : DRow w2 (w2.alloc (.cells #[.slice none 0 0] 80)) rb 0 (.slice none 0 0) := by
          rw [hrb]
          exact ⟨heap_alloc_new _ _, ⟨rfl, .inl ⟨rfl, rfl⟩⟩, kr⟩
        have HRB := Lib.hid hrb
        have hrb2 : w2.heap.size = rb := hrb.symm
        clear hrb kr
        go_wp2
        go_loopw [12] (fun vi wx => ∃ (k : Nat) (vD : Value), k ≤ ts.length ∧ vi = .int .i64 k ∧ DRow w2 wx rb k vD) (fun i _ => ts.length - (intOf i).toNat)
        case atStart => exact ⟨0, _, by omega, rfl, R0⟩
        case round =>
          clear R0 hrb2
          obtain ⟨k, vD, hk, rfl, R⟩ := hrel
          by_cases hkt : k < ts.length
          · have hki : (k : Int) < ts.length := by omega
            obtain ⟨v', w', hr, d0, f0, R1, VB, cB, rfl⟩ := R.put (by omega)
            have r0 := R.box.cell
            have r1 := (R.box.below (below1 _ (.cells #[.int .i64 (-1)] 3))).cell
            obtain ⟨VC, cC, rfl⟩ := own_formB R.own
            clear R
            go_wp2_with (at_builtin; refine Lib.wpList_append_run _ rfl _ _ _ _ rfl _ _ rfl rfl _ _ hr ?_)
            clear hr
            go_wp2
            clear d0 f0 r0 r1
            go_roundw
            case rel => exact ⟨k + 1, _, by omega, by go_num, R1⟩
            case measure => simp [intOf]; omega
          · obtain rfl : k = ts.length := by omega
            obtain ⟨dg, dof, cap, rfl, hdg, DD0⟩ := drow_ints R hts
            have RB0 := R.box
            have RK0 := R.bel
            have DD0' : OwnAt wr dg 3 dof ts.length (fun x => spT U QS 0 x) := DD0
            have HQA := Lib.hid ((OwnSl.bks OQ).below k2)
            clear R DD0 hkt
            go_wp2
            go_loopw [13] (fun vi wx => ∃ j : Nat, j ≤ QS.length ∧ vi = .int .i64 j ∧ OneB wx rb 80 (.slice (some ⟨dg, dof, none⟩) ts.length cap) ∧ OwnAt wx dg 3 dof ts.length (fun x => spT U QS j x) ∧ Below rb w2 wx) (fun i _ => QS.length - (intOf i).toNat)
            case atStart => exact ⟨0, by omega, rfl, RB0, DD0', RK0⟩
            case round =>
              clear RB0 DD0' RK0
              obtain ⟨j, hj, rfl, RB, DD, RK⟩ := hrel
              have RK2 : Below w2.heap.size w2 wr := by have := RK; rw [HRB.out] at this; exact this
              by_cases hjt : j < QS.length
              · have hji : (j : Int) < QS.length := by omega
                obtain ⟨qb, qo, hQe, -, c0, c1, c2⟩ := (HQA.out.below RK2).at_ hjt
                subst hQe
                obtain ⟨⟨i0, i1⟩, ⟨i2, i3⟩, i4, i5⟩ := HBI.out j hjt
                obtain ⟨V, hV⟩ : ∃ V : Nat, (arg QS j).1 = (V : Int) := ⟨(arg QS j).1.toNat, by omega⟩
                obtain ⟨Tt, hTt⟩ : ∃ Tt : Nat, (arg QS j).2.1 = (Tt : Int) := ⟨(arg QS j).2.1.toNat, by omega⟩
                obtain ⟨l, hl⟩ : ∃ l, (arg QS j).2.2 = l := ⟨_, rfl⟩
                have hea : arg QS j = ((V : Int), (Tt : Int), l) := by rw [← hV, ← hTt, ← hl]
                have hVn : V < zs.length := by omega
                have hTn : Tt < ts.length := by omega
                have hVi : (V : Int) < zs.length := by omega
                have hTi : (Tt : Int) < ts.length := by omega
                obtain ⟨h3a, h3b, h3c⟩ := spT_three U QS j V Tt l hea
                have H3A := Lib.hid h3a
                have H3B := Lib.hid h3b
                have H3C := Lib.hid h3c
                have hub := HBD.out V hVn
                have hyb := HSP.out j (by omega) Tt
                rw [hl] at i4 i5
                rw [hea] at c0 c1 c2
                dsimp only at c0 c1 c2
                clear h3a h3b h3c i0 i1 i2 i3 hV hTt hl hea
                have kv := below1 wr (.cells #[.int .i64 (V : Int), .int .i64 (Tt : Int), .int .i64 l] 67)
                have B3 := Trip.new wr 67 (.int .i64 (V : Int)) (.int .i64 (Tt : Int)) (.int .i64 l)
                have RB1 := RB.below kv
                have DD1 := DD.below kv
                have RK1 := RK.trans (kv.mono (by have := RB.lt; omega))
                have D1k := (D1.below RK2).below kv
                obtain ⟨a0, a1, a2, -⟩ := B3.cells
                have cu := D1k.cell hVn
                have ct := DD1.cell hTn
                have fz := DD1.frozen (dof + Tt)
                have r0 := RB1.cell
                have HDS := Lib.hid (DD1.set Tt (zg U V + l))
                have HRS := Lib.hid (RB1.far (c := dg) (by omega) (dof + Tt) (.int .i64 (zg U V + l)))
                have HKS := Lib.hid (RK1.setCell (p := ⟨dg, dof + Tt, none⟩) (by simp; omega) (.int .i64 (zg U V + l)))
                clear kv B3 RB DD RK D1k
                generalize hy : spT U QS j Tt = y at *
                generalize hx : zg U V = x at *
                clear hx hy
                by_cases hx : x = -1
                · have HN := Lib.hid (H3A.out hx)
                  have hx1 : (x != -1) = false := by simpa using hx
                  clear hx H3A H3B H3C
                  go_wp2_with fail
                  go_quiet (fail)
                  go_wp2
                  clear a0 a1 a2 cu ct fz r0 c0 c1 c2
                  go_roundw
                  case rel => exact ⟨j + 1, by omega, by go_num, RB1, OwnAt.of_block (DD1.congr (fun q _ => (HN.out q).symm)) rfl, below_drewN RK1 _⟩
                  case measure => simp [intOf]; omega
                have hx1 : (x != -1) = true := by simpa using hx
                have hwr : IntKind.i64.wrap (x + l) = x + l := by rw [IntWalk.i64_left]; unfold wrap64; omega
                by_cases hyy : y = -1 ∨ x + l < y
                · have HN := Lib.hid (H3C.out hx hyy)
                  have DS : OwnAt _ dg 3 dof ts.length (fun q => spT U QS (j + 1) q) := HDS.out.congr (fun q _ => (HN.out q).symm)
                  have RS := HRS.out
                  have KS := HKS.out
                  clear H3A H3B H3C HN HDS HRS HKS hx
                  by_cases hy1 : y = -1
                  · have hyb1 : (y == -1) = true := by simpa using hy1
                    clear hyy hy1
                    go_wp2_with fail
                    go_quiet (fail)
                    go_wp2_with fail
                    go_region
                    all_goals (
                      go_wp2
                      clear a0 a1 a2 cu ct fz r0 c0 c1 c2
                      go_roundw
                      case rel => exact ⟨j + 1, by omega, by go_num, RS, OwnAt.of_block DS rfl, below_drewN KS _⟩
                      case measure => simp [intOf]; omega)
                  · have hyb1 : (y == -1) = false := by simpa using hy1
                    have hlt1 : x + l < y := by rcases hyy with h | h; exact absurd h hy1; exact h
                    have hlt2 : decide (x + l < y) = true := decide_eq_true hlt1
                    clear hyy hy1
                    go_wp2_with fail
                    go_quiet (fail)
                    go_wp2_with fail
                    go_region
                    all_goals (
                      go_wp2
                      clear a0 a1 a2 cu ct fz r0 c0 c1 c2
                      go_roundw
                      case rel => exact ⟨j + 1, by omega, by go_num, RS, OwnAt.of_block DS rfl, below_drewN KS _⟩
                      case measure => simp [intOf]; omega)
                · have HN := Lib.hid (H3B.out hyy)
                  have hyb1 : (y == -1) = false := beq_eq_false_iff_ne.2 (fun e => hyy (.inl e))
                  have hlt2 : decide (x + l < y) = false := decide_eq_false (fun e => hyy (.inr e))
                  clear H3A H3B H3C HDS HRS HKS hx hyy
                  go_wp2_with fail
                  go_quiet (fail)
                  go_wp2
                  clear a0 a1 a2 cu ct fz r0 c0 c1 c2
                  go_roundw
                  case rel => exact ⟨j + 1, by omega, by go_num, RB1, OwnAt.of_block (DD1.congr (fun q _ => (HN.out q).symm)) rfl, below_drewN RK1 _⟩
                  case measure => simp [intOf]; omega
              · obtain rfl : j = QS.length := by omega
                have kb := k2.trans (RK2.mono k2.size)
                have hk2s := k2.size
                have hrbs := HRB.out
                obtain ⟨v', w', hr, T1, hlow, ⟨VB, cB, rfl⟩, g', hob⟩ := T.put2 (wr := wr) (B := some ⟨dg, dof, none⟩) (d := cap) (fn := fun x => spT U QS QS.length x) kb (by omega) (by omega) (fun _ => ⟨dg, dof, rfl, by omega, DD⟩)
                have T2 := T1.congr (f' := F) (fun q x hq hx => by
                  by_cases e : q = i
                  · subst e; rw [if_pos rfl]; exact (HFI2.out x).symm
                  · rw [if_neg e])
                have ka := below1 wr (.cells #[.slice (some ⟨dg, dof, none⟩) ts.length cap] 80)
                have kq := hlow (w.heap.size + 1) (Nat.le_refl _) (by have := kb.size; omega)
                have hXl := X.lt
                have X2 : Pair w' w.heap.size 30 (.slice A zs.length ca) (.slice B rs.length cb) := (kq.block w.heap.size (by omega)).trans (X.below kb)
                have OQ2 : OwnSl w' (w.heap.size + 2) 67 Q (QS.length * 3) (flatA QS) := ((OQ.below kb).below ka).of_block (fun b eb hb2 => g'.block b hb2 (fun e' => SQ.out b eb e'.symm))
                have SQ2 : Hid (∀ b, blk Q (QS.length * 3) = some b → (Value.slice VB (i + 1) cB).ownBlock ≠ some b) := Lib.hid (fun b eb e' => by
                  rcases hob with h | h
                  · rw [h] at e'; exact SQ.out b eb e'
                  · rw [h] at e'; injection e' with e'
                    have := (blk_own OQ eb).2
                    have := kb.size
                    omega)
                have hsz2 : w.heap.size + 2 ≤ w'.heap.size := by have := kq.size; have := kb.size; omega
                have K3 := (K.trans (kb.mono K.size)).trans (hlow w.heap.size (by omega) (by have := kb.size; have := K.size; omega))
                have r0 := RB.cell
                clear T T1 hlow g' hob ka kq OQ SQ X K kb RK RK2 RB DD hrbs hk2s hXl
                go_wp2_with (at_builtin; refine Lib.wpList_append_run _ rfl _ _ _ _ rfl _ _ rfl rfl _ _ hr ?_)
                clear hr r0
                go_wp2
                go_roundw
                case rel => exact ⟨i + 1, _, _, by omega, by go_num, HJ2, T2, X2, OQ2, SQ2, hsz2, K3⟩
                case measure => simp [intOf]; omega
      · obtain rfl : i = fs.length := by omega
        have HN := Lib.hid (HOKK.out (by
          rintro (q | ⟨q1, q2⟩ | ⟨j, hj, q⟩)
          · omega
          · omega
          · exact HJ.out j hj q))
        have HE := tabMade_of T (by omega) K
        clear T HJ HBADD HOKK
        go_wp2
        go_ret
        rw [HN.out]
        exact HE
  · have hts0 : ts.length = 0 := by omega
    have ht1 : ¬ (0 : Int) < ts.length := by omega
    have ht2 : decide ((0 : Int) < ts.length) = false := decide_eq_false ht1
    have hqs0 := HB0.out hts0
    go_wp2
    go_loopw [7, 9] (fun v vi wr => ∃ (i : Nat) (Af : Nat → Option Addr) (cf : Nat → Nat), i ≤ fs.length ∧ vi = .int .i64 i ∧ Hid (∀ j, j < i → clZ zs rs true (zg fs j) ≠ []) ∧ TabS wr (w.heap.size + 1) v i ts.length Af cf F ∧ Pair wr w.heap.size 30 (.slice A zs.length ca) (.slice B rs.length cb) ∧ OwnSl wr (w.heap.size + 2) 67 Q (QS.length * 3) (flatA QS) ∧ Hid (∀ b, blk Q (QS.length * 3) = some b → v.ownBlock ≠ some b) ∧ w.heap.size + 2 ≤ wr.heap.size ∧ Below w.heap.size w wr) (fun _ i _ => fs.length - (intOf i).toNat)
    case atStart => exact ⟨0, _, _, by omega, rfl, HJ0, T0, X, OQ, S0, hw1, K⟩
    case round =>
      clear T0 HJ0 X OQ S0 K hw1
      obtain ⟨i, Af, cf, hi, rfl, HJ, T, X, OQ, SQ, hsz, K⟩ := hrel
      by_cases hit : i < fs.length
      · have hii : (i : Int) < fs.length := by omega
        obtain ⟨fb, fo, rfl, -, c0⟩ := (hc.below K).at_ hit
        obtain ⟨x0, x1, -, -⟩ := X.cells
        obtain ⟨VT, cT, rfl⟩ := own_formB T.own
        have HUP : Hid (∀ w1, Below w.heap.size w w1 → Calls Try.prog 34 #[.agg #[.slice A zs.length ca, .slice B rs.length cb], .int .i64 (zg fs i)] w1 (IntsMade w1 (clZ zs rs true (zg fs i)))) := Lib.hid (fun w1 k1 => specUpsZ A B ca cb zs rs (zg fs i) w1 hn hm (ha.below k1) (hb.below k1))
        have hU := HU.out i
        have HFI2 := Lib.hid (HFI.out i)
        have HNX : Hid (clZ zs rs true (zg fs i) ≠ [] → ∀ j, j < i + 1 → clZ zs rs true (zg fs j) ≠ []) := Lib.hid (fun e j hj => by
          by_cases q : j = i
          · rw [q]; exact e
          · exact HJ.out j (by omega))
        have HNB : Hid (clZ zs rs true (zg fs i) = [] → N = 0) := Lib.hid (fun e => HBADD.out (.inr (.inr ⟨i, hit, e⟩)))
        generalize clZ zs rs true (zg fs i) = U at *
        generalize zg fs i = s at *
        obtain ⟨P, hPe⟩ : ∃ P : World → Prop, P = fun w' => Below wr.heap.size wr w' := ⟨_, rfl⟩
        have hst : StabB P := by rw [hPe]; exact fun w w' hb h => h.trans (hb.mono h.size)
        have TB : BkT w w.heap.size (.slice A zs.length ca) (.slice B rs.length cb) fb (fo + i) s P wr := ⟨x0, x1, c0, K, by rw [hPe]; exact Below.refl _ _⟩
        have HPE := Lib.hid hPe
        clear hPe x0 x1 c0
        go_wp2_with fail
        go_region_held3 (fun w' => BkT w w.heap.size (.slice A zs.length ca) (.slice B rs.length cb) fb (fo + i) s P w')
          (first | exact BkT.drew hst TB | assumption | (refine BkT.under hst (by assumption) ?_; assumption))
          (first
            | (go_at_call 34; refine (HUP.out _ (BkT.bel (by assumption))).mono ?_; rintro e w2 ⟨A1, c1, rfl, hc1, O1, b2⟩))
        rename_i hUU
        rw [HPE.out] at hUU
        obtain ⟨-, -, -, K2, k2⟩ := hUU
        have O1' : OwnSl w2 wr.heap.size 3 A1 U.length (zg U) := O1
        clear O1 b2 TB hst HPE HUP
        by_cases hUn : U = []
        · have HN := Lib.hid (HNB.out hUn)
          subst hUn
          have KE := K2.alloc K2.size (.cells #[] 80)
          clear O1' hc1 T HNB HNX HFI2 hU OQ SQ X
          go_wp2
          go_ret
          rw [HN.out]
          exact tabMade_none KE
        obtain ⟨hl1, hlp, hbd⟩ : U.length = zs.length ∧ 0 < zs.length ∧ ∀ v, v < zs.length → -1 ≤ zg U v ∧ zg U v ≤ (zs.length : Int) * 1000000 := by
          rcases hU with h | h
          · exact absurd h hUn
          · exact h
        have HJ2 := Lib.hid (HNX.out hUn)
        have HBD := Lib.hid (fun v (hv : v < zs.length) => (show -1 ≤ zg U v ∧ zg U v ≤ 1048576000000 by have := hbd v hv; omega))
        rw [hl1] at hc1 O1' ⊢
        obtain ⟨ug, uo, rfl, hug, D1⟩ := O1' hlp
        have hne : ((zs.length : Int) == 0) = false := beq_eq_false_iff_ne.2 (by omega)
        have HSP := Lib.hid (fun k (hk : k ≤ QS.length) x => spT_room (u := U) (qs := QS) (n := zs.length) (fun i hi => ⟨(HBI.out i hi).1, (HBI.out i hi).2.2⟩) (fun v hv => HBD.out v hv) x k hk)
        clear hU hbd HNX HNB hUn hl1 hc1 O1'
        -- THE BOX
        obtain ⟨rb, hrb⟩ : ∃ rb, rb = w2.heap.size := ⟨_, rfl⟩
        have kr := below1 w2 (.cells #[.slice none 0 0] 80)
        have R0 : DRow w2 (w2.alloc (.cells #[.slice none 0 0] 80)) rb 0 (.slice none 0 0) := by
          rw [hrb]
          exact ⟨heap_alloc_new _ _, ⟨rfl, .inl ⟨rfl, rfl⟩⟩, kr⟩
        have HRB := Lib.hid hrb
        have hrb2 : w2.heap.size = rb := hrb.symm
        clear hrb kr
        have r0 := R0.box.cell
        have kb : Below wr.heap.size wr (w2.alloc (.cells #[.slice none 0 0] 80)) := k2.trans ((below1 w2 (.cells #[.slice none 0 0] 80)).mono k2.size)
        obtain ⟨v', w', hr, T1, hlow, ⟨VB, cB, rfl⟩, g', hob⟩ := T.put2 (wr := w2.alloc (.cells #[.slice none 0 0] 80)) (B := none) (d := 0) (fn := fun _ => 0) kb (by omega) (by omega) (fun hp => by omega)
        have T2 := T1.congr (f' := F) (fun q x hq hx => by omega)
        have ka := below1 (w2.alloc (.cells #[.slice none 0 0] 80)) (.cells #[.slice none ts.length 0] 80)
        have kq := hlow (w.heap.size + 1) (Nat.le_refl _) (by have := kb.size; omega)
        have hXl := X.lt
        have X2 : Pair w' w.heap.size 30 (.slice A zs.length ca) (.slice B rs.length cb) := (kq.block w.heap.size (by omega)).trans (X.below kb)
        have OQ2 : OwnSl w' (w.heap.size + 2) 67 Q (QS.length * 3) (flatA QS) := ((OQ.below kb).below ka).of_block (fun b eb hb2 => g'.block b hb2 (fun e' => SQ.out b eb e'.symm))
        have SQ2 : Hid (∀ b, blk Q (QS.length * 3) = some b → (Value.slice VB (i + 1) cB).ownBlock ≠ some b) := Lib.hid (fun b eb e' => by
          rcases hob with h | h
          · rw [h] at e'; exact SQ.out b eb e'
          · rw [h] at e'; injection e' with e'
            have := (blk_own OQ eb).2
            have := kb.size
            omega)
        have hsz2 : w.heap.size + 2 ≤ w'.heap.size := by have := kq.size; have := kb.size; omega
        have K3 := (K.trans (kb.mono K.size)).trans (hlow w.heap.size (by omega) (by have := kb.size; have := K.size; omega))
        rw [World.size_alloc, hrb2, hts0] at hr
        clear T T1 hlow g' hob ka kq OQ SQ X K kb hXl R0
        go_wp2
        refine wp_loop_rounds 1 ?_; rw [rounds_succ]
        go_wp2
        refine wp_loop_rounds 1 ?_; rw [rounds_succ]
        go_wp2_with (at_builtin; refine Lib.wpList_append_run _ rfl _ _ _ _ rfl _ _ rfl rfl _ _ hr ?_)
        clear hr r0
        go_wp2
        go_roundw
        case rel => exact ⟨i + 1, _, _, by omega, by go_num, HJ2, T2, X2, OQ2, SQ2, hsz2, K3⟩
        case measure => simp [intOf]; omega
      · obtain rfl : i = fs.length := by omega
        have HN := Lib.hid (HOKK.out (by
          rintro (q | ⟨q1, q2⟩ | ⟨j, hj, q⟩)
          · omega
          · omega
          · exact HJ.out j hj q))
        have HE := tabMade_of T (by omega) K
        clear T HJ HBADD HOKK
        go_wp2
        go_ret
        rw [HN.out]
        exact HE

end Go.Proofs.Ytagaildnfbegkab
