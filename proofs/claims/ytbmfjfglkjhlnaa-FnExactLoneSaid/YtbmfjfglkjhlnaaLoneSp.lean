/-
  A network without a node: what Lone gives; what spec.Lone computes.
-/
import Derived.Test.YtbmfjfglkjhlnaaLoweredI
import Derived.Test.YtbmfjfglkjhlnaaDistTop
namespace Go.Proofs.Ytbmfjfglkjhlnaa
open Go.RowKit Go.Deep Go.Maps

/-- Whether an arc does without node v; the arcs that do. -/
def loneB (v : Int) (a : A3) : Bool := a.1 != v && a.2.1 != v
def loneL (rs : List A3) (v : Int) : List A3 := rs.filter (loneB v)
theorem loneL_take {rs : List A3} {v : Int} {k : Nat} (hk : k < rs.length) : loneL (rs.take (k + 1)) v = if loneB v (arg rs k) = true then loneL (rs.take k) v ++ [arg rs k] else loneL (rs.take k) v := by
  have e : rs.take (k + 1) = rs.take k ++ [arg rs k] := by
    rw [List.take_succ_eq_append_getElem hk]; unfold arg; rw [List.getD_eq_getElem?_getD, List.getElem?_eq_getElem hk]; rfl
  unfold loneL
  rw [e, List.filter_append]
  cases h : loneB v (arg rs k) with
  | true => rw [if_pos rfl, List.filter_cons_of_pos h]; rfl
  | false => rw [if_neg (by simp), List.filter_cons_of_neg (by rw [h]; simp)]; simp
theorem loneL_le (rs : List A3) (v : Int) (k : Nat) : (loneL (rs.take k) v).length ≤ k := by
  unfold loneL
  have h1 := List.length_filter_le (loneB v) (rs.take k)
  have h2 := List.length_take (i := k) (l := rs)
  omega
theorem loneL_len (rs : List A3) (v : Int) : (loneL rs v).length ≤ rs.length := List.length_filter_le _ _
def loneP (ps : List (Int × Int)) (rs : List A3) (v : Int) : List (Int × Int) := if netB ps rs = true ∧ btB v 0 ((ps.length : Int) - 1) = true then ps else []
def loneR (ps : List (Int × Int)) (rs : List A3) (v : Int) : List A3 := if netB ps rs = true ∧ btB v 0 ((ps.length : Int) - 1) = true then loneL rs v else []
theorem lone_no {ps : List (Int × Int)} {rs : List A3} {v : Int} (h : netB ps rs = false ∨ btB v 0 ((ps.length : Int) - 1) = false) : loneP ps rs v = [] ∧ loneR ps rs v = [] := by
  have hc : ¬ (netB ps rs = true ∧ btB v 0 ((ps.length : Int) - 1) = true) := by
    rintro ⟨h1, h2⟩; rcases h with h | h
    · rw [h1] at h; cases h
    · rw [h2] at h; cases h
  unfold loneP loneR; rw [if_neg hc, if_neg hc]; exact ⟨rfl, rfl⟩
theorem lone_yes {ps : List (Int × Int)} {rs : List A3} {v : Int} (h1 : netB ps rs = true) (h2 : btB v 0 ((ps.length : Int) - 1) = true) : loneP ps rs v = ps ∧ loneR ps rs v = loneL rs v := by
  unfold loneP loneR; rw [if_pos ⟨h1, h2⟩, if_pos ⟨h1, h2⟩]; exact ⟨rfl, rfl⟩
theorem lone_lens (ps : List (Int × Int)) (rs : List A3) (v : Int) (hn : ps.length ≤ 1048576) (hm : rs.length ≤ 1048576) : (loneP ps rs v).length ≤ 1048576 ∧ (loneR ps rs v).length ≤ 1048576 := by
  have := loneL_len rs v
  unfold loneP loneR
  split
  · omega
  · simp
theorem netOwned_nil {w w' : World} (K : Below w.heap.size w w') : NetOwned w [] [] (.returned (.agg #[.slice none 0 0, .slice none 0 0])) w' :=
  ⟨none, none, 0, 0, rfl, fun h => by simp at h, fun h => by simp at h, fun g e => by simp [blk] at e, K⟩

set_option maxHeartbeats 1000000 in
theorem specLone_no (A B : Option Addr) (ca cb : Nat) (ps : List (Int × Int)) (rs : List A3) (v : Int) (w : World) (hn : ps.length ≤ 1048576) (hm : rs.length ≤ 1048576) (ha : IsPts w A ps) (hb : IsArcs w B rs) (hno : netB ps rs = false ∨ btB v 0 ((ps.length : Int) - 1) = false) :
    Calls Try.prog 46 #[.agg #[.slice A ps.length ca, .slice B rs.length cb], .int .i64 v] w (NetOwned w [] []) := by
  have X := (Pair.new w 34 (.slice A ps.length ca) (.slice B rs.length cb)).alloc (.cells #[.slice none 0 0, .slice none 0 0] 34)
  have Y : Pair ((w.alloc (.cells #[.slice A ps.length ca, .slice B rs.length cb] 34)).alloc (.cells #[.slice none 0 0, .slice none 0 0] 34)) (w.heap.size + 1) 34 (.slice none 0 0) (.slice none 0 0) := by
    have := Pair.new (w.alloc (.cells #[.slice A ps.length ca, .slice B rs.length cb] 34)) 34 (.slice none 0 0) (.slice none 0 0); rwa [World.size_alloc] at this
  have K := below2 w (.cells #[.slice A ps.length ca, .slice B rs.length cb] 34) (.cells #[.slice none 0 0, .slice none 0 0] 34)
  obtain ⟨x0, x1, -, -⟩ := X.cells
  cases h1 : netB ps rs with
  | false =>
    go_enter Try.func46, Try.ntmps46
    go_wp2_with fail
    refine (specNetOk_any A B ca cb ps rs _ hn hm (ha.below K) (hb.below K)).mono ?_; rw [h1]; rintro e w1 ⟨rfl, b1⟩
    replace Y := Y.below b1
    replace K := K.trans (b1.mono K.size)
    clear b1 x0 x1 X
    obtain ⟨y0, y1, y2, y3⟩ := Y.cells
    go_wp2
    exact bodyPost_ret (v := .agg #[.slice none 0 0, .slice none 0 0]) (by simp [results, Try.results46, go_sem, y0, y1]) rfl (netOwned_nil ((K.setCell (by simp) _).setCell (by simp) _))
  | true =>
    have h2 : btB v 0 ((ps.length : Int) - 1) = false := hno.resolve_left (by rw [h1]; simp)
    go_enter Try.func46, Try.ntmps46
    go_wp2_with fail
    refine (specNetOk_any A B ca cb ps rs _ hn hm (ha.below K) (hb.below K)).mono ?_; rw [h1]; rintro e w1 ⟨rfl, b1⟩
    replace X := X.below b1
    replace Y := Y.below b1
    replace K := K.trans (b1.mono K.size)
    clear b1 x0 x1
    obtain ⟨x0, x1, -, -⟩ := X.cells
    go_wp2_with fail
    refine (l04Node_any A B ps.length rs.length ca cb v _ hn).mono ?_; rw [h2]; rintro e w2 ⟨rfl, b2⟩
    replace Y := Y.below b2
    replace K := K.trans (b2.mono K.size)
    clear b2 x0 x1 X
    obtain ⟨y0, y1, y2, y3⟩ := Y.cells
    go_wp2
    exact bodyPost_ret (v := .agg #[.slice none 0 0, .slice none 0 0]) (by simp [results, Try.results46, go_sem, y0, y1]) rfl (netOwned_nil ((K.setCell (by simp) _).setCell (by simp) _))

set_option maxRecDepth 100000 in
set_option maxHeartbeats 4000000 in
theorem specLone_yes (ad : Addr) (B : Option Addr) (ca cb : Nat) (ps : List (Int × Int)) (rs : List A3) (v : Int) (w : World) (hn : ps.length ≤ 1048576) (hm : rs.length ≤ 1048576) (ha : IsPts w (some ad) ps) (hb : IsArcs w B rs) (h1 : netB ps rs = true) (h2 : btB v 0 ((ps.length : Int) - 1) = true) :
    Calls Try.prog 46 #[.agg #[.slice (some ad) ps.length ca, .slice B rs.length cb], .int .i64 v] w (NetOwned w ps (loneL rs v)) := by
  obtain ⟨i0, hi, hz0, hz1, hz2⟩ := info_parts Try.infoPt
  have X := (Pair.new w 34 (.slice (some ad) ps.length ca) (.slice B rs.length cb)).alloc (.cells #[.slice none 0 0, .slice none 0 0] 34)
  have Y : Pair ((w.alloc (.cells #[.slice (some ad) ps.length ca, .slice B rs.length cb] 34)).alloc (.cells #[.slice none 0 0, .slice none 0 0] 34)) (w.heap.size + 1) 34 (.slice none 0 0) (.slice none 0 0) := by
    have := Pair.new (w.alloc (.cells #[.slice (some ad) ps.length ca, .slice B rs.length cb] 34)) 34 (.slice none 0 0) (.slice none 0 0); rwa [World.size_alloc] at this
  have K := below2 w (.cells #[.slice (some ad) ps.length ca, .slice B rs.length cb] 34) (.cells #[.slice none 0 0, .slice none 0 0] 34)
  obtain ⟨h20, h70, -, -⟩ := netB_iff.1 h1
  obtain ⟨LL, hLL⟩ : ∃ LL, LL = loneL rs v := ⟨_, rfl⟩
  rw [← hLL]
  have HLL := Lib.hid hLL
  clear hLL
  obtain ⟨x0, x1, -, -⟩ := X.cells
  go_enter Try.func46, Try.ntmps46
  go_wp2_with fail
  refine (specNetOk_any (some ad) B ca cb ps rs _ hn hm (ha.below K) (hb.below K)).mono ?_; rw [h1]; rintro e w1 ⟨rfl, b1⟩
  replace X := X.below b1
  replace Y := Y.below b1
  replace K := K.trans (b1.mono K.size)
  clear b1 x0 x1
  obtain ⟨x0, x1, -, -⟩ := X.cells
  go_wp2_with fail
  refine (l04Node_any (some ad) B ps.length rs.length ca cb v _ hn).mono ?_; rw [h2]; rintro e w2 ⟨rfl, b2⟩
  clear x0 x1
  replace X := X.below b2
  replace Y := Y.below b2
  replace K := K.trans (b2.mono K.size)
  clear b2
  have yl := Y.lt
  have O := World.ownsRow_made (e := 104) (size := 2) (base := w.heap.size + 2) w2 #[] 0 (by omega) (Nat.zero_le _) rfl
  replace X := X.alloc (.cells #[] 104)
  replace Y := Y.alloc (.cells #[] 104)
  replace K := K.alloc K.size (.cells #[] 104)
  obtain ⟨x0, x1, -, -⟩ := X.cells
  have N1 := (ha.below K).news'
  have HN1 := Lib.hid N1
  clear N1
  go_wp2_with (at_builtin; (refine wpList_append_own _ rfl _ _ 31 rfl (w.heap.size + 2) 104 i0 (.agg #[.int .i64 0, .int .i64 0]) 2 16 Try.underlying31 hi hz0 hz1 hz2 rfl (by decide) _ _ _ rfl O ad ps.length ca (cellsP ps) rfl ?qc1 ?qc2 ?qc3 ?qc4 ?qc5 ?qc6 ?_))
  case qc1 => exact cellsP_len _
  case qc2 => exact HN1.out
  case qc3 => exact cellsP_one _
  case qc4 => unfold maxLen; omega
  case qc5 => omega
  case qc6 => simp; omega
  intro v4 w4 own4 g4 _
  clear x0 x1
  have hbk := ownsRow_block O
  replace X := X.grownUp g4 (fun g e => by have := hbk g e; omega)
  replace Y := Y.grownUp g4 (fun g e => by have := hbk g e; omega)
  replace K := K.grown g4 (by have := K.size; simp; omega) (fun g e => by have := hbk g e; omega)
  have own4' : w4.ownsRow (w.heap.size + 2) 104 2 v4 ps.length (cellsP ps) := by simpa using own4
  clear g4 hbk O own4 HN1
  obtain ⟨A4, c4, rfl, -, hA4⟩ := ownP_is own4'
  have P4 : OwnSl w4 (w.heap.size + 2) 104 A4 (ps.length * 2) (flatP ps) := fun hp => by obtain ⟨g, h1, h2, h3⟩ := hA4 (by omega); exact ⟨g, 0, h1, h2, h3⟩
  clear own4' hA4
  have hP4 : ∀ g, blk A4 (ps.length * 2) = some g → g < w4.heap.size := fun g e => (blk_own P4 e).2
  have Q := Pair.new w4 34 (.slice A4 ps.length c4) (.slice none 0 0)
  have b0 := below1 w4 (.cells #[.slice A4 ps.length c4, .slice none 0 0] 34)
  have hyo : w.heap.size + 1 < w4.heap.size := Y.lt
  replace X := X.below b0
  replace Y := Y.below b0
  replace P4 := P4.below b0
  replace K := K.trans (b0.mono K.size)
  clear b0 yl
  obtain ⟨ob, hob⟩ : ∃ ob, ob = w4.heap.size := ⟨_, rfl⟩
  rw [← hob] at Q hP4 hyo
  have HP4 := Lib.hid hP4
  clear hP4
  have HOB := Lib.hid hob
  clear hob
  go_wp2
  rw [← HOB.out]
  go_loopw [6] (fun i wr => ∃ (k : Nat) (V : Value), k ≤ rs.length ∧ i = .int .i64 k ∧ Pair wr w.heap.size 34 (.slice (some ad) ps.length ca) (.slice B rs.length cb) ∧ Pair wr (w.heap.size + 1) 34 (.slice none 0 0) (.slice none 0 0) ∧ Pair wr ob 34 (.slice A4 ps.length c4) V ∧ OwnSl wr (w.heap.size + 2) 104 A4 (ps.length * 2) (flatP ps) ∧ wr.ownsRow (ob + 1) 80 3 V (loneL (rs.take k) v).length (cellsA (loneL (rs.take k) v)) ∧ Below w.heap.size w wr) (fun i _ => rs.length - (intOf i).toNat)
  case atStart => exact ⟨0, _, by omega, rfl, X, Y, Q, P4, by rw [List.take_zero]; exact World.ownsRow_nil _ _ _ _, K⟩
  case round =>
    clear X Y Q P4 K
    obtain ⟨k, V, hkl, rfl, X, Y, Q, P4, own, K⟩ := hrel
    obtain ⟨x0, x1, -, -⟩ := X.cells
    have ql := Q.lt
    have HGL := Lib.hid (fun g e => (World.ownsRow.lt own g e).2)
    have HWS := Lib.hid K.size
    by_cases hlt : k < rs.length
    · obtain ⟨b, off, rfl, -, c0, c1, c2⟩ := (hb.below K).at_ hlt
      have HTK := Lib.hid (loneL_take (v := v) hlt)
      have HLE := Lib.hid (loneL_le rs v k)
      generalize loneL (rs.take k) v = Lk at own HTK HLE
      generalize arg rs k = a at c0 c1 c2 HTK
      obtain ⟨F, T, Ln⟩ := a
      simp only at c0 c1 c2
      have hkl2 : (k : Int) < rs.length := by omega
      by_cases hF : F = v
      · have hFb : (F != v) = false := by simp [hF]
        have HNX : Hid (loneL (rs.take (k + 1)) v = Lk) := Lib.hid (by rw [HTK.out, if_neg]; unfold loneB; simp [hF])
        clear hF
        go_wp2
        go_roundw
        case rel => exact ⟨k + 1, _, by omega, by go_num, X, Y, Q, P4, by rw [HNX.out]; exact own, K⟩
        case measure => simp [intOf]; omega
      · have hFb : (F != v) = true := by simpa using hF
        by_cases hT : T = v
        · have hTb : (T != v) = false := by simp [hT]
          have HNX : Hid (loneL (rs.take (k + 1)) v = Lk) := Lib.hid (by rw [HTK.out, if_neg]; unfold loneB; simp [hT])
          clear hF hT
          go_wp2
          go_roundw
          case rel => exact ⟨k + 1, _, by omega, by go_num, X, Y, Q, P4, by rw [HNX.out]; exact own, K⟩
          case measure => simp [intOf]; omega
        · have hTb : (T != v) = true := by simpa using hT
          have HNX : Hid (loneL (rs.take (k + 1)) v = Lk ++ [(F, T, Ln)]) := Lib.hid (by rw [HTK.out, if_pos]; unfold loneB; rw [hFb, hTb]; rfl)
          clear hF hT
          obtain ⟨VA, cV, rfl⟩ := own_form own
          go_wp2_with fail
          have cw0 := c0
          have cw1 := c1
          have cw2 := c2
          have qw1 := Q.cells.2.1
          have xw1 := X.cells.2.1
          replace X : Pair wr.drew _ _ _ _ := X
          replace Y : Pair wr.drew _ _ _ _ := Y
          replace Q : Pair wr.drew _ _ _ _ := Q
          have kdw : Below wr.heap.size wr wr.drew := (Below.refl _ wr).drew
          replace own : wr.drew.ownsRow (ob + 1) 80 3 (.slice VA Lk.length cV) Lk.length (cellsA Lk) := own
          replace P4 := P4.below kdw
          replace K := K.drew
          replace c0 : wr.drew.cell? _ = _ := c0
          replace c1 : wr.drew.cell? _ = _ := c1
          replace c2 : wr.drew.cell? _ = _ := c2
          clear x0 x1 kdw
          have hsU : wr.drew.heap.size = wr.heap.size := rfl
          have kb := below1 wr.drew (.cells #[.int .i64 F, .int .i64 T, .int .i64 Ln] 80)
          obtain ⟨v', w', hr, own', g'⟩ := run_append_arc 32 (ob + 1) _ Lk.length _ own (F, T, Ln) (by have := HLE.out; omega) (by omega)
          dsimp only at hr g'
          have hr2 : Sem.run Try.prog (Builtin.append_ #[32, 32] 32 #[.slice VA Lk.length cV, .slice (some ⟨wr.heap.size, 0, none⟩) 1 1]) (wr.alloc (.cells #[.int .i64 F, .int .i64 T, .int .i64 Ln] 80)).drew = .ok v' w' := hr
          rw [← cellsA_append] at own'
          obtain ⟨VB, cB, rfl⟩ := own_form own'
          have hbk := ownsRow_block own
          obtain ⟨x0, x1, -, -⟩ := X.cells
          obtain ⟨q0, q1, -, -⟩ := Q.cells
          have d0 := cell_under kb c0
          have d1 := cell_under kb c1
          have d2 := cell_under kb c2
          have dx := cell_under kb x1
          have dq := cell_under kb q1
          have X2 := (X.below kb).grownUp g' (fun g e => by have := hbk g e; have := HWS.out; omega)
          have Y2 := (Y.below kb).grownUp g' (fun g e => by have := hbk g e; omega)
          have Q2 := (Q.below kb).grownUp g' (fun g e => by have := hbk g e; omega)
          have P2 : OwnSl w' (w.heap.size + 2) 104 A4 (ps.length * 2) (flatP ps) := (P4.below kb).of_block (fun g e hg => g'.block g hg (fun e' => by have := HP4.out g e; have := hbk g e'.symm; omega))
          have K2 := (K.trans (kb.mono K.size)).grown g' (by have := K.size; rw [World.size_alloc]; omega) (fun g e => by have := hbk g e; have := hyo; omega)
          obtain ⟨qq0, qq1, qf0, qf1⟩ := Q2.cells
          have X3 := X2.far (c := ob) (by omega) 1 (.slice VB (Lk.length + 1) cB)
          have Y3 := Y2.far (c := ob) (by omega) 1 (.slice VB (Lk.length + 1) cB)
          have Q3 := Q2.set1 (.slice VB (Lk.length + 1) cB)
          have P3 : OwnSl (w'.setCell ⟨ob, 1, none⟩ (.slice VB (Lk.length + 1) cB)) (w.heap.size + 2) 104 A4 (ps.length * 2) (flatP ps) := P2.of_block (fun g e _ => Below.heap_setCell _ _ _ _ (by have := HP4.out g e; simp; omega))
          have own3 := ownsRow_far (c := ob) own' (by omega) 1 (.slice VB (Lk.length + 1) cB)
          have K3 := K2.setCell (p := ⟨ob, 1, none⟩) (by simp; omega) (.slice VB (Lk.length + 1) cB)
          have own3' : (w'.setCell ⟨ob, 1, none⟩ (.slice VB (Lk.length + 1) cB)).ownsRow (ob + 1) 80 3 (.slice VB (Lk.length + 1) cB) (loneL (rs.take (k + 1)) v).length (cellsA (loneL (rs.take (k + 1)) v)) := by
            rw [HNX.out, List.length_append]; exact own3
          clear X Y Q P4 own K X2 Y2 Q2 P2 K2 own' g' hbk own3 hsU
          go_region_law (first | (refine step_append_run rfl (.tmp 48) (.tmp 54) _ _ rfl _ _ rfl rfl _ _ hr2 ?_) | (refine step_append_run rfl (.tmp 48) (.tmp 54) _ _ rfl _ _ rfl rfl _ _ hr ?_))
          all_goals (
            clear hr hr2 d0 d1 d2 dx dq c0 c1 c2 x0 x1 q0 q1 qq0 qq1 qf0 qf1 cw0 cw1 cw2 qw1 xw1
            go_wp2
            go_roundw
            case rel => exact ⟨k + 1, _, by omega, by go_num, X3, Y3, Q3, P3, own3', K3⟩
            case measure => simp [intOf]; omega)
    · obtain rfl : k = rs.length := by omega
      clear hlt hkl
      rw [List.take_length, ← HLL.out] at own
      obtain ⟨VA, cV, rfl, -, -, hVA⟩ := ownA_is own
      have PA : OwnSl wr (ob + 1) 80 VA (LL.length * 3) (flatA LL) := fun hp => by obtain ⟨g, h1, h2, h3⟩ := hVA (by omega); exact ⟨g, 0, h1, h2, h3⟩
      have HPA := Lib.hid (fun g e => blk_own PA (g := g) e)
      clear hVA own HGL HWS
      obtain ⟨y0, y1, y2, y3⟩ := Y.cells
      obtain ⟨q0, q1, -, -⟩ := Q.cells
      go_wp2
      refine bodyPost_ret (v := .agg #[.slice A4 ps.length c4, .slice VA LL.length cV]) (by simp [results, Try.results46, go_sem, y0, y1]) rfl ⟨A4, VA, c4, cV, rfl, ?_, ?_, ?_, (K.setCell (by simp) _).setCell (by simp) _⟩
      · have := P4.of_block (w' := (wr.setCell ⟨w.heap.size + 1, 0, none⟩ (.slice A4 ps.length c4)).setCell ⟨w.heap.size + 1, 1, none⟩ (.slice VA LL.length cV)) (fun g e _ => by rw [Below.heap_setCell _ _ _ _ (by have := (blk_own P4 e).1; simp; omega), Below.heap_setCell _ _ _ _ (by have := (blk_own P4 e).1; simp; omega)])
        exact fun hp => by obtain ⟨g, o, h1, h2, h3⟩ := this hp; exact ⟨g, o, h1, by omega, h3⟩
      · have := PA.of_block (w' := (wr.setCell ⟨w.heap.size + 1, 0, none⟩ (.slice A4 ps.length c4)).setCell ⟨w.heap.size + 1, 1, none⟩ (.slice VA LL.length cV)) (fun g e _ => by rw [Below.heap_setCell _ _ _ _ (by have := (HPA.out g e).1; simp; omega), Below.heap_setCell _ _ _ _ (by have := (HPA.out g e).1; simp; omega)])
        exact fun hp => by obtain ⟨g, o, h1, h2, h3⟩ := this hp; exact ⟨g, o, h1, by omega, h3⟩
      · exact fun g e e' => by have := HP4.out g e; have := (HPA.out g e').1; omega

theorem specLone_any (ad : Addr) (B : Option Addr) (ca cb : Nat) (ps : List (Int × Int)) (rs : List A3) (v : Int) (w : World) (hn : ps.length ≤ 1048576) (hm : rs.length ≤ 1048576) (ha : IsPts w (some ad) ps) (hb : IsArcs w B rs) :
    Calls Try.prog 46 #[.agg #[.slice (some ad) ps.length ca, .slice B rs.length cb], .int .i64 v] w (NetOwned w (loneP ps rs v) (loneR ps rs v)) := by
  by_cases h : netB ps rs = false ∨ btB v 0 ((ps.length : Int) - 1) = false
  · rw [(lone_no h).1, (lone_no h).2]; exact specLone_no (some ad) B ca cb ps rs v w hn hm ha hb h
  · have hb' : ∀ b : Bool, ¬ b = false → b = true := fun b hb => by cases b <;> simp_all
    have h1 := hb' _ (fun e => h (.inl e))
    have h2 := hb' _ (fun e => h (.inr e))
    rw [(lone_yes h1 h2).1, (lone_yes h1 h2).2]
    exact specLone_yes ad B ca cb ps rs v w hn hm ha hb h1 h2

end Go.Proofs.Ytbmfjfglkjhlnaa
