/-
  What Lowered computes, in the program and in the specification: the network whose lengths are lowered by numbers at the nodes.
-/
import Derived.Test.YtpfaiiipmggnjaaPots
import Derived.Test.YtpfaiiipmggnjaaLinked
import Derived.Deep.DeepCutAuto
namespace Go.Proofs.Ytpfaiiipmggnjaa
open Go.RowKit Go.Deep

/-- An arc lowered; the lowered network. -/
def lowA (zs : List Int) (a : A3) : A3 := (a.1, a.2.1, min 10000 (a.2.2 + zg zs a.2.1.toNat - zg zs a.1.toNat + 1))
def lowL (zs : List Int) (rs : List A3) : List A3 := rs.map (lowA zs)
def lowP (ps : List (Int × Int)) (rs : List A3) (zs : List Int) : List (Int × Int) := if potB ps rs zs = true then ps else []
def lowR (ps : List (Int × Int)) (rs : List A3) (zs : List Int) : List A3 := if potB ps rs zs = true then lowL zs rs else []
theorem lowL_len (zs : List Int) (rs : List A3) : (lowL zs rs).length = rs.length := by simp [lowL]
theorem lowL_at {zs : List Int} {rs : List A3} {k : Nat} (hk : k < rs.length) : arg (lowL zs rs) k = lowA zs (arg rs k) := by unfold lowL arg; simp [hk]
theorem lowL_take {zs : List Int} {rs : List A3} {k : Nat} (hk : k < rs.length) : (lowL zs rs).take (k + 1) = (lowL zs rs).take k ++ [lowA zs (arg rs k)] := by
  rw [take_snoc3 (by rw [lowL_len]; exact hk), lowL_at hk]

set_option maxRecDepth 100000 in
/-- An arc appended to a row that is one's own. -/
theorem run_append_arc {w : World} (ty : TypeId) (base : Nat) (v : Value) (n : Nat) (xs : List Value) (hown : w.ownsRow base 92 3 v n xs) (a : A3) (hn : n ≤ 1048576) (hbase : base ≤ w.heap.size) :
    ∃ v' w', (Builtin.append_ #[25, 25] ty #[v, .slice (some ⟨w.heap.size, 0, none⟩) 1 1]).run Try.prog (w.alloc (.cells #[.int .i64 a.1, .int .i64 a.2.1, .int .i64 a.2.2] 92)) = .ok v' w' ∧ w'.ownsRow base 92 3 v' (n + 1) (xs ++ cellsA [a]) ∧ (w.alloc (.cells #[.int .i64 a.1, .int .i64 a.2.1, .int .i64 a.2.2] 92)).grownBy w' v.ownBlock := by
  obtain ⟨i0, hi, hz0, hz1, hz2⟩ := info_parts Try.infoArc
  obtain ⟨v', w', h1, h2, h3, -⟩ := run_append_own_at (P := Try.prog) (w.alloc (.cells #[.int .i64 a.1, .int .i64 a.2.1, .int .i64 a.2.2] 92)) base 25 ty 92 i0 (.agg #[.int .i64 0, .int .i64 0, .int .i64 0]) 3 24 Try.underlying25 hi hz0 hz1 hz2 rfl (by decide) v n xs (hown.alloc _) ⟨w.heap.size, 0, none⟩ 1 1 (cellsA [a]) rfl (cells3_new _ a _) (cellsA_one _) (by unfold maxLen; omega) (by omega) (by rw [World.size_alloc]; omega)
  exact ⟨v', w', h1, h2, h3⟩

theorem own_form {w : World} {base : Nat} {e : TypeId} {size n : Nat} {v : Value} {xs : List Value} (h : w.ownsRow base e size v n xs) : ∃ A c, v = .slice A n c := by
  rcases h.2 with ⟨h1, h2⟩ | ⟨g, cap, cur, h1, -⟩
  · exact ⟨none, 0, by rw [h1, h2]⟩
  · exact ⟨_, _, h1⟩
/-- What a lowered arc is made of. -/
theorem low_parts {n : Nat} {rs : List A3} {zs : List Int} {k : Nat} (hr : ArcsIn n rs) (hzn : zs.length = n) (hp : potIn zs = true) (hrd : redIn rs zs = true) (hk : k < rs.length) :
    ∃ (F T : Nat) (L x y : Int), arg rs k = ((F : Int), (T : Int), L) ∧ F < zs.length ∧ T < zs.length ∧ zg zs F = x ∧ zg zs T = y ∧ 0 ≤ x ∧ x ≤ 1000000 ∧ 0 ≤ y ∧ y ≤ 1000000 ∧ 1 ≤ L ∧ L ≤ 10000 ∧ red rs zs k = L + y - x ∧ 0 ≤ L + y - x ∧ lowA zs (arg rs k) = ((F : Int), (T : Int), min 10000 (L + y - x + 1)) := by
  obtain ⟨⟨f0, f1⟩, ⟨t0, t1⟩, hft, l0, l1⟩ := hr _ (arg_mem hk)
  have h0 := redIn_iff.1 hrd k hk
  have e0 : red rs zs k = (arg rs k).2.2 + zg zs (arg rs k).2.1.toNat - zg zs (arg rs k).1.toNat := rfl
  have e1 : lowA zs (arg rs k) = ((arg rs k).1, (arg rs k).2.1, min 10000 ((arg rs k).2.2 + zg zs (arg rs k).2.1.toNat - zg zs (arg rs k).1.toNat + 1)) := rfl
  rw [e1]
  rw [e0] at h0 ⊢
  generalize arg rs k = a at f0 f1 t0 t1 hft l0 l1 h0
  obtain ⟨f, t, L⟩ := a
  obtain ⟨F, rfl⟩ : ∃ F : Nat, f = (F : Int) := ⟨f.toNat, by simp at f0; omega⟩
  obtain ⟨T, rfl⟩ : ∃ T : Nat, t = (T : Int) := ⟨t.toNat, by simp at t0; omega⟩
  simp only [Int.toNat_natCast] at f0 f1 t0 t1 hft l0 l1 h0 ⊢
  have hF : F < zs.length := by omega
  have hT : T < zs.length := by omega
  have b1 := pot_bd hp hF
  have b2 := pot_bd hp hT
  exact ⟨F, T, L, zg zs F, zg zs T, rfl, hF, hT, rfl, rfl, b1.1, b1.2, b2.1, b2.2, l0, l1, rfl, h0, rfl⟩

set_option maxHeartbeats 1000000 in
theorem specLowered_no (A B C : Option Addr) (ca cb cc : Nat) (ps : List (Int × Int)) (rs : List A3) (zs : List Int) (w : World) (hn : ps.length ≤ 1048576) (hm : rs.length ≤ 1048576) (hk : zs.length ≤ 1048576) (ha : IsPts w A ps) (hb : IsArcs w B rs) (hz : IsInts w C zs) (hok : potB ps rs zs = false) :
    Calls Try.prog 46 #[.agg #[.slice A ps.length ca, .slice B rs.length cb], .slice C zs.length cc] w (NetOwned w [] []) := by
  have X := (Pair.new w 27 (.slice A ps.length ca) (.slice B rs.length cb)).alloc (.cells #[.slice none 0 0, .slice none 0 0] 27)
  have Y : Pair ((w.alloc (.cells #[.slice A ps.length ca, .slice B rs.length cb] 27)).alloc (.cells #[.slice none 0 0, .slice none 0 0] 27)) (w.heap.size + 1) 27 (.slice none 0 0) (.slice none 0 0) := by
    have := Pair.new (w.alloc (.cells #[.slice A ps.length ca, .slice B rs.length cb] 27)) 27 (.slice none 0 0) (.slice none 0 0); rwa [World.size_alloc] at this
  have K := below2 w (.cells #[.slice A ps.length ca, .slice B rs.length cb] 27) (.cells #[.slice none 0 0, .slice none 0 0] 27)
  obtain ⟨x0, x1, -, -⟩ := X.cells
  go_enter Try.func46, Try.ntmps46
  go_wp2_with fail
  refine (specPotOk_any A B C ca cb cc ps rs zs _ hn hm hk (ha.below K) (hb.below K) (hz.below K)).mono ?_; rw [hok]; rintro e w1 ⟨rfl, b1⟩
  replace Y := Y.below b1
  replace K := K.trans (b1.mono K.size)
  clear b1 x0 x1
  obtain ⟨y0, y1, y2, y3⟩ := Y.cells
  go_wp2
  exact bodyPost_ret (v := .agg #[.slice none 0 0, .slice none 0 0]) (by simp [results, Try.results46, go_sem, y0, y1]) rfl
    ⟨none, none, 0, 0, rfl, fun h => by simp at h, fun h => by simp at h, fun g e => by simp [blk] at e, (K.setCell (by simp) _).setCell (by simp) _⟩

set_option maxHeartbeats 1000000 in
theorem implLowered_no (A B C : Option Addr) (ca cb cc : Nat) (ps : List (Int × Int)) (rs : List A3) (zs : List Int) (w : World) (hn : ps.length ≤ 1048576) (hm : rs.length ≤ 1048576) (hk : zs.length ≤ 1048576) (ha : IsPts w A ps) (hb : IsArcs w B rs) (hz : IsInts w C zs) (hok : potB ps rs zs = false) :
    Calls Try.prog 47 #[.agg #[.slice A ps.length ca, .slice B rs.length cb], .slice C zs.length cc] w (NetOwned w [] []) := by
  have X := (Pair.new w 27 (.slice A ps.length ca) (.slice B rs.length cb)).alloc (.cells #[.slice none 0 0, .slice none 0 0] 27)
  have Y : Pair ((w.alloc (.cells #[.slice A ps.length ca, .slice B rs.length cb] 27)).alloc (.cells #[.slice none 0 0, .slice none 0 0] 27)) (w.heap.size + 1) 27 (.slice none 0 0) (.slice none 0 0) := by
    have := Pair.new (w.alloc (.cells #[.slice A ps.length ca, .slice B rs.length cb] 27)) 27 (.slice none 0 0) (.slice none 0 0); rwa [World.size_alloc] at this
  have K := below2 w (.cells #[.slice A ps.length ca, .slice B rs.length cb] 27) (.cells #[.slice none 0 0, .slice none 0 0] 27)
  obtain ⟨x0, x1, -, -⟩ := X.cells
  go_enter Try.func47, Try.ntmps47
  go_wp2_with fail
  refine (implPotOk_any A B C ca cb cc ps rs zs _ hn hm hk (ha.below K) (hb.below K) (hz.below K)).mono ?_; rw [hok]; rintro e w1 ⟨rfl, b1⟩
  replace Y := Y.below b1
  replace K := K.trans (b1.mono K.size)
  clear b1 x0 x1
  obtain ⟨y0, y1, y2, y3⟩ := Y.cells
  go_wp2
  exact bodyPost_ret (v := .agg #[.slice none 0 0, .slice none 0 0]) (by simp [results, Try.results47, go_sem, y0, y1]) rfl
    ⟨none, none, 0, 0, rfl, fun h => by simp at h, fun h => by simp at h, fun g e => by simp [blk] at e, (K.setCell (by simp) _).setCell (by simp) _⟩

set_option maxRecDepth 100000 in
set_option maxHeartbeats 4000000 in
theorem specLowered_yes (ad : Addr) (B C : Option Addr) (ca cb cc : Nat) (ps : List (Int × Int)) (rs : List A3) (zs : List Int) (w : World) (hn : ps.length ≤ 1048576) (hm : rs.length ≤ 1048576) (hkz : zs.length ≤ 1048576) (ha : IsPts w (some ad) ps) (hb : IsArcs w B rs) (hz : IsInts w C zs) (hok : potB ps rs zs = true) :
    Calls Try.prog 46 #[.agg #[.slice (some ad) ps.length ca, .slice B rs.length cb], .slice C zs.length cc] w (NetOwned w ps (lowL zs rs)) := by
  obtain ⟨i0, hi, hz0, hz1, hz2⟩ := info_parts Try.infoPt
  have X := (Pair.new w 27 (.slice (some ad) ps.length ca) (.slice B rs.length cb)).alloc (.cells #[.slice none 0 0, .slice none 0 0] 27)
  have Y : Pair ((w.alloc (.cells #[.slice (some ad) ps.length ca, .slice B rs.length cb] 27)).alloc (.cells #[.slice none 0 0, .slice none 0 0] 27)) (w.heap.size + 1) 27 (.slice none 0 0) (.slice none 0 0) := by
    have := Pair.new (w.alloc (.cells #[.slice (some ad) ps.length ca, .slice B rs.length cb] 27)) 27 (.slice none 0 0) (.slice none 0 0); rwa [World.size_alloc] at this
  have K := below2 w (.cells #[.slice (some ad) ps.length ca, .slice B rs.length cb] 27) (.cells #[.slice none 0 0, .slice none 0 0] 27)
  obtain ⟨hok1, hzl, hpi, hri⟩ := potB_iff.1 hok
  obtain ⟨h20, h70, -, -⟩ := netB_iff.1 hok1
  have HLP := Lib.hid (fun k hk => low_parts (k := k) (arcsIn_net hok1) hzl hpi hri hk)
  have HZL := Lib.hid hzl
  clear hzl hok1 hpi hri
  obtain ⟨x0, x1, -, -⟩ := X.cells
  go_enter Try.func46, Try.ntmps46
  go_wp2_with fail
  refine (specPotOk_any (some ad) B C ca cb cc ps rs zs _ hn hm hkz (ha.below K) (hb.below K) (hz.below K)).mono ?_; rw [hok]; rintro e w1 ⟨rfl, b1⟩
  clear x0 x1
  replace X := X.below b1
  replace Y := Y.below b1
  replace K := K.trans (b1.mono K.size)
  clear b1
  have yl := Y.lt
  have O := World.ownsRow_made (e := 103) (size := 2) (base := w.heap.size + 2) w1 #[] 0 (by omega) (Nat.zero_le _) rfl
  replace X := X.alloc (.cells #[] 103)
  replace Y := Y.alloc (.cells #[] 103)
  replace K := K.alloc K.size (.cells #[] 103)
  obtain ⟨x0, x1, -, -⟩ := X.cells
  have N1 := (ha.below K).news'
  have HN1 := Lib.hid N1
  clear N1
  go_wp2_with (at_builtin; (refine wpList_append_own _ rfl _ _ 24 rfl (w.heap.size + 2) 103 i0 (.agg #[.int .i64 0, .int .i64 0]) 2 16 Try.underlying24 hi hz0 hz1 hz2 rfl (by decide) _ _ _ rfl O ad ps.length ca (cellsP ps) rfl ?qc1 ?qc2 ?qc3 ?qc4 ?qc5 ?qc6 ?_))
  case qc1 => exact cellsP_len _
  case qc2 => exact HN1.out
  case qc3 => exact cellsP_one _
  case qc4 => unfold maxLen; omega
  case qc5 => omega
  case qc6 => simp; omega
  intro v4 w4 own4 g4 _
  clear x0 x1
  have hbk := ownsRow_block O
  replace X := X.grownUp g4 (fun g e => by have := hbk g e; omega)
  replace Y := Y.grownUp g4 (fun g e => by have := hbk g e; omega)
  replace K := K.grown g4 (by have := K.size; simp; omega) (fun g e => by have := hbk g e; omega)
  have own4' : w4.ownsRow (w.heap.size + 2) 103 2 v4 ps.length (cellsP ps) := by simpa using own4
  clear g4 hbk O own4 HN1
  obtain ⟨A4, c4, rfl, -, hA4⟩ := ownP_is own4'
  have P4 : OwnSl w4 (w.heap.size + 2) 103 A4 (ps.length * 2) (flatP ps) := fun hp => by obtain ⟨g, h1, h2, h3⟩ := hA4 (by omega); exact ⟨g, 0, h1, h2, h3⟩
  clear own4' hA4
  have hP4 : ∀ g, blk A4 (ps.length * 2) = some g → g < w4.heap.size := fun g e => (blk_own P4 e).2
  have Q := Pair.new w4 27 (.slice A4 ps.length c4) (.slice none 0 0)
  have b0 := below1 w4 (.cells #[.slice A4 ps.length c4, .slice none 0 0] 27)
  have hyo : w.heap.size + 1 < w4.heap.size := Y.lt
  replace X := X.below b0
  replace Y := Y.below b0
  replace P4 := P4.below b0
  replace K := K.trans (b0.mono K.size)
  clear b0 yl
  obtain ⟨ob, hob⟩ : ∃ ob, ob = w4.heap.size := ⟨_, rfl⟩
  rw [← hob] at Q hP4 hyo
  have HP4 := Lib.hid hP4
  clear hP4
  have HOB := Lib.hid hob
  clear hob
  go_wp2
  rw [← HOB.out]
  go_loopw [6] (fun i wr => ∃ (k : Nat) (V : Value), k ≤ rs.length ∧ i = .int .i64 k ∧ Pair wr w.heap.size 27 (.slice (some ad) ps.length ca) (.slice B rs.length cb) ∧ Pair wr (w.heap.size + 1) 27 (.slice none 0 0) (.slice none 0 0) ∧ Pair wr ob 27 (.slice A4 ps.length c4) V ∧ OwnSl wr (w.heap.size + 2) 103 A4 (ps.length * 2) (flatP ps) ∧ wr.ownsRow (ob + 1) 92 3 V k (cellsA ((lowL zs rs).take k)) ∧ Below w.heap.size w wr) (fun i _ => rs.length - (intOf i).toNat)
  case atStart => exact ⟨0, _, by omega, rfl, X, Y, Q, P4, by rw [List.take_zero]; exact World.ownsRow_nil _ _ _ _, K⟩
  case round =>
    clear X Y Q P4 K
    obtain ⟨k, V, hkl, rfl, X, Y, Q, P4, own, K⟩ := hrel
    obtain ⟨x0, x1, -, -⟩ := X.cells
    have ql := Q.lt
    have HGL := Lib.hid (fun g e => (World.ownsRow.lt own g e).2)
    have HWS := Lib.hid K.size
    by_cases hlt : k < rs.length
    · obtain ⟨b, off, rfl, -, c0, c1, c2⟩ := (hb.below K).at_ hlt
      obtain ⟨F, T, L, x, y, ea, hF, hT, ex, ey, x0', x1', y0', y1', l0, l1, -, hred, elow⟩ := HLP.out k hlt
      have HTS := Lib.hid (lowL_take (zs := zs) hlt)
      rw [elow] at HTS
      rw [ea] at c0 c1 c2
      clear ea elow
      have e' := hz.below K
      obtain ⟨d, o2, rfl, -, dF⟩ := e'.at_ hF
      obtain ⟨d', o2', hdd, -, dT⟩ := e'.at_ hT
      injection hdd with hdd
      injection hdd with hd1 hd2
      subst hd1 hd2
      rw [ex] at dF
      rw [ey] at dT
      clear ex ey e'
      have hFz : (F : Int) < zs.length := by omega
      have hTz : (T : Int) < zs.length := by omega
      have q1w : IntKind.i64.wrap (L + y) = L + y := IntWalk.i64_in _ (by omega)
      have q2w : IntKind.i64.wrap (L + y - x) = L + y - x := IntWalk.i64_in _ (by omega)
      have q3w : IntKind.i64.wrap (L + y - x + 1) = L + y - x + 1 := IntWalk.i64_in _ (by omega)
      -- the arc's copy
      have kb := below1 wr (.cells #[.int .i64 (F : Int), .int .i64 (T : Int), .int .i64 L] 92)
      have AR := Trio.new wr 92 (.int .i64 (F : Int)) (.int .i64 (T : Int)) (.int .i64 L)
      have dF1 := cell_under kb dF
      have dT1 := cell_under kb dT
      obtain ⟨a0, a1, a2⟩ := AR.cells
      have fz := frozen_of_block AR (i := 2)
      replace X := X.below kb
      replace Y := Y.below kb
      replace Q := Q.below kb
      replace P4 := P4.below kb
      replace own := ownsRow_below own kb
      replace K := K.trans (kb.mono K.size)
      obtain ⟨W, hW⟩ : ∃ W, W = wr.alloc (.cells #[.int .i64 (F : Int), .int .i64 (T : Int), .int .i64 L] 92) := ⟨_, rfl⟩
      have hsW : W.heap.size = wr.heap.size + 1 := by rw [hW]; simp
      rw [← hW] at X Y Q P4 own K AR dF1 dT1 a0 a1 a2 fz
      have HW := Lib.hid hW
      clear hW kb
      go_wp2_with fail
      rw [← HW.out]
      go_region
      all_goals (
        clear a0 a1 a2 fz dF1 dT1 c0 c1 c2 x0 x1 HW
        generalize hm1 : min 10000 (L + y - x + 1) = Z at HTS ⊢
        clear hm1
        have hAR : wr.heap.size < W.heap.size := by omega
        have hzz : ∀ c, c ≠ wr.heap.size → (W.setCell ⟨wr.heap.size, 2, none⟩ (.int .i64 Z)).heap[c]? = W.heap[c]? := fun c hc => Below.heap_setCell W _ _ c hc
        have AR1 : Trio (W.setCell ⟨wr.heap.size, 2, none⟩ (.int .i64 Z)) wr.heap.size 92 (.int .i64 (F : Int)) (.int .i64 (T : Int)) (.int .i64 Z) := block_set (w := W) (c := wr.heap.size) (i := 2) (.int .i64 Z) AR
        replace X := X.far (c := wr.heap.size) (by have := K.size; have := X.lt; omega) 2 (.int .i64 Z)
        replace Y := Y.far (c := wr.heap.size) (by omega) 2 (.int .i64 Z)
        replace Q := Q.far (c := wr.heap.size) (by omega) 2 (.int .i64 Z)
        replace P4 : OwnSl (W.setCell ⟨wr.heap.size, 2, none⟩ (.int .i64 Z)) (w.heap.size + 2) 103 A4 (ps.length * 2) (flatP ps) := P4.of_block (fun g e _ => Below.heap_setCell _ _ _ _ (by have := HP4.out g e; simp; omega))
        replace own : (W.setCell ⟨wr.heap.size, 2, none⟩ (.int .i64 Z)).ownsRow (ob + 1) 92 3 V k (cellsA ((lowL zs rs).take k)) := World.ownsRow.kept own (grown_set (World.grownBy.refl W _) 2 _) (.inr (fun e => by have := HGL.out _ e; omega))
        replace K := K.setCell (p := ⟨wr.heap.size, 2, none⟩) (by have := HWS.out; simp; omega) (.int .i64 Z)
        replace X := X.drewM 1
        replace Y := Y.drewM 1
        replace Q := Q.drewM 1
        replace AR1 : Trio (W.setCell ⟨wr.heap.size, 2, none⟩ (.int .i64 Z)).drew wr.heap.size 92 (.int .i64 (F : Int)) (.int .i64 (T : Int)) (.int .i64 Z) := AR1
        replace P4 : OwnSl (W.setCell ⟨wr.heap.size, 2, none⟩ (.int .i64 Z)).drew (w.heap.size + 2) 103 A4 (ps.length * 2) (flatP ps) := P4.of_block (fun _ _ _ => rfl)
        replace own : (W.setCell ⟨wr.heap.size, 2, none⟩ (.int .i64 Z)).drew.ownsRow (ob + 1) 92 3 V k (cellsA ((lowL zs rs).take k)) := own
        replace K := K.drew
        change Pair (W.setCell ⟨wr.heap.size, 2, none⟩ (.int .i64 Z)).drew _ _ _ _ at X Y Q
        have hsV : (W.setCell ⟨wr.heap.size, 2, none⟩ (.int .i64 Z)).drew.heap.size = W.heap.size := by show (W.setCell ⟨wr.heap.size, 2, none⟩ (.int .i64 Z)).heap.size = _; simp [World.setCell]
        clear hzz AR
        generalize (W.setCell ⟨wr.heap.size, 2, none⟩ (.int .i64 Z)).drew = U at X Y Q P4 own K AR1 hsV ⊢
        have hUb : ob + 1 ≤ U.heap.size := by omega
        obtain ⟨VA, cV, rfl⟩ := own_form own
        obtain ⟨v', w', hr, own', g'⟩ := run_append_arc 25 (ob + 1) _ k _ own ((F : Int), (T : Int), Z) (by omega) hUb
        dsimp only at hr g'
        rw [← cellsA_append, ← HTS.out] at own'
        obtain ⟨VB, cB, rfl⟩ := own_form own'
        have hbk := ownsRow_block own
        have kb := below1 U (.cells #[.int .i64 (F : Int), .int .i64 (T : Int), .int .i64 Z] 92)
        obtain ⟨a0, a1, a2⟩ := AR1.cells
        obtain ⟨q0, q1, -, -⟩ := Q.cells
        have X2 := (X.below kb).grownUp g' (fun g e => by have := hbk g e; omega)
        have Y2 := (Y.below kb).grownUp g' (fun g e => by have := hbk g e; omega)
        have Q2 := (Q.below kb).grownUp g' (fun g e => by have := hbk g e; omega)
        have P2 : OwnSl w' (w.heap.size + 2) 103 A4 (ps.length * 2) (flatP ps) := (P4.below kb).of_block (fun g e hg => g'.block g hg (fun e' => by have := HP4.out g e; have := hbk g e'.symm; omega))
        have K2 := (K.trans (kb.mono K.size)).grown g' (by have := K.size; rw [World.size_alloc]; omega) (fun g e => by have := hbk g e; omega)
        obtain ⟨-, qq1, -, qf1⟩ := Q2.cells
        have X3 := X2.far (c := ob) (by omega) 1 (.slice VB (k + 1) cB)
        have Y3 := Y2.far (c := ob) (by omega) 1 (.slice VB (k + 1) cB)
        have Q3 := Q2.set1 (.slice VB (k + 1) cB)
        have P3 : OwnSl (w'.setCell ⟨ob, 1, none⟩ (.slice VB (k + 1) cB)) (w.heap.size + 2) 103 A4 (ps.length * 2) (flatP ps) := P2.of_block (fun g e _ => Below.heap_setCell _ _ _ _ (by have := HP4.out g e; simp; omega))
        have own3 := ownsRow_far (c := ob) own' (by omega) 1 (.slice VB (k + 1) cB)
        have K3 := K2.setCell (p := ⟨ob, 1, none⟩) (by simp; omega) (.slice VB (k + 1) cB)
        clear X Y Q P4 own K X2 Y2 Q2 P2 K2 own' g' hbk kb AR1 hsV hsW
        go_wp2_with (at_builtin; refine Lib.wpList_append_run _ rfl _ _ _ _ rfl _ _ rfl rfl _ _ hr ?_)
        go_roundw
        case rel => exact ⟨k + 1, _, by omega, by go_num, X3, Y3, Q3, P3, own3, K3⟩
        case measure => simp [intOf]; omega)
    · obtain rfl : k = rs.length := by omega
      clear hlt hkl
      rw [List.take_of_length_le (by rw [lowL_len]; exact Nat.le_refl _)] at own
      have HLE := Lib.hid (lowL_len zs rs)
      replace own := ownsRow_len own HLE.out.symm
      obtain ⟨VA, cV, hV, -, -, hVA⟩ := ownA_is own
      rw [HLE.out] at hV
      subst hV
      have PA : OwnSl wr (ob + 1) 92 VA ((lowL zs rs).length * 3) (flatA (lowL zs rs)) := fun hp => by obtain ⟨g, h1, h2, h3⟩ := hVA (by omega); exact ⟨g, 0, h1, h2, h3⟩
      have HPA := Lib.hid (fun g e => blk_own PA (g := g) e)
      clear hVA own HGL HWS
      obtain ⟨y0, y1, y2, y3⟩ := Y.cells
      obtain ⟨q0, q1, -, -⟩ := Q.cells
      go_wp2
      refine bodyPost_ret (v := .agg #[.slice A4 ps.length c4, .slice VA rs.length cV]) (by simp [results, Try.results46, go_sem, y0, y1]) rfl ⟨A4, VA, c4, cV, by rw [HLE.out], ?_, ?_, ?_, (K.setCell (by simp) _).setCell (by simp) _⟩
      · have := P4.of_block (w' := (wr.setCell ⟨w.heap.size + 1, 0, none⟩ (.slice A4 ps.length c4)).setCell ⟨w.heap.size + 1, 1, none⟩ (.slice VA rs.length cV)) (fun g e _ => by rw [Below.heap_setCell _ _ _ _ (by have := (blk_own P4 e).1; simp; omega), Below.heap_setCell _ _ _ _ (by have := (blk_own P4 e).1; simp; omega)])
        exact fun hp => by obtain ⟨g, o, h1, h2, h3⟩ := this hp; exact ⟨g, o, h1, by omega, h3⟩
      · have := PA.of_block (w' := (wr.setCell ⟨w.heap.size + 1, 0, none⟩ (.slice A4 ps.length c4)).setCell ⟨w.heap.size + 1, 1, none⟩ (.slice VA rs.length cV)) (fun g e _ => by rw [Below.heap_setCell _ _ _ _ (by have := (HPA.out g e).1; simp; omega), Below.heap_setCell _ _ _ _ (by have := (HPA.out g e).1; simp; omega)])
        exact fun hp => by obtain ⟨g, o, h1, h2, h3⟩ := this hp; exact ⟨g, o, h1, by omega, h3⟩
      · exact fun g e e' => by have := HP4.out g e; have := (HPA.out g e').1; omega


end Go.Proofs.Ytpfaiiipmggnjaa
