/-
  What PotOk computes, in the program and in the specification: whether numbers at the nodes of a network are a potential.
-/
import Derived.Test.YtcaamhoakhgnhaaBetAll
namespace Go.Proofs.Ytcaamhoakhgnhaa
open Go.RowKit Go.Deep

/-- The length of the q-th arc, less the number of its From, more that of its To. -/
def red (rs : List A3) (zs : List Int) (q : Nat) : Int := (arg rs q).2.2 + zg zs (arg rs q).2.1.toNat - zg zs (arg rs q).1.toNat
def potIn (zs : List Int) : Bool := decide (∀ i, i < zs.length → btB (zg zs i) 0 1000000 = true)
def redIn (rs : List A3) (zs : List Int) : Bool := decide (∀ q, q < rs.length → 0 ≤ red rs zs q)
def potB (ps : List (Int × Int)) (rs : List A3) (zs : List Int) : Bool := netB ps rs && decide (zs.length = ps.length) && potIn zs && redIn rs zs

theorem potIn_iff {zs : List Int} : potIn zs = true ↔ ∀ i, i < zs.length → btB (zg zs i) 0 1000000 = true := by unfold potIn; rw [decide_eq_true_eq]
theorem redIn_iff {rs : List A3} {zs : List Int} : redIn rs zs = true ↔ ∀ q, q < rs.length → 0 ≤ red rs zs q := by unfold redIn; rw [decide_eq_true_eq]
theorem potIn_no {zs : List Int} {i : Nat} (hi : i < zs.length) (h : btB (zg zs i) 0 1000000 = false) : potIn zs = false := decide_eq_false fun k => by rw [k i hi] at h; cases h
theorem redIn_no {rs : List A3} {zs : List Int} {q : Nat} (hq : q < rs.length) (h : red rs zs q < 0) : redIn rs zs = false := decide_eq_false fun k => by have := k q hq; omega
theorem potIn_yes {zs : List Int} {k : Nat} (hk : zs.length ≤ k) (h : ∀ i, i < k → i < zs.length → btB (zg zs i) 0 1000000 = true) : potIn zs = true := potIn_iff.2 fun i hi => h i (by omega) hi
theorem redIn_yes {rs : List A3} {zs : List Int} {k : Nat} (hk : rs.length ≤ k) (h : ∀ i, i < k → 0 ≤ red rs zs i) : redIn rs zs = true := redIn_iff.2 fun i hi => h i (by omega)
theorem potB_iff {ps : List (Int × Int)} {rs : List A3} {zs : List Int} : potB ps rs zs = true ↔ netB ps rs = true ∧ zs.length = ps.length ∧ potIn zs = true ∧ redIn rs zs = true := by
  unfold potB; rw [Bool.and_eq_true, Bool.and_eq_true, Bool.and_eq_true, decide_eq_true_eq]; exact ⟨fun ⟨⟨⟨a, b⟩, c⟩, d⟩ => ⟨a, b, c, d⟩, fun ⟨a, b, c, d⟩ => ⟨⟨⟨a, b⟩, c⟩, d⟩⟩
theorem potB_net {ps : List (Int × Int)} {rs : List A3} {zs : List Int} (h : netB ps rs = false) : potB ps rs zs = false := by unfold potB; rw [h]; rfl
theorem potB_len {ps : List (Int × Int)} {rs : List A3} {zs : List Int} (h : zs.length ≠ ps.length) : potB ps rs zs = false := by unfold potB; rw [decide_eq_false h, Bool.and_false]; rfl
theorem potB_in {ps : List (Int × Int)} {rs : List A3} {zs : List Int} (h : potIn zs = false) : potB ps rs zs = false := by unfold potB; rw [h, Bool.and_false]; rfl
theorem potB_red {ps : List (Int × Int)} {rs : List A3} {zs : List Int} (h : redIn rs zs = false) : potB ps rs zs = false := by unfold potB; rw [h, Bool.and_false]
theorem pot_bd {zs : List Int} (h : potIn zs = true) {i : Nat} (hi : i < zs.length) : 0 ≤ zg zs i ∧ zg zs i ≤ 1000000 := btB_iff.1 (potIn_iff.1 h i hi)

theorem beyondPot_any (z : Int) (w : World) : Calls Try.prog 92 #[.int .i64 z] w fun e w' => e = .returned (.bool (!btB z 0 1000000)) ∧ w = w' := by
  by_cases h1 : z < 0
  · have H := Lib.hid (show (!btB z 0 1000000) = true by rw [btB_low (by omega)]; rfl)
    go_enter Try.func92, Try.ntmps92
    go_wp2
    go_ret
    exact ⟨retB H.out.symm, rfl⟩
  · by_cases h2 : 1000000 < z
    · have H := Lib.hid (show (!btB z 0 1000000) = true by rw [btB_high (by omega)]; rfl)
      go_enter Try.func92, Try.ntmps92
      go_wp2
      go_ret
      exact ⟨retB H.out.symm, rfl⟩
    · have H := Lib.hid (show (!btB z 0 1000000) = false by rw [btB_true (by omega) (by omega)]; rfl)
      have h2' : decide (1000000 < z) = false := decide_eq_false h2
      go_enter Try.func92, Try.ntmps92
      go_wp2
      go_ret
      exact ⟨retB H.out.symm, rfl⟩

set_option maxRecDepth 100000 in
theorem indexPot_any (A : Option Addr) (ca : Nat) (zs : List Int) (w : World) (hn : zs.length ≤ 1048576) (h : IsInts w A zs) :
    Calls Try.prog 107 #[.slice A zs.length ca, .func (.func 92) #[] #[]] w fun e w' => ∃ i : Int, e = .returned (.int .i64 i) ∧ (decide (i < 0)) = potIn zs ∧ w = w' := by
  go_enter Try.func107, Try.ntmps107
  go_wp2
  go_loopw [8] (fun i wr => ∃ k : Nat, k ≤ zs.length ∧ i = .int .i64 k ∧ wr = w ∧ Hid (∀ j, j < k → j < zs.length → btB (zg zs j) 0 1000000 = true)) (fun i _ => zs.length - (intOf i).toNat)
  case atStart => exact ⟨0, by omega, rfl, rfl, Lib.hid fun j hj => by omega⟩
  case round =>
    obtain ⟨k, hk, rfl, rfl, H⟩ := hrel
    by_cases hlt : k < zs.length
    · obtain ⟨b, off, rfl, hb, hck⟩ := h.at_ hlt
      cases hB : btB (zg zs k) 0 1000000 with
      | false =>
        have HP := Lib.hid (potIn_no hlt hB)
        have HB := Lib.hid hB
        clear hB
        generalize zg zs k = z at hck HB
        go_wp2_with fail
        refine (beyondPot_any z _).mono ?_; rw [HB.out]; rintro e w1 ⟨rfl, rfl⟩
        go_wp2
        go_ret
        exact ⟨_, rfl, by rw [HP.out]; exact decide_eq_false (by omega), rfl⟩
      | true =>
        have H2 := Lib.hid (show ∀ j, j < k + 1 → j < zs.length → btB (zg zs j) 0 1000000 = true from fun j hj hl => by
          by_cases e : j = k
          · rw [e]; exact hB
          · exact H.out j (by omega) hl)
        have HB := Lib.hid hB
        clear hB
        generalize zg zs k = z at hck HB
        go_wp2_with fail
        refine (beyondPot_any z _).mono ?_; rw [HB.out]; rintro e w1 ⟨rfl, rfl⟩
        go_wp2
        go_roundw
        case rel => exact ⟨k + 1, by omega, by go_num, by first | rfl | trivial, H2⟩
        case measure => simp [intOf]; omega
    · have HP := Lib.hid (potIn_yes (k := k) (by omega) H.out)
      go_wp2
      go_ret
      exact ⟨_, rfl, by rw [HP.out]; rfl, rfl⟩

theorem containsPot_any (A : Option Addr) (ca : Nat) (zs : List Int) (w : World) (hn : zs.length ≤ 1048576) (h : IsInts w A zs) :
    Calls Try.prog 91 #[.slice A zs.length ca, .func (.func 92) #[] #[]] w fun e w' => e = .returned (.bool (!potIn zs)) ∧ w = w' := by
  go_enter Try.func91, Try.ntmps91
  go_wp2_with fail
  refine (indexPot_any A ca zs _ hn h).mono ?_; rintro e w1 ⟨i, rfl, hi, rfl⟩
  have HE := Lib.hid (show decide (0 ≤ i) = !potIn zs by
    rw [← hi]
    by_cases h : i < 0
    · rw [decide_eq_true h, decide_eq_false (by omega)]; rfl
    · rw [decide_eq_false h, decide_eq_true (by omega)]; rfl)
  clear hi
  go_wp2
  go_ret
  exact ⟨retB HE.out, rfl⟩

/-- A block of three values. -/
def Trio (w : World) (b : Nat) (t : TypeId) (x y z : Value) : Prop := w.heap[b]? = some (.cells #[x, y, z] t (0, 0))
section
variable {w w' : World} {b c : Nat} {t : TypeId} {x y z : Value}
theorem Trio.lt (h : Trio w b t x y z) : b < w.heap.size := (Array.getElem?_eq_some_iff.1 h).1
theorem Trio.new (w : World) (t : TypeId) (x y z : Value) : Trio (w.alloc (.cells #[x, y, z] t)) w.heap.size t x y z := heap_alloc_new w _
theorem Trio.alloc (h : Trio w b t x y z) (o : Obj) : Trio (w.alloc o) b t x y z := (Below.heap_alloc w o b h.lt).trans h
theorem Trio.below (h : Trio w b t x y z) (hb : Below w.heap.size w w') : Trio w' b t x y z := (hb.block b h.lt).trans h
theorem Trio.cells (h : Trio w b t x y z) : w.cell? ⟨b, 0, none⟩ = some x ∧ w.cell? ⟨b, 1, none⟩ = some y ∧ w.cell? ⟨b, 2, none⟩ = some z := ⟨by rw [cell_of_block h]; rfl, by rw [cell_of_block h]; rfl, by rw [cell_of_block h]; rfl⟩
end

set_option maxRecDepth 100000 in
set_option maxHeartbeats 1000000 in
theorem reduced_any (A B C : Option Addr) (n ca cb cc q : Nat) (rs : List A3) (zs : List Int) (w : World) (_hn : zs.length ≤ 20) (_hm : rs.length ≤ 70) (hq : q < rs.length) (hr : ArcsIn zs.length rs) (hp : potIn zs = true) (hb : IsArcs w B rs) (hz : IsInts w C zs) :
    Calls Try.prog 56 #[.agg #[.slice A n ca, .slice B rs.length cb, .slice C zs.length cc], .int .i64 (q : Int)] w fun e w' => e = .returned (.int .i64 (red rs zs q)) ∧ Below w.heap.size w w' := by
  have Y := Trio.new w 81 (.slice A n ca) (.slice B rs.length cb) (.slice C zs.length cc)
  have K := below1 w (.cells #[.slice A n ca, .slice B rs.length cb, .slice C zs.length cc] 81)
  obtain ⟨b, off, rfl, -, c0, c1, c2⟩ := (hb.below K).at_ hq
  obtain ⟨⟨f0, f1⟩, ⟨t0, t1⟩, hft, l0, l1⟩ := hr _ (arg_mem hq)
  have HR := Lib.hid (show red rs zs q = (arg rs q).2.2 + zg zs (arg rs q).2.1.toNat - zg zs (arg rs q).1.toNat from rfl)
  have HB := Lib.hid (fun i hi => pot_bd hp (i := i) hi)
  clear hr hp
  generalize arg rs q = a at c0 c1 c2 f0 f1 t0 t1 hft l0 l1 HR
  obtain ⟨f, t, L⟩ := a
  obtain ⟨F, rfl⟩ : ∃ F : Nat, f = (F : Int) := ⟨f.toNat, by simp at f0; omega⟩
  obtain ⟨T, rfl⟩ : ∃ T : Nat, t = (T : Int) := ⟨t.toNat, by simp at t0; omega⟩
  simp only [Int.toNat_natCast] at c0 c1 c2 f0 f1 t0 t1 hft l0 l1 HR
  have hF : F < zs.length := by omega
  have hT : T < zs.length := by omega
  obtain ⟨y0, y1, y2⟩ := Y.cells
  have k2 := below1 (w.alloc (.cells #[.slice A n ca, .slice (some ⟨b, off, none⟩) rs.length cb, .slice C zs.length cc] 81)) (.cells #[.int .i64 (F : Int), .int .i64 (T : Int), .int .i64 L] 75)
  have K2 := K.trans (k2.mono K.size)
  obtain ⟨-, -, z2⟩ := (Y.below k2).cells
  obtain ⟨a0, a1, a2⟩ := arc_new (w.alloc (.cells #[.slice A n ca, .slice (some ⟨b, off, none⟩) rs.length cb, .slice C zs.length cc] 81)) F T L 75
  obtain ⟨d, o2, rfl, -, dF⟩ := (hz.below K2).at_ hF
  obtain ⟨d', o2', hdd, -, dT⟩ := (hz.below K2).at_ hT
  injection hdd with hdd
  injection hdd with hd1 hd2
  subst hd1 hd2
  obtain ⟨bF0, bF1⟩ := HB.out F hF
  obtain ⟨bT0, bT1⟩ := HB.out T hT
  generalize zg zs F = x at dF HR bF0 bF1
  generalize zg zs T = y at dT HR bT0 bT1
  have w1 : IntKind.i64.wrap (L + y) = L + y := by rw [IntWalk.i64_left]; unfold wrap64; omega
  have w2 : IntKind.i64.wrap (L + y - x) = L + y - x := by rw [IntWalk.i64_left]; unfold wrap64; omega
  go_enter Try.func56, Try.ntmps56
  go_wp2
  go_quiet (fail)
  go_wp2
  go_ret
  exact ⟨retI HR.out.symm, below_drewN K2 _⟩

set_option maxRecDepth 100000 in
set_option maxHeartbeats 1000000 in
theorem implPotOk_any (A B C : Option Addr) (ca cb cc : Nat) (ps : List (Int × Int)) (rs : List A3) (zs : List Int) (w : World) (hn : ps.length ≤ 1048576) (hm : rs.length ≤ 1048576) (hk : zs.length ≤ 1048576) (ha : IsPts w A ps) (hb : IsArcs w B rs) (hz : IsInts w C zs) :
    Calls Try.prog 55 #[.agg #[.slice A ps.length ca, .slice B rs.length cb], .slice C zs.length cc] w fun e w' => e = .returned (.bool (potB ps rs zs)) ∧ Below w.heap.size w w' := by
  have X := Pair.new w 32 (.slice A ps.length ca) (.slice B rs.length cb)
  have K := below1 w (.cells #[.slice A ps.length ca, .slice B rs.length cb] 32)
  cases h1 : netB ps rs with
  | false =>
    have HQ := Lib.hid (potB_net (zs := zs) h1)
    go_enter Try.func55, Try.ntmps55
    go_wp2_with fail
    refine (implNetOk_any A B ca cb ps rs _ hn hm (ha.below K) (hb.below K)).mono ?_; rintro e w1 ⟨rfl, b1⟩
    replace K := K.trans (b1.mono K.size)
    clear b1 X
    go_wp2
    go_ret
    exact ⟨retB HQ.out.symm, K⟩
  | true =>
    by_cases h2 : zs.length = ps.length
    rotate_left
    · have HQ := Lib.hid (potB_len (rs := rs) h2)
      have hb2 : ((zs.length : Int) != (ps.length : Int)) = true := by simp; omega
      clear h2
      go_enter Try.func55, Try.ntmps55
      go_wp2_with fail
      refine (implNetOk_any A B ca cb ps rs _ hn hm (ha.below K) (hb.below K)).mono ?_; rintro e w1 ⟨rfl, b1⟩
      replace K := K.trans (b1.mono K.size)
      obtain ⟨x0, x1, -, -⟩ := (X.below b1).cells
      clear b1 X
      go_wp2
      go_ret
      exact ⟨retB HQ.out.symm, K⟩
    · have hb2 : ((zs.length : Int) != (ps.length : Int)) = false := by simp; omega
      obtain ⟨h20, h70, -, -⟩ := netB_iff.1 h1
      have HA := Lib.hid (show ArcsIn zs.length rs by rw [h2]; exact arcsIn_net h1)
      have hz20 : zs.length ≤ 20 := by omega
      have H2 := Lib.hid h2
      clear h2
      cases h3 : potIn zs with
      | false =>
        have HQ := Lib.hid (potB_in (ps := ps) (rs := rs) h3)
        have H3 := Lib.hid h3
        clear h3
        go_enter Try.func55, Try.ntmps55
        go_wp2_with fail
        refine (implNetOk_any A B ca cb ps rs _ hn hm (ha.below K) (hb.below K)).mono ?_; rintro e w1 ⟨rfl, b1⟩
        replace K := K.trans (b1.mono K.size)
        obtain ⟨x0, x1, -, -⟩ := (X.below b1).cells
        clear b1 X
        go_wp2_with fail
        refine (containsPot_any C cc zs _ hk (hz.below K)).mono ?_; rw [H3.out]; rintro e w2 ⟨rfl, rfl⟩
        go_wp2
        go_ret
        exact ⟨retB HQ.out.symm, K⟩
      | true =>
        have H3 := Lib.hid h3
        have HY := Lib.hid (show redIn rs zs = true → potB ps rs zs = true from fun h => potB_iff.2 ⟨h1, H2.out, h3, h⟩)
        clear h3
        go_enter Try.func55, Try.ntmps55
        go_wp2_with fail
        refine (implNetOk_any A B ca cb ps rs _ hn hm (ha.below K) (hb.below K)).mono ?_; rintro e w1 ⟨rfl, b1⟩
        replace K := K.trans (b1.mono K.size)
        obtain ⟨x0, x1, -, -⟩ := (X.below b1).cells
        clear b1 X
        go_wp2_with fail
        refine (containsPot_any C cc zs _ hk (hz.below K)).mono ?_; rw [H3.out]; rintro e w2 ⟨rfl, rfl⟩
        go_wp2
        clear x0 x1
        go_loopw [29] (fun i wr => ∃ k : Nat, k ≤ rs.length ∧ i = .int .i64 k ∧ Below w.heap.size w wr ∧ Hid (∀ j, j < k → 0 ≤ red rs zs j)) (fun i _ => rs.length - (intOf i).toNat)
        case atStart => exact ⟨0, by omega, rfl, K, Lib.hid fun j hj => by omega⟩
        case round =>
          clear K
          obtain ⟨k, hkk, rfl, K, H⟩ := hrel
          by_cases hlt : k < rs.length
          · by_cases hneg : red rs zs k < 0
            · have HQ := Lib.hid (potB_red (ps := ps) (redIn_no hlt hneg))
              have HC := Lib.hid (fun W g1 g2 => reduced_any A B C ps.length ca cb cc k rs zs W hz20 h70 hlt HA.out H3.out g1 g2)
              generalize red rs zs k = rr at hneg HC
              go_wp2_with fail
              refine (HC.out _ (hb.below K) (hz.below K)).mono ?_; rintro e w3 ⟨rfl, b3⟩
              replace K := K.trans (b3.mono K.size)
              go_wp2
              go_ret
              exact ⟨retB HQ.out.symm, K⟩
            · have HN := Lib.hid (show ∀ j, j < k + 1 → 0 ≤ red rs zs j from fun j hj => by
                by_cases e : j = k
                · rw [e]; omega
                · exact H.out j (by omega))
              have HC := Lib.hid (fun W g1 g2 => reduced_any A B C ps.length ca cb cc k rs zs W hz20 h70 hlt HA.out H3.out g1 g2)
              generalize red rs zs k = rr at hneg HC
              go_wp2_with fail
              refine (HC.out _ (hb.below K) (hz.below K)).mono ?_; rintro e w3 ⟨rfl, b3⟩
              replace K := K.trans (b3.mono K.size)
              go_wp2
              go_roundw
              case rel => exact ⟨k + 1, by omega, by go_num, K, HN⟩
              case measure => simp [intOf]; omega
          · have HQ := Lib.hid (HY.out (redIn_yes (k := k) (by omega) H.out))
            go_wp2
            go_ret
            exact ⟨retB HQ.out.symm, K⟩

set_option maxRecDepth 100000 in
set_option maxHeartbeats 1000000 in
theorem specPotOk_any (A B C : Option Addr) (ca cb cc : Nat) (ps : List (Int × Int)) (rs : List A3) (zs : List Int) (w : World) (hn : ps.length ≤ 1048576) (hm : rs.length ≤ 1048576) (hk : zs.length ≤ 1048576) (ha : IsPts w A ps) (hb : IsArcs w B rs) (hz : IsInts w C zs) :
    Calls Try.prog 57 #[.agg #[.slice A ps.length ca, .slice B rs.length cb], .slice C zs.length cc] w fun e w' => e = .returned (.bool (potB ps rs zs)) ∧ Below w.heap.size w w' := by
  have X := Pair.new w 32 (.slice A ps.length ca) (.slice B rs.length cb)
  have K := below1 w (.cells #[.slice A ps.length ca, .slice B rs.length cb] 32)
  cases h1 : netB ps rs with
  | false =>
    have HQ := Lib.hid (potB_net (zs := zs) h1)
    go_enter Try.func57, Try.ntmps57
    go_wp2_with fail
    refine (specNetOk_any A B ca cb ps rs _ hn hm (ha.below K) (hb.below K)).mono ?_; rintro e w1 ⟨rfl, b1⟩
    replace K := K.trans (b1.mono K.size)
    clear b1 X
    go_wp2
    go_ret
    exact ⟨retB HQ.out.symm, K⟩
  | true =>
    by_cases h2 : zs.length = ps.length
    rotate_left
    · have HQ := Lib.hid (potB_len (rs := rs) h2)
      have hb2 : ((zs.length : Int) != (ps.length : Int)) = true := by simp; omega
      clear h2
      go_enter Try.func57, Try.ntmps57
      go_wp2_with fail
      refine (specNetOk_any A B ca cb ps rs _ hn hm (ha.below K) (hb.below K)).mono ?_; rintro e w1 ⟨rfl, b1⟩
      replace K := K.trans (b1.mono K.size)
      obtain ⟨x0, x1, -, -⟩ := (X.below b1).cells
      clear b1 X
      go_wp2
      go_ret
      exact ⟨retB HQ.out.symm, K⟩
    · have hb2 : ((zs.length : Int) != (ps.length : Int)) = false := by simp; omega
      obtain ⟨h20, h70, -, -⟩ := netB_iff.1 h1
      have HA := Lib.hid (show ArcsIn zs.length rs by rw [h2]; exact arcsIn_net h1)
      have hz20 : zs.length ≤ 20 := by omega
      have HY := Lib.hid (show potIn zs = true → redIn rs zs = true → potB ps rs zs = true from fun h h' => potB_iff.2 ⟨h1, h2, h, h'⟩)
      clear h2
      go_enter Try.func57, Try.ntmps57
      go_wp2_with fail
      refine (specNetOk_any A B ca cb ps rs _ hn hm (ha.below K) (hb.below K)).mono ?_; rintro e w1 ⟨rfl, b1⟩
      replace K := K.trans (b1.mono K.size)
      replace X := X.below b1
      obtain ⟨x0, x1, -, -⟩ := X.cells
      clear b1
      go_wp2
      clear x0 x1
      go_loopw [5] (fun i wr => ∃ k : Nat, k ≤ zs.length ∧ i = .int .i64 k ∧ Pair wr w.heap.size 32 (.slice A ps.length ca) (.slice B rs.length cb) ∧ Below w.heap.size w wr ∧ Hid (∀ j, j < k → j < zs.length → btB (zg zs j) 0 1000000 = true)) (fun i _ => zs.length - (intOf i).toNat)
      case atStart => exact ⟨0, by omega, rfl, X, K, Lib.hid fun j hj => by omega⟩
      case round =>
        clear K X
        obtain ⟨k, hkk, rfl, X, K, H⟩ := hrel
        by_cases hlt : k < zs.length
        · obtain ⟨b, off, rfl, hbl, hck⟩ := (hz.below K).at_ hlt
          cases hB : btB (zg zs k) 0 1000000 with
          | false =>
            have HQ := Lib.hid (potB_in (ps := ps) (rs := rs) (potIn_no hlt hB))
            have HB := Lib.hid hB
            clear hB
            generalize zg zs k = z at hck HB
            go_wp2_with fail
            refine (between_any z _ _ _).mono ?_; rw [HB.out]; rintro e w2 ⟨rfl, rfl⟩
            go_wp2
            go_ret
            exact ⟨retB HQ.out.symm, K⟩
          | true =>
            have HN := Lib.hid (show ∀ j, j < k + 1 → j < zs.length → btB (zg zs j) 0 1000000 = true from fun j hj hl => by
              by_cases e : j = k
              · rw [e]; exact hB
              · exact H.out j (by omega) hl)
            have HB := Lib.hid hB
            clear hB
            generalize zg zs k = z at hck HB
            go_wp2_with fail
            refine (between_any z _ _ _).mono ?_; rw [HB.out]; rintro e w2 ⟨rfl, rfl⟩
            go_wp2
            go_roundw
            case rel => exact ⟨k + 1, by omega, by go_num, X, K, HN⟩
            case measure => simp [intOf]; omega
        · have h3 := potIn_yes (k := k) (by omega) H.out
          have HBD := Lib.hid (fun i hi => pot_bd h3 (i := i) hi)
          have HY2 := Lib.hid (HY.out h3)
          clear h3 H
          go_wp2
          go_loopw [6] (fun i wr => ∃ k : Nat, k ≤ rs.length ∧ i = .int .i64 k ∧ Pair wr w.heap.size 32 (.slice A ps.length ca) (.slice B rs.length cb) ∧ Below w.heap.size w wr ∧ Hid (∀ j, j < k → 0 ≤ red rs zs j)) (fun i _ => rs.length - (intOf i).toNat)
          case atStart => exact ⟨0, by omega, rfl, X, K, Lib.hid fun j hj => by omega⟩
          case round =>
            clear K X
            obtain ⟨q, hqq, rfl, X, K, H⟩ := hrel
            obtain ⟨x0, x1, -, -⟩ := X.cells
            by_cases hlt' : q < rs.length
            · obtain ⟨b, off, rfl, -, c0, c1, c2⟩ := (hb.below K).at_ hlt'
              obtain ⟨⟨f0, f1⟩, ⟨t0, t1⟩, hft, l0, l1⟩ := HA.out _ (arg_mem hlt')
              have HR := Lib.hid (show red rs zs q = (arg rs q).2.2 + zg zs (arg rs q).2.1.toNat - zg zs (arg rs q).1.toNat from rfl)
              generalize arg rs q = a at c0 c1 c2 f0 f1 t0 t1 hft l0 l1 HR
              obtain ⟨f, t, L⟩ := a
              obtain ⟨F, rfl⟩ : ∃ F : Nat, f = (F : Int) := ⟨f.toNat, by simp at f0; omega⟩
              obtain ⟨T, rfl⟩ : ∃ T : Nat, t = (T : Int) := ⟨t.toNat, by simp at t0; omega⟩
              simp only [Int.toNat_natCast] at c0 c1 c2 f0 f1 t0 t1 hft l0 l1 HR
              have hF : F < zs.length := by omega
              have hT : T < zs.length := by omega
              obtain ⟨d, o2, rfl, -, dF⟩ := (hz.below K).at_ hF
              obtain ⟨d', o2', hdd, -, dT⟩ := (hz.below K).at_ hT
              injection hdd with hdd
              injection hdd with hd1 hd2
              subst hd1 hd2
              obtain ⟨bF0, bF1⟩ := HBD.out F hF
              obtain ⟨bT0, bT1⟩ := HBD.out T hT
              generalize zg zs F = x at dF HR bF0 bF1
              generalize zg zs T = y at dT HR bT0 bT1
              have wq : IntKind.i64.wrap (L + y) = L + y := by rw [IntWalk.i64_left]; unfold wrap64; omega
              by_cases hneg : L + y < x
              · have HQ := Lib.hid (potB_red (ps := ps) (redIn_no hlt' (show red rs zs q < 0 by rw [HR.out]; omega)))
                have hd : decide (x > L + y) = true := decide_eq_true hneg
                go_wp2
                go_quiet (fail)
                go_wp2
                go_ret
                exact ⟨retB HQ.out.symm, below_drewN K _⟩
              · have hd : decide (x > L + y) = false := decide_eq_false hneg
                have HN := Lib.hid (show ∀ j, j < q + 1 → 0 ≤ red rs zs j from fun j hj => by
                  by_cases e : j = q
                  · rw [e, HR.out]; omega
                  · exact H.out j (by omega))
                go_wp2
                go_quiet (fail)
                go_wp2
                go_roundw
                case rel => exact ⟨q + 1, by omega, by go_num, X.drewM _, below_drewN K _, HN⟩
                case measure => simp [intOf]; omega
            · have HQ := Lib.hid (HY2.out (redIn_yes (k := q) (by omega) H.out))
              go_wp2
              go_ret
              exact ⟨retB HQ.out.symm, K⟩

end Go.Proofs.Ytcaamhoakhgnhaa
