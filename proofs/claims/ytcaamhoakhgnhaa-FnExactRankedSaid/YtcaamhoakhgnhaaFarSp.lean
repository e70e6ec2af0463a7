/-
  What spec.FarMarks computes.
-/
import Derived.Test.YtcaamhoakhgnhaaFarIm
import Derived.Deep.RegionHeld3
namespace Go.Proofs.Ytcaamhoakhgnhaa
open Go.RowKit Go.Deep Go.Maps

theorem farM_zero {ps : List (Int × Int)} {rs : List A3} {many : Int} (h : ps.length = 0) : farM ps rs many = [] := by
  unfold farM; split
  · rw [h, Nat.min_zero]; rfl
  · rfl
theorem farM_bt {ps : List (Int × Int)} {rs : List A3} {many : Int} (h : btB many 1 8 = false) : farM ps rs many = [] := farM_no (.inr (by
  refine Classical.byContradiction fun hc => ?_
  have : btB many 1 8 = true := btB_true (by omega) (by omega)
  rw [h] at this; cases this))
def lenOf : Value → Nat
  | .slice _ n _ => n
  | _ => 0
/-- What is read in the innermost round. -/
abbrev FaS (W0 : World) (b : Nat) (u v : Value) (og i : Nat) (z : Int) (w : World) : Prop := (w.cell? ⟨b, 0, none⟩ = some u ∧ w.cell? ⟨b, 1, none⟩ = some v) ∧ w.cell? ⟨og, i, none⟩ = some (.int .i64 z) ∧ Below W0.heap.size W0 w
theorem FaS.under {W0 : World} {b : Nat} {u v : Value} {og i : Nat} {z : Int} {w w' : World} (hb : Below w.heap.size w w') (h : FaS W0 b u v og i z w) : FaS W0 b u v og i z w' := ⟨⟨cell_under hb h.1.1, cell_under hb h.1.2⟩, cell_under hb h.2.1, h.2.2.trans (hb.mono h.2.2.size)⟩
theorem FaS.bel {W0 : World} {b : Nat} {u v : Value} {og i : Nat} {z : Int} {w : World} (h : FaS W0 b u v og i z w) : Below W0.heap.size W0 w := h.2.2
theorem anyH_monoF {P : Program} {ops : Array Oper} {Q : Exit → Act → World → Prop} {md : Region.Mode} {S S' : World → Prop} (h : ∀ w, S' w → S w) :
    ∀ (fuel : Nat) (listed : Array Bool) (a : Act) (w : World), wpAnyH P md ops Q S' fuel listed a w → wpAnyH P md ops Q S fuel listed a w
  | 0, _, _, _, k => k
  | fuel + 1, _, _, _, k => ⟨k.1, fun i hi => wpOp_mono (fun a' w' k' => ⟨h w' k'.1, anyH_monoF h fuel _ a' w' k'.2⟩) (k.2 i hi)⟩
theorem gap_take {n : Nat} {rs : List A3} {L : List Nat} {i : Nat} (hi : i < L.length) (v : Nat) : gap n rs (L.take (i + 1)) v = gap1 (gap n rs (L.take i) v) (zg (dst n rs (L.getD i 0)) v) := by
  rw [List.take_succ_eq_append_getElem hi, gap_snoc, List.getD_eq_getElem?_getD, List.getElem?_eq_getElem hi]; rfl
theorem in_take {L : List Nat} {i : Nat} (hi : i < L.length) (v : Nat) : decide (v ∈ L.take (i + 1)) = (decide (v ∈ L.take i) || ((L.getD i 0 : Nat) : Int) == (v : Int)) := by
  have e : L.getD i 0 = L[i] := by rw [List.getD_eq_getElem?_getD, List.getElem?_eq_getElem hi]; rfl
  rw [e, Bool.eq_iff_iff, Bool.or_eq_true, decide_eq_true_iff, decide_eq_true_iff, beq_iff_eq, List.take_succ_eq_append_getElem hi, List.mem_append, List.mem_singleton]
  constructor
  · rintro (h | h)
    · exact .inl h
    · exact .inr (by omega)
  · rintro (h | h)
    · exact .inl h
    · exact .inr (by omega)
theorem natZ_get {L : List Nat} {i : Nat} (hi : i < L.length) : zg (natZ L) i = ((L.getD i 0 : Nat) : Int) := by
  unfold zg natZ; simp [List.getD_eq_getElem?_getD, hi]
theorem natZ_len (L : List Nat) : (natZ L).length = L.length := by unfold natZ; simp

set_option maxRecDepth 100000 in
set_option maxHeartbeats 4000000 in
theorem specFar_no (A B : Option Addr) (ca cb : Nat) (ps : List (Int × Int)) (rs : List A3) (many : Int) (w : World) (hn : ps.length ≤ 1048576) (hm : rs.length ≤ 1048576) (ha : IsPts w A ps) (hb : IsArcs w B rs) (hno : netB ps rs = false ∨ ps.length = 0 ∨ btB many 1 8 = false) :
    Calls Try.prog 90 #[.agg #[.slice A ps.length ca, .slice B rs.length cb], .int .i64 many] w (IntsMade w (farM ps rs many)) := by
  have HQ : Hid (farM ps rs many = []) := Lib.hid (by
    rcases hno with h | h | h
    · exact farM_no (.inl h)
    · exact farM_zero h
    · exact farM_bt h)
  have X := (Pair.new w 32 (.slice A ps.length ca) (.slice B rs.length cb)).alloc (.cells #[] 3)
  have K := below2 w (.cells #[.slice A ps.length ca, .slice B rs.length cb] 32) (.cells #[] 3)
  obtain ⟨x0, x1, -, -⟩ := X.cells
  cases h1 : netB ps rs with
  | false =>
    go_enter Try.func90, Try.ntmps90
    go_wp2_with fail
    refine (specNetOk_any A B ca cb ps rs _ hn hm (ha.below K) (hb.below K)).mono ?_; rw [h1]; rintro e w1 ⟨rfl, b1⟩
    replace K := K.trans (b1.mono K.size)
    clear b1 X hno x0 x1
    go_wp2
    go_ret
    exact intsMade_nil HQ.out _ _ K
  | true =>
    by_cases h0 : ps.length = 0
    · have H0 := Lib.hid h0
      clear h0
      go_enter Try.func90, Try.ntmps90
      go_wp2_with fail
      refine (specNetOk_any A B ca cb ps rs _ hn hm (ha.below K) (hb.below K)).mono ?_; rw [h1]; rintro e w1 ⟨rfl, b1⟩
      replace K := K.trans (b1.mono K.size)
      replace X := X.below b1
      clear b1 hno x0 x1
      obtain ⟨x0, x1, -, -⟩ := X.cells
      have hl0b : ((ps.length : Int) == 0) = true := by rw [beq_iff_eq]; have := H0.out; omega
      go_wp2
      go_ret
      exact intsMade_nil HQ.out _ _ K
    · have h2 : btB many 1 8 = false := by
        rcases hno with h | h | h
        · rw [h1] at h; cases h
        · exact absurd h h0
        · exact h
      have hl0b : ((ps.length : Int) == 0) = false := by rw [beq_eq_false_iff_ne]; omega
      clear hno h0
      go_enter Try.func90, Try.ntmps90
      go_wp2_with fail
      refine (specNetOk_any A B ca cb ps rs _ hn hm (ha.below K) (hb.below K)).mono ?_; rw [h1]; rintro e w1 ⟨rfl, b1⟩
      replace K := K.trans (b1.mono K.size)
      replace X := X.below b1
      clear b1 x0 x1
      obtain ⟨x0, x1, -, -⟩ := X.cells
      go_wp2_with fail
      refine (between_any many 1 8 _).mono ?_; rw [h2]; rintro e w' ⟨rfl, rfl⟩
      clear x0 x1
      go_wp2
      go_ret
      exact intsMade_nil HQ.out _ _ K

set_option maxRecDepth 1000000 in
set_option maxHeartbeats 8000000 in
theorem specFar_yes (A B : Option Addr) (ca cb : Nat) (ps : List (Int × Int)) (rs : List A3) (many : Nat) (w : World) (ha : IsPts w A ps) (hb : IsArcs w B rs) (h1 : netB ps rs = true) (h0 : 0 < ps.length) (hk1 : 1 ≤ many) (hk2 : many ≤ 8) :
    Calls Try.prog 90 #[.agg #[.slice A ps.length ca, .slice B rs.length cb], .int .i64 (many : Int)] w (IntsMade w (farM ps rs many)) := by
  obtain ⟨h20, h70, -, -⟩ := netB_iff.1 h1
  have HQ := Lib.hid (farM_yes h1 hk1 hk2)
  have HR := Lib.hid (arcsIn_net h1)
  have h2 : btB (many : Int) 1 8 = true := btB_true (by omega) (by omega)
  have hl0b : ((ps.length : Int) == 0) = false := by rw [beq_eq_false_iff_ne]; omega
  obtain ⟨M, hM⟩ : ∃ M, M = min many ps.length := ⟨_, rfl⟩
  have HM := Lib.hid hM
  have hMn : M ≤ ps.length := by omega
  have hM8 : M ≤ 8 := by omega
  have hM1 : 1 ≤ M := by omega
  rw [← hM] at HQ
  clear hM
  obtain ⟨FL, hFL⟩ : ∃ FL, FL = farL ps.length rs := ⟨_, rfl⟩
  rw [← hFL] at HQ
  have HFL := Lib.hid (fun k => farL_len ps.length rs k)
  have HFI := Lib.hid (fun k (hk : k ≤ ps.length) => (farL_in h20 (arcsIn_net h1) k hk).1)
  have HFF := Lib.hid (fun k (hk : k < ps.length) => farL_free (n := ps.length) h20 (arcsIn_net h1) hk)
  have HFS : Hid (∀ k, farL ps.length rs (k + 1) = farL ps.length rs k ++ [nextM ps.length rs (farL ps.length rs k)]) := Lib.hid (fun k => rfl)
  have HF1 := Lib.hid (farL_one (n := ps.length) (rs := rs) h0)
  rw [← hFL] at HFL HFI HFF HFS HF1
  clear hFL
  have X := (Pair.new w 32 (.slice A ps.length ca) (.slice B rs.length cb)).alloc (.cells #[] 3)
  have K := below2 w (.cells #[.slice A ps.length ca, .slice B rs.length cb] 32) (.cells #[] 3)
  have own := World.ownsRow_made (base := w.heap.size + 1) (size := 1) (e := 3) (w.alloc (.cells #[.slice A ps.length ca, .slice B rs.length cb] 32)) #[] 0 (by simp) (by decide) rfl
  rw [World.size_alloc] at own
  obtain ⟨x0, x1, -, -⟩ := X.cells
  go_enter Try.func90, Try.ntmps90
  go_wp2_with fail
  refine (specNetOk_any A B ca cb ps rs _ (by omega) (by omega) (ha.below K) (hb.below K)).mono ?_; rw [h1]; rintro e w1 ⟨rfl, b1⟩
  replace K := K.trans (b1.mono K.size)
  replace X := X.below b1
  replace own := ownsRow_below own b1
  clear b1 x0 x1
  obtain ⟨x0, x1, -, -⟩ := X.cells
  go_wp2_with fail
  refine (between_any (many : Int) 1 8 _).mono ?_; rw [h2]; rintro e w' ⟨rfl, rfl⟩
  have hKs := K.size
  have kc := below1 w1 (.cells #[.int .i64 0] 3)
  obtain ⟨v1, w4, hr1, p1, g1⟩ := run_append_intF (w := w1) 40 (w.heap.size + 1) _ 0 _ own 0 (by omega) (by have := X.lt; have := World.ownsRow.lt own _ rfl; omega)
  obtain ⟨A4, c4, rfl⟩ := own_formF p1
  have hol := World.ownsRow.lt own
  have X4 := (X.below kc).grownUp g1 (fun b e => by have := (hol b e).1; omega)
  have K4 := (K.trans (kc.mono K.size)).grown g1 (by rw [World.size_alloc]; omega) (fun b e => by have := (hol b e).1; omega)
  have p2 : w4.ownsRow (w.heap.size + 1) 3 1 (.slice A4 1 c4) 1 ((natZ (FL 1)).map (Value.int .i64)) := by
    rw [HF1.out]; exact p1
  clear own X K kc g1 hol p1 x0 x1 hKs
  go_wp2_with (at_builtin; refine Lib.wpList_append_run _ rfl _ _ _ _ rfl _ _ rfl rfl _ _ hr1 ?_)
  clear hr1 h1 h2 hl0b
  go_loopw [5] (fun vm wr => ∃ k : Nat, 1 ≤ k ∧ k ≤ M ∧ wr.ownsRow (w.heap.size + 1) 3 1 vm k ((natZ (FL k)).map (Value.int .i64)) ∧ Pair wr w.heap.size 32 (.slice A ps.length ca) (.slice B rs.length cb) ∧ Below w.heap.size w wr) (fun v _ => M - lenOf v)
  case atStart => exact ⟨1, by omega, by omega, p2, X4, K4⟩
  case round =>
    clear p2 X4 K4
    obtain ⟨k, hk1, hkM, own, X, K⟩ := hrel
    obtain ⟨W0, rfl⟩ : ∃ W0, W0 = wr := ⟨_, rfl⟩
    have hlen := HFL.out k
    obtain ⟨og, oc, rfl, hog, IO⟩ := IRow.own (zs := natZ (FL k)) (by rw [natZ_len, hlen]; exact own) (by intro e; subst e; rcases own.2 with ⟨-, h⟩ | ⟨g, cap, cur, h, -⟩; omega; cases h)
    rw [natZ_len, hlen] at IO own ⊢
    obtain ⟨x0, x1, -, -⟩ := X.cells
    by_cases hlt : k < M
    · have hc1 : (k : Int) < many := by have := HM.out; omega
      have hc2 : (k : Int) < ps.length := by omega
      obtain ⟨u, hu, huL⟩ := HFF.out k (by omega)
      obtain ⟨q1, q2, q3, -⟩ := nextM_is h20 HR.out (HFI.out k (by omega)) hu huL
      have HFk := Lib.hid (HFS.out k)
      have HLI := Lib.hid (HFI.out k (by omega))
      generalize FL k = L at hlen own IO q1 q2 q3 HFk HLI huL
      obtain ⟨Nx, hNx⟩ : ∃ Nx, Nx = nextM ps.length rs L := ⟨_, rfl⟩
      rw [← hNx] at q1 q2 q3 HFk
      clear hNx huL hu
      obtain ⟨GK, hGK⟩ : ∃ GK : Nat → Nat → Int, GK = fun i j => gap ps.length rs (L.take i) j := ⟨_, rfl⟩
      obtain ⟨IN, hIN⟩ : ∃ IN : Nat → Nat → Bool, IN = fun i j => decide (j ∈ L.take i) := ⟨_, rfl⟩
      obtain ⟨PK, hPK⟩ : ∃ PK : Nat → Int × Int, PK = pick1 (gap ps.length rs L) L := ⟨_, rfl⟩
      have HG0 : Hid (∀ j, GK 0 j = 2000000) := Lib.hid (fun j => by rw [hGK]; rfl)
      have HGS : Hid (∀ i j, i < k → GK (i + 1) j = gap1 (GK i j) (zg (dst ps.length rs (L.getD i 0)) j)) := Lib.hid (fun i j hi => by rw [hGK]; exact gap_take (by omega) j)
      have HI0 : Hid (∀ j, IN 0 j = false) := Lib.hid (fun j => by rw [hIN]; simp)
      have HIS : Hid (∀ i j, i < k → IN (i + 1) j = (IN i j || ((L.getD i 0 : Nat) : Int) == (j : Int))) := Lib.hid (fun i j hi => by rw [hIN]; exact in_take (by omega) j)
      have HP0 : Hid (PK 0 = (-1, -1)) := Lib.hid (by rw [hPK]; rfl)
      have HPS : Hid (∀ j, PK (j + 1) = if IN k j = false ∧ (PK j).2 < GK k j then ((j : Int), GK k j) else PK j) := Lib.hid (fun j => by
        have e1 : L.take k = L := by rw [← hlen]; exact List.take_length
        rw [hPK, hIN, hGK]
        simp only [e1, decide_eq_false_iff_not]
        rfl)
      have HPN : Hid ((PK ps.length).1 = (Nx : Int)) := Lib.hid (by rw [hPK, q3])
      have HOC := Lib.hid (fun i (hi : i < k) => (by have := IO.cell hi; rw [natZ_get (by omega)] at this; exact this : W0.cell? ⟨og, i, none⟩ = some (.int .i64 ((L.getD i 0 : Nat) : Int))))
      have HGE : Hid (∀ i, i < k → L.getD i 0 < ps.length) := Lib.hid (fun i hi => HLI.out _ (by rw [List.getD_eq_getElem?_getD, List.getElem?_eq_getElem (show i < L.length by omega)]; exact List.getElem_mem _))
      have hogl := IO.lt
      have HX := Lib.hid X
      have HK := Lib.hid K
      have HO := Lib.hid own
      clear hGK hIN hPK q2 q3 IO X K own HLI
      go_wp2
      clear x0 x1
      go_loopw [6, 7, 8] (fun vb vt vi wv => ∃ j : Nat, j ≤ ps.length ∧ vi = .int .i64 j ∧ vb = .int .i64 (PK j).1 ∧ vt = .int .i64 (PK j).2 ∧ Below W0.heap.size W0 wv) (fun _ _ i _ => ps.length - (intOf i).toNat)
      case atStart => exact ⟨0, by omega, rfl, by rw [HP0.out], by rw [HP0.out], Below.refl _ _⟩
      case round =>
        obtain ⟨j, hj, rfl, rfl, rfl, KJ⟩ := hrel
        obtain ⟨x0, x1, -, -⟩ := (HX.out.below KJ).cells
        by_cases hjl : j < ps.length
        · have hjl2 : (j : Int) < ps.length := by omega
          go_wp2
          clear x0 x1
          go_loopw [9, 10, 11] (fun vl vn vi wi => ∃ i : Nat, i ≤ k ∧ vi = .int .i64 i ∧ vl = .int .i64 (GK i j) ∧ vn = .bool (IN i j) ∧ Below W0.heap.size W0 wi) (fun _ _ i _ => k - (intOf i).toNat)
          case atStart => exact ⟨0, by omega, rfl, by rw [HG0.out], by rw [HI0.out], KJ⟩
          case round =>
            clear KJ
            obtain ⟨i, hi, rfl, rfl, rfl, KI⟩ := hrel
            by_cases hil : i < k
            · have hil2 : (i : Int) < k := by omega
              have oc0 := cell_under KI (HOC.out i hil)
              obtain ⟨x0, x1, -, -⟩ := (HX.out.below KI).cells
              have HGi := Lib.hid (HGS.out i j hil)
              have HIi := Lib.hid (HIS.out i j hil)
              have HLi := Lib.hid (HGE.out i hil)
              generalize L.getD i 0 = Li at oc0 HGi HIi HLi
              have HDL := Lib.hid (dst_len ps.length rs Li)
              have HKI := Lib.hid (HK.out.trans (KI.mono HK.out.size))
              have HDV := Lib.hid (dst_val h20 HLi.out HR.out hjl)
              generalize hb1 : IN i j = bi at HIi
              cases bi with
              | true =>
                have HB : Hid (IN (i + 1) j = true) := Lib.hid (by rw [HIi.out]; rfl)
                have TS : FaS w w.heap.size (.slice A ps.length ca) (.slice B rs.length cb) og i (Li : Int) wr.drew := ⟨⟨x0, x1⟩, oc0, HKI.out.drew⟩
                have KID := KI.drew
                clear hb1
                obtain ⟨x, hx⟩ : ∃ x, zg (dst ps.length rs Li) j = x := ⟨_, rfl⟩
                have HXE := Lib.hid hx
                rw [hx] at HGi
                clear hx
                go_wp2_with fail
                refine wp_region_held_drew (S := (fun w' => FaS w w.heap.size (.slice A ps.length ca) (.slice B rs.length cb) og i (Li : Int) w')) (by kernel_rfl) ?_ (fun hHeld => ?_)
                · exact TS
                clear TS
                refine wpAnyH_take (i := 0) (oi := ⟨some 66, _, _, _, _, _⟩) (v := .agg #[.slice A ps.length ca, .slice B rs.length cb]) rfl (by kernel_rfl) (by kernel_rfl) (by kernel_rfl) (fun _ _ _ h => h) (Or.inl ⟨by rfl, fun w' hw => ?hy⟩) hHeld ?_
                case hy => (try dsimp only at hw); go_simp
                simp only [Act.put, List.setIfInBounds_toArray, List.set_cons_zero, List.set_cons_succ]
                refine wpAnyH_take (i := 1) (oi := ⟨some 67, _, _, _, _, _⟩) (v := .slice (some ⟨og, 0, none⟩) k oc) rfl (by kernel_rfl) (by kernel_rfl) (by kernel_rfl) (fun _ _ _ h => h) (Or.inl ⟨by rfl, fun w' hw => ?hy⟩) hHeld ?_
                case hy => (try dsimp only at hw); go_simp
                simp only [Act.put, List.setIfInBounds_toArray, List.set_cons_zero, List.set_cons_succ]
                refine wpAnyH_take (i := 2) (oi := ⟨some 68, _, _, _, _, _⟩) (v := .int .i64 (i : Int)) rfl (by kernel_rfl) (by kernel_rfl) (by kernel_rfl) (fun _ _ _ h => h) (Or.inl ⟨by rfl, fun w' hw => ?hy⟩) hHeld ?_
                case hy => (try dsimp only at hw); go_simp
                simp only [Act.put, List.setIfInBounds_toArray, List.set_cons_zero, List.set_cons_succ]
                refine wpAnyH_take (i := 3) (oi := ⟨some 69, _, _, _, _, _⟩) (v := .pointer (some ⟨og, i, none⟩)) rfl (by kernel_rfl) (by kernel_rfl) (by kernel_rfl) (fun _ _ _ h => h) (Or.inl ⟨by rfl, fun w' hw => ?hy⟩) hHeld ?_
                case hy => (try dsimp only at hw); go_simp
                simp only [Act.put, List.setIfInBounds_toArray, List.set_cons_zero, List.set_cons_succ]
                refine wpAnyH_take (i := 4) (oi := ⟨some 70, _, _, _, _, _⟩) (v := .int .i64 (Li : Int)) rfl (by kernel_rfl) (by kernel_rfl) (by kernel_rfl) (fun _ _ _ h => h) (Or.inl ⟨by rfl, fun w' hw => ?hy⟩) hHeld ?_
                case hy => (try dsimp only at hw); go_simp
                simp only [Act.put, List.setIfInBounds_toArray, List.set_cons_zero, List.set_cons_succ]
                refine wpAnyH_take (i := 6) (oi := ⟨some 72, _, _, _, _, _⟩) (v := .int .i64 (j : Int)) rfl (by kernel_rfl) (by kernel_rfl) (by kernel_rfl) (fun _ _ _ h => h) (Or.inl ⟨by rfl, fun w' hw => ?hy⟩) hHeld ?_
                case hy => (try dsimp only at hw); go_simp
                simp only [Act.put, List.setIfInBounds_toArray, List.set_cons_zero, List.set_cons_succ]
                refine wpAnyH_ready (rs := [5]) (by kernel_rfl) (by simp) ?_
                refine AllReadyH.cons (o := ⟨some 71, _, _, _, _, _⟩) rfl (fun K hK => ?_) AllReadyH.nil
                go_simp
                refine (l04From_any A B ca cb ps.length Li rs _ h20 h70 HLi.out HR.out (hb.below (FaS.bel hHeld))).mono ?_; rintro e w6 ⟨A6, c6, rfl, hc6, O6, b6⟩
                obtain ⟨b6', o6, rfl, -, cS⟩ := O6.ints.at_ (k := j) (by rw [HDL.out]; exact hjl)
                rw [HDL.out] at hc6 ⊢
                rw [HXE.out] at cS
                clear O6
                go_wp2_with fail
                refine hK.out _ _ ?_ (fun hHeld => ?_)
                · exact FaS.under b6 hHeld
                clear hK K
                try simp only [Act.put, List.setIfInBounds_toArray, List.set_cons_zero, List.set_cons_succ]
                refine anyH_monoF (S' := fun w' => FaS w w.heap.size (.slice A ps.length ca) (.slice B rs.length cb) og i (Li : Int) w' ∧ w'.cell? ⟨b6', o6 + j, none⟩ = some (.int .i64 x)) (fun _ h => h.1) _ _ _ _ ?_
                replace hHeld : FaS w w.heap.size (.slice A ps.length ca) (.slice B rs.length cb) og i (Li : Int) w6 ∧ w6.cell? ⟨b6', o6 + j, none⟩ = some (.int .i64 x) := ⟨hHeld, cS⟩
                refine wpAnyH_take (i := 7) (oi := ⟨some 73, _, _, _, _, _⟩) (v := .pointer (some ⟨b6', o6 + j, none⟩)) rfl (by kernel_rfl) (by kernel_rfl) (by kernel_rfl) (fun _ _ _ h => h) (Or.inl ⟨by rfl, fun w' hw => ?hy⟩) hHeld ?_
                case hy => (try dsimp only at hw); go_simp
                simp only [Act.put, List.setIfInBounds_toArray, List.set_cons_zero, List.set_cons_succ]
                refine wpAnyH_take (i := 8) (oi := ⟨some 74, _, _, _, _, _⟩) (v := .int .i64 x) rfl (by kernel_rfl) (by kernel_rfl) (by kernel_rfl) (fun _ _ _ h => h) (Or.inl ⟨by rfl, fun w' hw => ?hy⟩) hHeld ?_
                case hy => (try dsimp only at hw); go_simp
                simp only [Act.put, List.setIfInBounds_toArray, List.set_cons_zero, List.set_cons_succ]
                refine wpAnyH_take (i := 9) (oi := ⟨some 12, _, _, _, _, _⟩) (v := .int .i64 x) rfl (by kernel_rfl) (by kernel_rfl) (by kernel_rfl) (fun _ _ _ h => h) (Or.inl ⟨by rfl, fun w' hw => ?hy⟩) hHeld ?_
                case hy => (try dsimp only at hw); go_simp
                simp only [Act.put, List.setIfInBounds_toArray, List.set_cons_zero, List.set_cons_succ]
                refine wpAnyH_done (by kernel_rfl) ?_ _
                have K6 := KID.trans (b6.mono KID.size)
                clear hHeld b6 cS
                by_cases hf : x = -1
                · have hfb : (x != -1) = false := by rw [hf]; rfl
                  have HF := Lib.hid hf
                  clear hf
                  go_wp2
                  go_roundw
                  case rel => exact ⟨i + 1, by omega, by go_num, by rw [HGi.out]; unfold gap1; rw [if_pos HF.out], by rw [HB.out], K6⟩
                  case measure => simp [intOf]; omega
                · have hfb : (x != -1) = true := by simpa using hf
                  have HF := Lib.hid hf
                  clear hf
                  go_wp2
                  go_roundw
                  case rel =>
                    refine ⟨i + 1, by omega, by go_num, congrArg (Value.int .i64) ?_, by rw [HB.out], K6⟩
                    rw [HGi.out]; unfold gap1; rw [if_neg HF.out]
                    all_goals ((try split) <;> omega)
                  case measure => simp [intOf]; omega
              | false =>
                cases hq : ((Li : Int) == (j : Int)) with
                | true =>
                  rw [hq] at HIi
                  have HB : Hid (IN (i + 1) j = true) := Lib.hid (by rw [HIi.out]; rfl)
                  have TS : FaS w w.heap.size (.slice A ps.length ca) (.slice B rs.length cb) og i (Li : Int) wr.drew := ⟨⟨x0, x1⟩, oc0, HKI.out.drew⟩
                  have KID := KI.drew
                  clear hb1
                  obtain ⟨x, hx⟩ : ∃ x, zg (dst ps.length rs Li) j = x := ⟨_, rfl⟩
                  have HXE := Lib.hid hx
                  rw [hx] at HGi
                  clear hx
                  go_wp2_with fail
                  refine wp_region_held_drew (S := (fun w' => FaS w w.heap.size (.slice A ps.length ca) (.slice B rs.length cb) og i (Li : Int) w')) (by kernel_rfl) ?_ (fun hHeld => ?_)
                  · exact TS
                  clear TS
                  refine wpAnyH_take (i := 0) (oi := ⟨some 66, _, _, _, _, _⟩) (v := .agg #[.slice A ps.length ca, .slice B rs.length cb]) rfl (by kernel_rfl) (by kernel_rfl) (by kernel_rfl) (fun _ _ _ h => h) (Or.inl ⟨by rfl, fun w' hw => ?hy⟩) hHeld ?_
                  case hy => (try dsimp only at hw); go_simp
                  simp only [Act.put, List.setIfInBounds_toArray, List.set_cons_zero, List.set_cons_succ]
                  refine wpAnyH_take (i := 1) (oi := ⟨some 67, _, _, _, _, _⟩) (v := .slice (some ⟨og, 0, none⟩) k oc) rfl (by kernel_rfl) (by kernel_rfl) (by kernel_rfl) (fun _ _ _ h => h) (Or.inl ⟨by rfl, fun w' hw => ?hy⟩) hHeld ?_
                  case hy => (try dsimp only at hw); go_simp
                  simp only [Act.put, List.setIfInBounds_toArray, List.set_cons_zero, List.set_cons_succ]
                  refine wpAnyH_take (i := 2) (oi := ⟨some 68, _, _, _, _, _⟩) (v := .int .i64 (i : Int)) rfl (by kernel_rfl) (by kernel_rfl) (by kernel_rfl) (fun _ _ _ h => h) (Or.inl ⟨by rfl, fun w' hw => ?hy⟩) hHeld ?_
                  case hy => (try dsimp only at hw); go_simp
                  simp only [Act.put, List.setIfInBounds_toArray, List.set_cons_zero, List.set_cons_succ]
                  refine wpAnyH_take (i := 3) (oi := ⟨some 69, _, _, _, _, _⟩) (v := .pointer (some ⟨og, i, none⟩)) rfl (by kernel_rfl) (by kernel_rfl) (by kernel_rfl) (fun _ _ _ h => h) (Or.inl ⟨by rfl, fun w' hw => ?hy⟩) hHeld ?_
                  case hy => (try dsimp only at hw); go_simp
                  simp only [Act.put, List.setIfInBounds_toArray, List.set_cons_zero, List.set_cons_succ]
                  refine wpAnyH_take (i := 4) (oi := ⟨some 70, _, _, _, _, _⟩) (v := .int .i64 (Li : Int)) rfl (by kernel_rfl) (by kernel_rfl) (by kernel_rfl) (fun _ _ _ h => h) (Or.inl ⟨by rfl, fun w' hw => ?hy⟩) hHeld ?_
                  case hy => (try dsimp only at hw); go_simp
                  simp only [Act.put, List.setIfInBounds_toArray, List.set_cons_zero, List.set_cons_succ]
                  refine wpAnyH_take (i := 6) (oi := ⟨some 72, _, _, _, _, _⟩) (v := .int .i64 (j : Int)) rfl (by kernel_rfl) (by kernel_rfl) (by kernel_rfl) (fun _ _ _ h => h) (Or.inl ⟨by rfl, fun w' hw => ?hy⟩) hHeld ?_
                  case hy => (try dsimp only at hw); go_simp
                  simp only [Act.put, List.setIfInBounds_toArray, List.set_cons_zero, List.set_cons_succ]
                  refine wpAnyH_ready (rs := [5]) (by kernel_rfl) (by simp) ?_
                  refine AllReadyH.cons (o := ⟨some 71, _, _, _, _, _⟩) rfl (fun K hK => ?_) AllReadyH.nil
                  go_simp
                  refine (l04From_any A B ca cb ps.length Li rs _ h20 h70 HLi.out HR.out (hb.below (FaS.bel hHeld))).mono ?_; rintro e w6 ⟨A6, c6, rfl, hc6, O6, b6⟩
                  obtain ⟨b6', o6, rfl, -, cS⟩ := O6.ints.at_ (k := j) (by rw [HDL.out]; exact hjl)
                  rw [HDL.out] at hc6 ⊢
                  rw [HXE.out] at cS
                  clear O6
                  go_wp2_with fail
                  refine hK.out _ _ ?_ (fun hHeld => ?_)
                  · exact FaS.under b6 hHeld
                  clear hK K
                  try simp only [Act.put, List.setIfInBounds_toArray, List.set_cons_zero, List.set_cons_succ]
                  refine anyH_monoF (S' := fun w' => FaS w w.heap.size (.slice A ps.length ca) (.slice B rs.length cb) og i (Li : Int) w' ∧ w'.cell? ⟨b6', o6 + j, none⟩ = some (.int .i64 x)) (fun _ h => h.1) _ _ _ _ ?_
                  replace hHeld : FaS w w.heap.size (.slice A ps.length ca) (.slice B rs.length cb) og i (Li : Int) w6 ∧ w6.cell? ⟨b6', o6 + j, none⟩ = some (.int .i64 x) := ⟨hHeld, cS⟩
                  refine wpAnyH_take (i := 7) (oi := ⟨some 73, _, _, _, _, _⟩) (v := .pointer (some ⟨b6', o6 + j, none⟩)) rfl (by kernel_rfl) (by kernel_rfl) (by kernel_rfl) (fun _ _ _ h => h) (Or.inl ⟨by rfl, fun w' hw => ?hy⟩) hHeld ?_
                  case hy => (try dsimp only at hw); go_simp
                  simp only [Act.put, List.setIfInBounds_toArray, List.set_cons_zero, List.set_cons_succ]
                  refine wpAnyH_take (i := 8) (oi := ⟨some 74, _, _, _, _, _⟩) (v := .int .i64 x) rfl (by kernel_rfl) (by kernel_rfl) (by kernel_rfl) (fun _ _ _ h => h) (Or.inl ⟨by rfl, fun w' hw => ?hy⟩) hHeld ?_
                  case hy => (try dsimp only at hw); go_simp
                  simp only [Act.put, List.setIfInBounds_toArray, List.set_cons_zero, List.set_cons_succ]
                  refine wpAnyH_take (i := 9) (oi := ⟨some 12, _, _, _, _, _⟩) (v := .int .i64 x) rfl (by kernel_rfl) (by kernel_rfl) (by kernel_rfl) (fun _ _ _ h => h) (Or.inl ⟨by rfl, fun w' hw => ?hy⟩) hHeld ?_
                  case hy => (try dsimp only at hw); go_simp
                  simp only [Act.put, List.setIfInBounds_toArray, List.set_cons_zero, List.set_cons_succ]
                  refine wpAnyH_done (by kernel_rfl) ?_ _
                  have K6 := KID.trans (b6.mono KID.size)
                  clear hHeld b6 cS
                  by_cases hf : x = -1
                  · have hfb : (x != -1) = false := by rw [hf]; rfl
                    have HF := Lib.hid hf
                    clear hf
                    go_wp2
                    go_roundw
                    case rel => exact ⟨i + 1, by omega, by go_num, by rw [HGi.out]; unfold gap1; rw [if_pos HF.out], by rw [HB.out], K6⟩
                    case measure => simp [intOf]; omega
                  · have hfb : (x != -1) = true := by simpa using hf
                    have HF := Lib.hid hf
                    clear hf
                    go_wp2
                    go_roundw
                    case rel =>
                      refine ⟨i + 1, by omega, by go_num, congrArg (Value.int .i64) ?_, by rw [HB.out], K6⟩
                      rw [HGi.out]; unfold gap1; rw [if_neg HF.out]
                      all_goals ((try split) <;> omega)
                    case measure => simp [intOf]; omega
                | false =>
                  rw [hq] at HIi
                  have HB : Hid (IN (i + 1) j = false) := Lib.hid (by rw [HIi.out]; rfl)
                  have TS : FaS w w.heap.size (.slice A ps.length ca) (.slice B rs.length cb) og i (Li : Int) wr.drew := ⟨⟨x0, x1⟩, oc0, HKI.out.drew⟩
                  have KID := KI.drew
                  clear hb1
                  obtain ⟨x, hx⟩ : ∃ x, zg (dst ps.length rs Li) j = x := ⟨_, rfl⟩
                  have HXE := Lib.hid hx
                  rw [hx] at HGi
                  clear hx
                  go_wp2_with fail
                  refine wp_region_held_drew (S := (fun w' => FaS w w.heap.size (.slice A ps.length ca) (.slice B rs.length cb) og i (Li : Int) w')) (by kernel_rfl) ?_ (fun hHeld => ?_)
                  · exact TS
                  clear TS
                  refine wpAnyH_take (i := 0) (oi := ⟨some 66, _, _, _, _, _⟩) (v := .agg #[.slice A ps.length ca, .slice B rs.length cb]) rfl (by kernel_rfl) (by kernel_rfl) (by kernel_rfl) (fun _ _ _ h => h) (Or.inl ⟨by rfl, fun w' hw => ?hy⟩) hHeld ?_
                  case hy => (try dsimp only at hw); go_simp
                  simp only [Act.put, List.setIfInBounds_toArray, List.set_cons_zero, List.set_cons_succ]
                  refine wpAnyH_take (i := 1) (oi := ⟨some 67, _, _, _, _, _⟩) (v := .slice (some ⟨og, 0, none⟩) k oc) rfl (by kernel_rfl) (by kernel_rfl) (by kernel_rfl) (fun _ _ _ h => h) (Or.inl ⟨by rfl, fun w' hw => ?hy⟩) hHeld ?_
                  case hy => (try dsimp only at hw); go_simp
                  simp only [Act.put, List.setIfInBounds_toArray, List.set_cons_zero, List.set_cons_succ]
                  refine wpAnyH_take (i := 2) (oi := ⟨some 68, _, _, _, _, _⟩) (v := .int .i64 (i : Int)) rfl (by kernel_rfl) (by kernel_rfl) (by kernel_rfl) (fun _ _ _ h => h) (Or.inl ⟨by rfl, fun w' hw => ?hy⟩) hHeld ?_
                  case hy => (try dsimp only at hw); go_simp
                  simp only [Act.put, List.setIfInBounds_toArray, List.set_cons_zero, List.set_cons_succ]
                  refine wpAnyH_take (i := 3) (oi := ⟨some 69, _, _, _, _, _⟩) (v := .pointer (some ⟨og, i, none⟩)) rfl (by kernel_rfl) (by kernel_rfl) (by kernel_rfl) (fun _ _ _ h => h) (Or.inl ⟨by rfl, fun w' hw => ?hy⟩) hHeld ?_
                  case hy => (try dsimp only at hw); go_simp
                  simp only [Act.put, List.setIfInBounds_toArray, List.set_cons_zero, List.set_cons_succ]
                  refine wpAnyH_take (i := 4) (oi := ⟨some 70, _, _, _, _, _⟩) (v := .int .i64 (Li : Int)) rfl (by kernel_rfl) (by kernel_rfl) (by kernel_rfl) (fun _ _ _ h => h) (Or.inl ⟨by rfl, fun w' hw => ?hy⟩) hHeld ?_
                  case hy => (try dsimp only at hw); go_simp
                  simp only [Act.put, List.setIfInBounds_toArray, List.set_cons_zero, List.set_cons_succ]
                  refine wpAnyH_take (i := 6) (oi := ⟨some 72, _, _, _, _, _⟩) (v := .int .i64 (j : Int)) rfl (by kernel_rfl) (by kernel_rfl) (by kernel_rfl) (fun _ _ _ h => h) (Or.inl ⟨by rfl, fun w' hw => ?hy⟩) hHeld ?_
                  case hy => (try dsimp only at hw); go_simp
                  simp only [Act.put, List.setIfInBounds_toArray, List.set_cons_zero, List.set_cons_succ]
                  refine wpAnyH_ready (rs := [5]) (by kernel_rfl) (by simp) ?_
                  refine AllReadyH.cons (o := ⟨some 71, _, _, _, _, _⟩) rfl (fun K hK => ?_) AllReadyH.nil
                  go_simp
                  refine (l04From_any A B ca cb ps.length Li rs _ h20 h70 HLi.out HR.out (hb.below (FaS.bel hHeld))).mono ?_; rintro e w6 ⟨A6, c6, rfl, hc6, O6, b6⟩
                  obtain ⟨b6', o6, rfl, -, cS⟩ := O6.ints.at_ (k := j) (by rw [HDL.out]; exact hjl)
                  rw [HDL.out] at hc6 ⊢
                  rw [HXE.out] at cS
                  clear O6
                  go_wp2_with fail
                  refine hK.out _ _ ?_ (fun hHeld => ?_)
                  · exact FaS.under b6 hHeld
                  clear hK K
                  try simp only [Act.put, List.setIfInBounds_toArray, List.set_cons_zero, List.set_cons_succ]
                  refine anyH_monoF (S' := fun w' => FaS w w.heap.size (.slice A ps.length ca) (.slice B rs.length cb) og i (Li : Int) w' ∧ w'.cell? ⟨b6', o6 + j, none⟩ = some (.int .i64 x)) (fun _ h => h.1) _ _ _ _ ?_
                  replace hHeld : FaS w w.heap.size (.slice A ps.length ca) (.slice B rs.length cb) og i (Li : Int) w6 ∧ w6.cell? ⟨b6', o6 + j, none⟩ = some (.int .i64 x) := ⟨hHeld, cS⟩
                  refine wpAnyH_take (i := 7) (oi := ⟨some 73, _, _, _, _, _⟩) (v := .pointer (some ⟨b6', o6 + j, none⟩)) rfl (by kernel_rfl) (by kernel_rfl) (by kernel_rfl) (fun _ _ _ h => h) (Or.inl ⟨by rfl, fun w' hw => ?hy⟩) hHeld ?_
                  case hy => (try dsimp only at hw); go_simp
                  simp only [Act.put, List.setIfInBounds_toArray, List.set_cons_zero, List.set_cons_succ]
                  refine wpAnyH_take (i := 8) (oi := ⟨some 74, _, _, _, _, _⟩) (v := .int .i64 x) rfl (by kernel_rfl) (by kernel_rfl) (by kernel_rfl) (fun _ _ _ h => h) (Or.inl ⟨by rfl, fun w' hw => ?hy⟩) hHeld ?_
                  case hy => (try dsimp only at hw); go_simp
                  simp only [Act.put, List.setIfInBounds_toArray, List.set_cons_zero, List.set_cons_succ]
                  refine wpAnyH_take (i := 9) (oi := ⟨some 12, _, _, _, _, _⟩) (v := .int .i64 x) rfl (by kernel_rfl) (by kernel_rfl) (by kernel_rfl) (fun _ _ _ h => h) (Or.inl ⟨by rfl, fun w' hw => ?hy⟩) hHeld ?_
                  case hy => (try dsimp only at hw); go_simp
                  simp only [Act.put, List.setIfInBounds_toArray, List.set_cons_zero, List.set_cons_succ]
                  refine wpAnyH_done (by kernel_rfl) ?_ _
                  have K6 := KID.trans (b6.mono KID.size)
                  clear hHeld b6 cS
                  by_cases hf : x = -1
                  · have hfb : (x != -1) = false := by rw [hf]; rfl
                    have HF := Lib.hid hf
                    clear hf
                    go_wp2
                    go_roundw
                    case rel => exact ⟨i + 1, by omega, by go_num, by rw [HGi.out]; unfold gap1; rw [if_pos HF.out], by rw [HB.out], K6⟩
                    case measure => simp [intOf]; omega
                  · have hfb : (x != -1) = true := by simpa using hf
                    have HF := Lib.hid hf
                    clear hf
                    go_wp2
                    go_roundw
                    case rel =>
                      refine ⟨i + 1, by omega, by go_num, congrArg (Value.int .i64) ?_, by rw [HB.out], K6⟩
                      rw [HGi.out]; unfold gap1; rw [if_neg HF.out]
                      all_goals ((try split) <;> omega)
                    case measure => simp [intOf]; omega
            · obtain rfl : i = k := by omega
              have HPj := Lib.hid (HPS.out j)
              generalize hb1 : IN i j = bi at HPj
              generalize hb2 : GK i j = gi at HPj
              generalize hb3 : PK j = pj at HPj
              have HB1 := Lib.hid hb1
              have HB3 := Lib.hid hb3
              clear hb1 hb2 hb3
              cases bi with
              | true =>
                have HN : Hid (PK (j + 1) = pj) := Lib.hid (by rw [HPj.out, if_neg]; rintro ⟨h, -⟩; cases h)
                go_wp2
                go_roundw
                case rel => exact ⟨j + 1, by omega, by go_num, by rw [HN.out], by rw [HN.out], KI⟩
                case measure => simp [intOf]; omega
              | false =>
                by_cases hgt : pj.2 < gi
                · have hgt2 : gi > pj.2 := hgt
                  have HN : Hid (PK (j + 1) = ((j : Int), gi)) := Lib.hid (by rw [HPj.out, if_pos ⟨rfl, hgt⟩])
                  go_wp2
                  go_roundw
                  case rel => exact ⟨j + 1, by omega, by go_num, by rw [HN.out], by rw [HN.out], KI⟩
                  case measure => simp [intOf]; omega
                · have hgt2 : ¬ gi > pj.2 := hgt
                  have hgt3 : decide (pj.2 < gi) = false := decide_eq_false hgt
                  have HN : Hid (PK (j + 1) = pj) := Lib.hid (by rw [HPj.out, if_neg]; rintro ⟨-, h⟩; exact hgt h)
                  go_wp2
                  go_roundw
                  case rel => exact ⟨j + 1, by omega, by go_num, by rw [HN.out], by rw [HN.out], KI⟩
                  case measure => simp [intOf]; omega
        · obtain rfl : j = ps.length := by omega
          have X2 := HX.out.below KJ
          have own := ownsRow_below HO.out KJ
          have K := HK.out.trans (KJ.mono HK.out.size)
          have hol := World.ownsRow.lt own
          have hKJs := KJ.size
          have kc := below1 wr (.cells #[.int .i64 (Nx : Int)] 3)
          have hXl := HX.out.lt
          obtain ⟨v1, w4, hr1, p1, g1⟩ := run_append_intF (w := wr) 40 (w.heap.size + 1) _ k _ own (Nx : Int) (by omega) (by omega)
          rw [← natZ_snoc, ← HFk.out] at p1
          obtain ⟨A4, c4, rfl⟩ := own_formF p1
          have X4 := (X2.below kc).grownUp g1 (fun b e => by have := (hol b e).1; omega)
          have K4 := (K.trans (kc.mono K.size)).grown g1 (by rw [World.size_alloc]; omega) (fun b e => by have := (hol b e).1; omega)
          have hpn := HPN.out
          clear own X2 K kc g1 hol
          go_wp2_with (at_builtin; refine Lib.wpList_append_run _ rfl _ _ _ _ rfl _ _ rfl rfl _ _ hr1 ?_)
          clear hr1 x0 x1
          go_roundw
          case rel => exact ⟨k + 1, by omega, by omega, p1, X4, K4⟩
          case measure => simp [lenOf]; omega
    · obtain rfl : k = M := by omega
      have HE := Lib.hid (intsMade_of (zs := natZ (FL k)) (by
        have := ownsRow_base own (base' := w.heap.size) (by omega)
        rw [natZ_len, hlen]
        exact this) K)
      by_cases hc : k < many
      · have hc1 : (k : Int) < many := by omega
        have hc2 : ¬ (k : Int) < ps.length := by have := HM.out; omega
        have hc3 : decide ((k : Int) < ps.length) = false := decide_eq_false hc2
        clear own X
        go_wp2
        go_ret
        rw [HQ.out]; exact HE.out
      · have hc1 : ¬ (k : Int) < many := by omega
        have hc3 : decide ((k : Int) < many) = false := decide_eq_false hc1
        clear own X
        go_wp2
        go_ret
        rw [HQ.out]; exact HE.out

theorem specFar_any (A B : Option Addr) (ca cb : Nat) (ps : List (Int × Int)) (rs : List A3) (many : Int) (w : World) (hn : ps.length ≤ 1048576) (hm : rs.length ≤ 1048576) (ha : IsPts w A ps) (hb : IsArcs w B rs) :
    Calls Try.prog 90 #[.agg #[.slice A ps.length ca, .slice B rs.length cb], .int .i64 many] w (IntsMade w (farM ps rs many)) := by
  by_cases h : netB ps rs = false ∨ ps.length = 0 ∨ btB many 1 8 = false
  · exact specFar_no A B ca cb ps rs many w hn hm ha hb h
  · have hb' : ∀ b : Bool, ¬ b = false → b = true := fun b hb => by cases b <;> simp_all
    have h1 := hb' _ (fun e => h (.inl e))
    have h2 : ps.length ≠ 0 := fun e => h (.inr (.inl e))
    have h3 := btB_iff.1 (hb' _ (fun e => h (.inr (.inr e))))
    obtain ⟨M, rfl⟩ : ∃ M : Nat, many = M := ⟨many.toNat, by omega⟩
    exact specFar_yes A B ca cb ps rs M w ha hb h1 (by omega) (by omega) (by omega)

end Go.Proofs.Ytcaamhoakhgnhaa
