/-
  What impl.nearer, impl.shorten and impl.DistFrom compute.
-/
import Derived.Test.YtcaamhoakhgnhaaRepeat
namespace Go.Proofs.Ytcaamhoakhgnhaa
open Go.RowKit Go.Deep

/-- Whether a distance is nearer than one that may be Far. -/
def nrB (d o : Int) : Bool := decide (o = -1 ∨ d < o)
theorem nearer_any (d o : Int) (w : World) : Calls Try.prog 88 #[.int .i64 d, .int .i64 o] w fun e w' => e = .returned (.bool (nrB d o)) ∧ w = w' := by
  by_cases h1 : o = -1
  · subst h1
    have H := Lib.hid (show nrB d (-1) = true from decide_eq_true (.inl rfl))
    go_enter Try.func88, Try.ntmps88
    go_wp2
    go_ret
    exact ⟨retB H.out.symm, rfl⟩
  · have h1' : (o == -1) = false := by simpa using h1
    by_cases h2 : d < o
    · have H := Lib.hid (show nrB d o = true from decide_eq_true (.inr h2))
      go_enter Try.func88, Try.ntmps88
      go_wp2
      go_ret
      exact ⟨retB H.out.symm, rfl⟩
    · have H := Lib.hid (show nrB d o = false from decide_eq_false (fun h => h.elim h1 h2))
      have h2' : decide (d < o) = false := decide_eq_false h2
      go_enter Try.func88, Try.ntmps88
      go_wp2
      go_ret
      exact ⟨retB H.out.symm, rfl⟩

theorem rlx_nr {d : List Int} {F T : Nat} {L : Int} (h : zg d F ≠ -1) : rlx d ((F : Int), (T : Int), L) = nrB (zg d F + L) (zg d T) := by
  unfold rlx nrB
  rw [Bool.eq_iff_iff, decide_eq_true_eq, decide_eq_true_eq]
  simp only [Int.toNat_natCast]
  exact ⟨fun k => k.2, fun k => ⟨h, k⟩⟩

set_option maxRecDepth 100000 in
set_option maxHeartbeats 2000000 in
theorem shorten_any (A B : Option Addr) (ca cb n g s : Nat) (rs : List A3) (d : List Int) (w0 w : World) (hn : n ≤ 20) (hm : rs.length ≤ 70) (hs : s < n) (hr : ArcsIn n rs) (hb : IsArcs w0 B rs) (hd : DI n rs s d) (hg : w0.heap.size ≤ g) (I0 : IRow w g n (zg d)) (K0 : Below w0.heap.size w0 w) :
    Calls Try.prog 53 #[.agg #[.slice A n ca, .slice B rs.length cb], .slice (some ⟨g, 0, none⟩) n n] w fun e w' => e = .returned (.bool (rlxC rs d rs.length)) ∧ IRow w' g n (zg (rlxK rs d rs.length)) ∧ Below w0.heap.size w0 w' := by
  have k1 := below1 w (.cells #[.slice A n ca, .slice B rs.length cb] 32)
  replace I0 := I0.below k1
  replace K0 := K0.trans (k1.mono K0.size)
  have HA := Lib.hid hr
  have HN := Lib.hid (fun i hi => (hd.next hn hs hr i hi).1)
  clear k1 hr hd
  go_enter Try.func53, Try.ntmps53
  go_wp2
  go_loopw [5, 12] (fun b i wr => ∃ q : Nat, q ≤ rs.length ∧ i = .int .i64 q ∧ b = .bool (rlxC rs d q) ∧ IRow wr g n (zg (rlxK rs d q)) ∧ Below w0.heap.size w0 wr) (fun _ i _ => rs.length - (intOf i).toNat)
  case atStart => exact ⟨0, by omega, rfl, rfl, I0, K0⟩
  case round =>
    clear I0 K0
    obtain ⟨q, hq, rfl, rfl, I, K⟩ := hrel
    by_cases hlt : q < rs.length
    · obtain ⟨b, off, rfl, -, c0, c1, c2⟩ := (hb.below K).at_ hlt
      obtain ⟨⟨f0, f1⟩, ⟨t0, t1⟩, hft, l0, l1⟩ := HA.out _ (arg_mem hlt)
      have HB := Lib.hid (HN.out q (by omega))
      have HK1 := Lib.hid (show rlxK rs d (q + 1) = rlx1 (rlxK rs d q) (arg rs q) from rfl)
      have HC1 := Lib.hid (show rlxC rs d (q + 1) = (rlxC rs d q || rlx (rlxK rs d q) (arg rs q)) from rfl)
      generalize arg rs q = a at c0 c1 c2 f0 f1 t0 t1 hft l0 l1 HK1 HC1
      obtain ⟨f, t, L⟩ := a
      obtain ⟨F, rfl⟩ : ∃ F : Nat, f = (F : Int) := ⟨f.toNat, by simp at f0; omega⟩
      obtain ⟨T, rfl⟩ : ∃ T : Nat, t = (T : Int) := ⟨t.toNat, by simp at t0; omega⟩
      simp only at c0 c1 c2 f0 f1 t0 t1 hft l0 l1
      have hF : F < n := by omega
      have hT : T < n := by omega
      generalize rlxK rs d q = e at I HB HK1 HC1
      have hx := HB.out.bound hn F hF
      have hy := HB.out.bound hn T hT
      have k1 := below1 wr (.cells #[.int .i64 (F : Int), .int .i64 (T : Int), .int .i64 L] 75)
      have Y : ArcBox (wr.alloc (.cells #[.int .i64 (F : Int), .int .i64 (T : Int), .int .i64 L] 75)) wr.heap.size F T L := arc_new wr F T L _
      have I1 := I.below k1
      have K1 := K.trans (k1.mono K.size)
      have dF := I1.cell hF
      have dT := I1.cell hT
      have fT := I1.frozen T
      obtain ⟨y0, y1, y2⟩ := Y.cells
      clear I K k1 f0 f1 t0 t1 hft
      by_cases h1 : zg e F = -1
      · have HR := Lib.hid (rlx_far (a := ((F : Int), (T : Int), L)) h1)
        rw [h1] at dF
        go_wp2
        go_roundw
        case rel => exact ⟨q + 1, by omega, by go_num, by rw [HC1.out, HR.out, Bool.or_false], by rw [HK1.out, rlx1_no HR.out]; exact I1, K1⟩
        case measure => simp [intOf]; omega
      · have h1' : (zg e F == -1) = false := by simpa using h1
        have HNR := Lib.hid (rlx_nr (T := T) (L := L) h1)
        generalize hxe : zg e F = x at h1 h1' dF hx HNR
        generalize hye : zg e T = y at dT hy HNR
        have HXE := Lib.hid hxe
        have HYE := Lib.hid hye
        clear hxe hye
        have hwr : IntKind.i64.wrap (x + L) = x + L := by rw [IntWalk.i64_left]; unfold wrap64; omega
        go_wp2_with fail
        go_quiet (fail)
        go_wp2_with fail
        refine (nearer_any _ _ _).mono ?_; rintro e' w' ⟨rfl, rfl⟩
        cases hnr : nrB (x + L) y with
        | false =>
          have HR := Lib.hid (HNR.out.trans hnr)
          go_wp2
          go_roundw
          case rel => exact ⟨q + 1, by omega, by go_num, by rw [HC1.out, HR.out, Bool.or_false], by rw [HK1.out, rlx1_no HR.out]; exact I1.drewN _, below_drewN K1 _⟩
          case measure => simp [intOf]; omega
        | true =>
          have HR := Lib.hid (HNR.out.trans hnr)
          go_wp2
          go_roundw
          case rel => exact ⟨q + 1, by omega, by go_num, by rw [HC1.out, HR.out, Bool.or_true], by rw [HK1.out, rlx1_yes HR.out, Int.toNat_natCast, Int.toNat_natCast]; rw [HXE.out]; exact (I1.drewN _).put HB.out.len T hT _, (below_drewN K1 _).setCell (by simpa using hg) _⟩
          case measure => simp [intOf]; omega
    · obtain rfl : q = rs.length := by omega
      go_wp2
      go_ret
      exact ⟨rfl, I, K⟩

set_option maxRecDepth 100000 in
set_option maxHeartbeats 2000000 in
theorem implDistFrom_no (A B : Option Addr) (ca cb : Nat) (ps : List (Int × Int)) (rs : List A3) (s : Int) (w : World) (hn : ps.length ≤ 1048576) (hm : rs.length ≤ 1048576) (ha : IsPts w A ps) (hb : IsArcs w B rs) (hok : netB ps rs = false ∨ btB s 0 ((ps.length : Int) - 1) = false) :
    Calls Try.prog 17 #[.agg #[.slice A ps.length ca, .slice B rs.length cb], .int .i64 s] w fun e w' => e = .returned (.slice none 0 0) ∧ Below w.heap.size w w' := by
  have X := Pair.new w 32 (.slice A ps.length ca) (.slice B rs.length cb)
  have K := below1 w (.cells #[.slice A ps.length ca, .slice B rs.length cb] 32)
  cases h1 : netB ps rs with
  | false =>
    go_enter Try.func17, Try.ntmps17
    go_wp2_with fail
    refine (implNetOk_any A B ca cb ps rs _ hn hm (ha.below K) (hb.below K)).mono ?_; rintro e w1 ⟨rfl, b1⟩
    replace K := K.trans (b1.mono K.size)
    clear b1 X hok
    go_wp2
    go_ret
    exact ⟨rfl, K⟩
  | true =>
    have h2 : btB s 0 ((ps.length : Int) - 1) = false := hok.resolve_left (by rw [h1]; simp)
    go_enter Try.func17, Try.ntmps17
    go_wp2_with fail
    refine (implNetOk_any A B ca cb ps rs _ hn hm (ha.below K) (hb.below K)).mono ?_; rintro e w1 ⟨rfl, b1⟩
    replace K := K.trans (b1.mono K.size)
    replace X := X.below b1
    obtain ⟨x0, x1, -, -⟩ := X.cells
    clear b1 hok
    go_wp2_with fail
    refine (hasNode_any A B ps.length rs.length ca cb s _).mono ?_; rintro e w2 ⟨rfl, b2⟩
    replace K := K.trans (b2.mono K.size)
    clear b2 x0 x1 X
    go_wp2
    go_ret
    exact ⟨rfl, K⟩

set_option maxRecDepth 100000 in
set_option maxHeartbeats 2000000 in
theorem implDistFrom_yes (A B : Option Addr) (ca cb : Nat) (ps : List (Int × Int)) (rs : List A3) (s : Nat) (w : World) (ha : IsPts w A ps) (hb : IsArcs w B rs) (hok : netB ps rs = true) (hs : s < ps.length) :
    Calls Try.prog 17 #[.agg #[.slice A ps.length ca, .slice B rs.length cb], .int .i64 (s : Int)] w (fun e w' => ∃ g, e = .returned (.slice (some ⟨g, 0, none⟩) ps.length ps.length) ∧ w.heap.size ≤ g ∧ IRow w' g ps.length (zg (dst ps.length rs s)) ∧ Below w.heap.size w w') := by
  obtain ⟨h20, h70, -, -⟩ := netB_iff.1 hok
  have hr := arcsIn_net hok
  have X := Pair.new w 32 (.slice A ps.length ca) (.slice B rs.length cb)
  have K := below1 w (.cells #[.slice A ps.length ca, .slice B rs.length cb] 32)
  have hu : btB (s : Int) 0 ((ps.length : Int) - 1) = true := btB_true (by omega) (by omega)
  have HD := Lib.hid (fun j => DI.pw h20 hs hr j)
  have HF := Lib.hid (fun j h => dst_of h20 hs hr (k := j) h)
  have HM := Lib.hid (fun j h => pw_mes h20 hs hr j h)
  have HA := Lib.hid hr
  clear hr
  go_enter Try.func17, Try.ntmps17
  go_wp2_with fail
  refine (implNetOk_any A B ca cb ps rs _ (by omega) (by omega) (ha.below K) (hb.below K)).mono ?_; rintro e w1 ⟨rfl, b1⟩
  replace K := K.trans (b1.mono K.size)
  replace X := X.below b1
  obtain ⟨x0, x1, -, -⟩ := X.cells
  clear b1
  go_wp2_with fail
  refine (hasNode_any A B ps.length rs.length ca cb _ _).mono ?_; rintro e w2 ⟨rfl, b2⟩
  replace K := K.trans (b2.mono K.size)
  replace X := X.below b2
  clear b2 x0 x1
  obtain ⟨x0, x1, -, -⟩ := X.cells
  have k3 := below1 w2 (.cells #[.int .i64 (-1)] 3)
  have x3 : (w2.alloc (.cells #[.int .i64 (-1)] 3)).cell? ⟨w.heap.size, 0, none⟩ = some (.slice A ps.length ca) := cell_under k3 x0
  have hc3 : (w2.alloc (.cells #[.int .i64 (-1)] 3)).cell? ⟨w2.heap.size, 0, none⟩ = some (.int .i64 (-1)) := by rw [cell_of_block (heap_alloc_new w2 _)]; rfl
  go_wp2_with fail
  refine (repeat_any w2.heap.size 1 ps.length _ h20 (by omega) hc3).mono ?_; rintro e w3 ⟨rfl, I3, b3⟩
  replace b3 := k3.trans (b3.mono k3.size)
  obtain ⟨g, hg⟩ : ∃ g, g = (w2.alloc (.cells #[.int .i64 (-1)] 3)).heap.size := ⟨_, rfl⟩
  rw [← hg] at I3 ⊢
  have hg2 : w2.heap.size ≤ g := by rw [hg, World.size_alloc]; omega
  clear hg x3 hc3 k3 x0 x1
  have c3 := I3.cell hs
  have f3 := I3.frozen s
  have I4 := I3.first hs
  have K4 : Below w2.heap.size w2 (w3.setCell ⟨g, s, none⟩ (.int .i64 0)) := b3.setCell hg2 _
  have XB := hb.below K
  clear I3 b3
  go_wp2
  clear c3 f3
  go_loopg [] (mes (dst0 ps.length s) + 1) (fun gk wr => ∃ j : Nat, mes (dst0 ps.length s) + 1 - j ≤ gk ∧ IRow wr g ps.length (zg (pw rs (dst0 ps.length s) j)) ∧ Below w2.heap.size w2 wr)
  case atStart => exact ⟨0, by omega, I4, K4⟩
  case round =>
    clear I4 K4
    obtain ⟨j, hj, I, Kj⟩ := hrel
    have HDj := Lib.hid (HD.out j)
    have HFj := Lib.hid (HF.out j)
    have HMj := Lib.hid (HM.out j)
    clear HD HF HM
    have HPW := Lib.hid (show rlxK rs (pw rs (dst0 ps.length s) j) rs.length = pw rs (dst0 ps.length s) (j + 1) from rfl)
    generalize pw rs (dst0 ps.length s) j = d at I HDj HFj HMj HPW
    obtain ⟨x0, x1, -, -⟩ := (X.below Kj).cells
    go_wp2_with fail
    clear x0 x1
    refine (shorten_any A B ca cb ps.length g s rs d w2 _ h20 h70 hs HA.out XB HDj.out hg2 I Kj).mono ?_; rintro e w5 ⟨rfl, I5, K5⟩
    clear I Kj
    cases hc : rlxC rs d rs.length with
    | false =>
      have HE := Lib.hid (HFj.out hc)
      have HS := Lib.hid (still hc).1
      have hle : w.heap.size ≤ g := by have := K.size; omega
      replace K := K.trans (K5.mono K.size)
      go_wp2
      go_ret
      exact ⟨g, rfl, hle, by rw [← HE.out, ← HS.out]; rw [HS.out]; rw [HS.out] at I5; exact I5, K⟩
    | true =>
      have hmm := HMj.out hc
      rw [HPW.out] at I5
      go_wp2
      go_roundg (mes (dst0 ps.length s) + 1 - (j + 1))
      case measure => omega
      case rel => exact ⟨j + 1, by omega, I5, K5⟩

end Go.Proofs.Ytcaamhoakhgnhaa
