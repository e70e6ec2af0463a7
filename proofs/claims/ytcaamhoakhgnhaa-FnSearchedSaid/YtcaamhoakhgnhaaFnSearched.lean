/-
  For every slice of bytes the law FnSearched returns true: what Search settles in the network drawn from it is settled with its distance, the nearest first, each once, and the goal last if one may come there (no condition).
-/
import Derived.Test.YtcaamhoakhgnhaaRows
import Derived.WalkKit
import Derived.ProofKit
import Derived.OpenShut
import Derived.ShutString
import Derived.ChangeOld
import Derived.Below
import Derived.Test.YtcaamhoakhgnhaaDistLaw
import Derived.Test.YtcaamhoakhgnhaaDrawTwo
import Derived.Test.YtcaamhoakhgnhaaSearchTop
import Derived.Test.YtcaamhoakhgnhaaBothTop
import Derived.Test.YtcaamhoakhgnhaaFoundAll
namespace Go.Proofs.Ytcaamhoakhgnhaa.fnSearched
open Go.ChangeShapes Go.WideShapes Go.ChangeAt Go.RowKit
open Go.ChangeMaps (open_string shut_string)
set_option linter.unusedVariables false

theorem own : ownKnob Try.prog.godebug = none := by kernel_rfl
theorem laidOut : laidOutB Try.prog = true := by kernel_rfl

/-- WHAT THE WALK IS TOLD OF A SLICE OF INTEGERS THAT CAME IN: it is nil; or it leads to a row of 'cap' cells, the numbers 'zs' (the first 'len' are its elements, the rest its spare room), each fitting its kind. -/
def IsRow (k : IntKind) (w : World) (a : Option Addr) (len cap : Nat) (zs : List Int) : Prop :=
  (a = none ∧ len = 0 ∧ cap = 0 ∧ zs = []) ∨
  ∃ x, a = some x ∧ len ≤ cap ∧ cap ≤ maxLen ∧ zs.length = cap ∧ (∀ i, i < zs.length → w.cell? (x.add i) = some (.int k (zs.getD i 0))) ∧ ∀ n ∈ zs, (Lit.int k n).wf = true

theorem in_noD (B : Option Addr) (cap n : Nat) (zs : List Int) (x : Int) (w : World) (hz : zs.length = n) (hn : n ≤ 1048576) (h : IsInts w B zs) (hx : ∀ k, k < n → zg zs k ≠ x) :
    Calls Try.prog 18 #[.slice B n cap, .int .i64 x] w fun e w' => e = .returned (.bool false) ∧ w' = w := by
  have HZ := Lib.hid hz
  have HX : Hid (∀ k, k < n → (zg zs k == x) = false) := Lib.hid (fun k hk => by rw [beq_eq_false_iff_ne]; exact hx k hk)
  clear hz hx
  go_enter Try.func18, Try.ntmps18
  go_wp2
  go_loop [5] (fun i => ∃ k : Nat, k ≤ n ∧ i = .int .i64 k) (fun i => n - (intOf i).toNat)
  case atStart => exact ⟨0, by omega, rfl⟩
  case round =>
    obtain ⟨k, hk, rfl⟩ := hrel
    by_cases hlt : k < n
    · obtain ⟨b, off, rfl, hb, hck⟩ := h.at_ (k := k) (by rw [HZ.out]; exact hlt)
      have e := HX.out k hlt
      have hkn : (k : Int) < n := by omega
      go_wp2
      go_round
      case rel => exact ⟨k + 1, by omega, by go_num⟩
      case measure => simp [intOf]; omega
    · obtain rfl : k = n := by omega
      go_wp2
      go_ret
      exact ⟨rfl, rfl⟩
theorem takeD {w : World} {A : Option Addr} {zs : List Int} (i : Nat) (h : IsInts w A zs) : IsInts w A (zs.take i) := fun hp => by
  rw [List.length_take] at hp
  obtain ⟨b, off, rfl, hb, c⟩ := h (by omega)
  refine ⟨b, off, rfl, hb, fun j hj => ?_⟩
  rw [List.length_take] at hj
  have e : zg (zs.take i) j = zg zs j := by unfold zg; rw [List.getD_eq_getElem?_getD, List.getD_eq_getElem?_getD, List.getElem?_take, if_pos (by omega)]
  rw [e]; exact c j (by omega)
/-- What Search gives, with room for the order's own length. -/
def SeenRC (w : World) (R : List (Int × Int)) (e : Ending) (w' : World) : Prop :=
  ∃ A1 A2 c1 c2, e = .returned (.agg #[.slice A1 R.length c1, .slice A2 R.length c2]) ∧ RowK w' w.heap.size w'.heap.size A1 (idsL R) ∧ RowK w' w.heap.size w'.heap.size A2 (keysL R) ∧ R.length ≤ c1 ∧ Below w.heap.size w w'
theorem implSearch_rc (A B : Option Addr) (ca cb : Nat) (ps : List (Int × Int)) (rs : List A3) (s t : Int) (w : World) (hn : ps.length ≤ 1048576) (hm : rs.length ≤ 1048576) (ha : IsPts w A ps) (hb : IsArcs w B rs) :
    Calls Try.prog 14 #[.agg #[.slice A ps.length ca, .slice B rs.length cb], .int .i64 s, .int .i64 t] w (SeenRC w (srL ps rs s t)) := by
  refine (implSearch_cap A B ca cb ps rs s t w hn hm ha hb).mono ?_
  rintro e w' ⟨A1, A2, c1, c2, rfl, O1, O2, ⟨-, hc⟩, b⟩
  exact ⟨A1, A2, c1, c2, by simp [idsL, keysL], O1.rowK, O2.rowK, by simpa [idsL] using hc, b⟩
/-- What region 17 reads: the network's box and the goal's distance. -/
abbrev SeB (x : Nat) (u v : Value) (b o : Nat) (z : Int) (w : World) : Prop := w.cell? ⟨x, 0, none⟩ = some u ∧ w.cell? ⟨x, 1, none⟩ = some v ∧ w.cell? ⟨b, o, none⟩ = some (.int .i64 z)
theorem SeB.under {w w' : World} {x : Nat} {u v : Value} {b o : Nat} {z : Int} (hb : Below w.heap.size w w') (h : SeB x u v b o z w) : SeB x u v b o z w' := ⟨cell_under hb h.1, cell_under hb h.2.1, cell_under hb h.2.2⟩

/-! ### STEP 1: THE WALK: the Go text returns true, AND WRITES NOTHING THAT WAS THERE: 'Below w.heap.size w w'' (Derived/Below.lean: '.refl', '.alloc', '.drew', '.setCell' at a new block, '.trans'). Open each 'IsRow' by 'rcases' AHEAD of 'go_enter'; part every test ahead of the walk. -/
set_option maxHeartbeats 4000000 in
set_option maxRecDepth 100000 in
theorem walk (a0 : Option Addr) (len0 cap0 : Nat) (z0 : List Int) (w : World) (w0 : IsRow .u8 w a0 len0 cap0 z0) :
    Calls Try.prog 4 #[.slice a0 len0 cap0] w fun e w' => e = .returned (.bool true) ∧ Below w.heap.size w w' := by
  have hcode := codeIn_of w0
  clear w0
  by_cases hbig : 1048576 < len0
  · have hd : decide ((1048576 : Int) < len0) = true := by simp; omega
    go_enter Try.func4, Try.ntmps4
    go_wp2_with (go_at_call 12; refine (big_any _ _ _ _).mono ?_; rintro e w' ⟨rfl, rfl⟩)
    go_ret
    exact ⟨rfl, Below.refl _ _⟩
  · have hd : decide ((1048576 : Int) < len0) = false := by simp; omega
    go_enter Try.func4, Try.ntmps4
    go_wp2_with fail
    refine (big_any _ _ _ _).mono ?_; rintro e w' ⟨rfl, rfl⟩
    go_wp2_with fail
    refine (drawSearch_any w a0 len0 cap0 hcode (by omega)).mono ?_
    rintro e w1 ⟨ad, B, ca, cb, ps, rs, s, t, rfl, h2, h21, h100, hs64, ht64, IP, IA, b1⟩
    have X := Pair.new w1 32 (.slice (some ad) ps.length ca) (.slice B rs.length cb)
    have k1 := below1 w1 (.cells #[.slice (some ad) ps.length ca, .slice B rs.length cb] 32)
    replace IP := IP.below k1
    replace IA := IA.below k1
    have K := b1.trans (k1.mono b1.size)
    clear k1 b1
    have h20 := srL_len ps rs s t
    obtain ⟨x0, x1, -, -⟩ := X.cells
    go_wp2_with fail
    clear x0 x1
    refine (implSearch_rc (some ad) B ca cb ps rs s t _ (by omega) (by omega) IP IA).mono ?_; rintro e w2 ⟨A2, C2, c2, d2, rfl, O2, D2, hc2, b2⟩
    have I2 := O2.ints
    have J2 := D2.ints
    replace X := X.below b2
    replace IP := IP.below b2
    replace IA := IA.below b2
    replace K := K.trans (b2.mono K.size)
    clear b2 O2 D2
    have Y := Pair.new w2 42 (.slice A2 (srL ps rs s t).length c2) (.slice C2 (srL ps rs s t).length d2)
    have k2 := below1 w2 (.cells #[.slice A2 (srL ps rs s t).length c2, .slice C2 (srL ps rs s t).length d2] 42)
    replace I2 := I2.below k2
    replace J2 := J2.below k2
    replace X := X.below k2
    replace IP := IP.below k2
    replace IA := IA.below k2
    replace K := K.trans (k2.mono K.size)
    clear k2
    obtain ⟨x0, x1, -, -⟩ := X.cells
    go_wp2_with fail
    clear x0 x1
    have HSL : Hid ((idsL (srL ps rs s t)).length = (srL ps rs s t).length ∧ (keysL (srL ps rs s t)).length = (srL ps rs s t).length) := Lib.hid (by simp [idsL, keysL])
    refine (specSearch_any (some ad) B ca cb ps rs s t _ (by omega) (by omega) IP IA).mono ?_; rintro e w3 ⟨A3, C3, c3, d3, rfl, O3, D3, -, b3⟩
    have I3 := OwnSl.ints O3
    have J3 := OwnSl.ints D3
    rw [HSL.out.1, HSL.out.2]
    replace X := X.below b3
    replace Y := Y.below b3
    replace I2 := I2.below b3
    replace J2 := J2.below b3
    replace IP := IP.below b3
    replace IA := IA.below b3
    replace K := K.trans (b3.mono K.size)
    clear b3 O3 D3
    have Z := Pair.new w3 42 (.slice A3 (srL ps rs s t).length c3) (.slice C3 (srL ps rs s t).length d3)
    have k3 := below1 w3 (.cells #[.slice A3 (srL ps rs s t).length c3, .slice C3 (srL ps rs s t).length d3] 42)
    replace I2 := I2.below k3
    replace J2 := J2.below k3
    replace I3 := I3.below k3
    replace J3 := J3.below k3
    replace X := X.below k3
    replace Y := Y.below k3
    replace IP := IP.below k3
    replace IA := IA.below k3
    replace K := K.trans (k3.mono K.size)
    clear k3
    obtain ⟨y0, y1, -, -⟩ := Y.cells
    obtain ⟨z0, z1, -, -⟩ := Z.cells
    go_wp2_with fail
    clear y0 y1 z0 z1
    refine (same_bel A2 A3 c2 c3 (srL ps rs s t).length (idsL (srL ps rs s t)) _ (by omega) HSL.out.1 I2 I3).mono ?_; rintro e w4 ⟨rfl, b4⟩
    replace I2 := I2.below b4
    replace J2 := J2.below b4
    replace J3 := J3.below b4
    replace X := X.below b4
    replace Y := Y.below b4
    replace Z := Z.below b4
    replace IP := IP.below b4
    replace IA := IA.below b4
    replace K := K.trans (b4.mono K.size)
    clear b4 I3
    obtain ⟨y0, y1, -, -⟩ := Y.cells
    obtain ⟨z0, z1, -, -⟩ := Z.cells
    go_wp2_with fail
    clear y0 y1 z0 z1
    refine (same_bel C2 C3 d2 d3 (srL ps rs s t).length (keysL (srL ps rs s t)) _ (by omega) HSL.out.2 J2 J3).mono ?_; rintro e w5 ⟨rfl, b5⟩
    replace I2 := I2.below b5
    replace J2 := J2.below b5
    replace X := X.below b5
    replace Y := Y.below b5
    replace IP := IP.below b5
    replace IA := IA.below b5
    replace K := K.trans (b5.mono K.size)
    clear b5 J3 Z
    rcases Nat.eq_zero_or_pos (srL ps rs s t).length with h0 | h0
    · have hle : (((srL ps rs s t).length : Int) == 0) = true := by rw [beq_iff_eq]; omega
      clear h0
      obtain ⟨y0, y1, -, -⟩ := Y.cells
      go_wp2
      go_ret
      exact ⟨rfl, K⟩
    · obtain ⟨h1, S, T, rfl, rfl, hS, hT, F⟩ := srL_found h0
      have HF := Lib.hid F
      have HN := Lib.hid h1
      have HDF := Lib.hid (dF_yes h1 hS)
      have HDL := Lib.hid (dst_len ps.length rs S)
      have hL20 : (srL ps rs S T).length ≤ 20 := by omega
      clear F h1
      generalize srL ps rs S T = L at *
      have hle : ((L.length : Int) == 0) = false := by rw [beq_eq_false_iff_ne]; omega
      obtain ⟨y0, y1, -, -⟩ := Y.cells
      obtain ⟨x0, x1, -, -⟩ := X.cells
      go_wp2_with fail
      clear x0 x1 y0 y1 hle
      refine (implDistFrom_any (some ad) B ca cb ps rs (S : Int) _ (by omega) (by omega) IP IA).mono ?_; rintro e w6 ⟨A6, c6, rfl, hc6, O6, b6⟩
      rw [HDF.out] at hc6 O6 ⊢
      have I6 := OwnSl.ints O6
      rw [HDL.out] at hc6 ⊢
      replace I2 := I2.below b6
      replace J2 := J2.below b6
      replace X := X.below b6
      replace Y := Y.below b6
      replace IP := IP.below b6
      replace IA := IA.below b6
      replace K := K.trans (b6.mono K.size)
      clear b6 O6
      obtain ⟨y0, y1, -, -⟩ := Y.cells
      go_wp2
      go_loopw [9] (fun vi wr => ∃ (i m : Nat), i ≤ L.length ∧ vi = .int .i64 i ∧ wr = w6.drewN m) (fun i _ => L.length - (intOf i).toNat)
      case atStart => exact ⟨0, 0, by omega, rfl, rfl⟩
      case round =>
        obtain ⟨i, m, hi, rfl, hwr⟩ := hrel
        by_cases hlt : i < L.length
        · have hili : (i : Int) < L.length := by omega
          have hic : i ≤ c2 := by omega
          obtain ⟨u0, u1, hk1⟩ := HF.out.at_key hlt
          have HNEW : Hid (∀ k, k < i → zg ((idsL L).take i) k ≠ zg (idsL L) i) := Lib.hid (fun k hk => by
            have e : zg ((idsL L).take i) k = zg (idsL L) k := by unfold zg; rw [List.getD_eq_getElem?_getD, List.getD_eq_getElem?_getD, List.getElem?_take, if_pos hk]
            rw [e]; exact HF.out.at_new hk hlt)
          have htk : ((idsL L).take i).length = i := by rw [List.length_take, HSL.out.1]; omega
          have HTK := Lib.hid htk
          obtain ⟨ob, oo, rfl, hob, ci⟩ := I2.at_ (k := i) (by rw [HSL.out.1]; exact hlt)
          obtain ⟨kb, ko, rfl, hkb, ki⟩ := J2.at_ (k := i) (by rw [HSL.out.2]; exact hlt)
          rw [hk1] at ki
          obtain ⟨U, hU⟩ : ∃ U : Nat, zg (idsL L) i = U := ⟨(zg (idsL L) i).toNat, by omega⟩
          rw [hU] at ci HNEW
          rw [hU, Int.toNat_natCast] at ki
          have hUn : U < ps.length := by omega
          obtain ⟨db, do_, rfl, hdb, di⟩ := I6.at_ (k := U) (by rw [HDL.out]; exact hUn)
          have HIN : Hid (∀ V : World, V = w6.drewN (m + 0) → True) := Lib.hid (fun _ _ => trivial)
          clear HIN
          have HI2 := I2
          generalize hz : zg (dst ps.length rs S) U = z at ki di
          have hzz : (z != z) = false := by simp
          have hUi : (U : Int) < ps.length := by omega
          have hTI := fun (V : World) (hV : Below w6.heap.size w6 V) => takeD i (I2.below hV)
          have HTI := Lib.hid hTI
          clear hTI
          rcases Nat.eq_zero_or_pos i with hi0 | hi0
          · subst hi0
            rw [Nat.add_zero] at ci ki
            have hL0 : (0 : Int) < (L.length : Int) := by omega
            have hLn : 0 < L.length := by omega
            subst hwr
            clear hk1 hU htk hz u0 u1 hc6 HTI HTK HNEW hili hlt hi hic
            go_wp2_with fail
            go_quiet ((go_at_call 18; refine (in_noD (some ⟨ob, oo, none⟩) c2 0 [] (U : Int) _ rfl (by omega) (fun h => by simp at h) (fun k hk => by omega)).mono ?_; rintro e w' ⟨rfl, rfl⟩; exact ⟨rfl, _, rfl⟩))
            go_wp2
            go_roundw
            case rel => exact ⟨1, m + nq, by omega, by go_num, by first | rfl | exact World.drewN_add _ _ _ | simp⟩
            case measure => simp [intOf]; omega
          · obtain ⟨j, hj⟩ : ∃ j, j + 1 = i := ⟨i - 1, by omega⟩
            have hjl : j < L.length := by omega
            have hjli : (j : Int) < L.length := by omega
            have hw1 : IntKind.i64.wrap ((i : Int) - 1) = j := by rw [IntWalk.i64_in _ (by omega)]; omega
            have hgt : (i : Int) > 0 := by omega
            have hgtd : decide ((0 : Int) < (i : Int)) = true := decide_eq_true (by omega)
            have hgn : 0 < i := hi0
            have hgnd : decide (0 < i) = true := decide_eq_true hgn
            obtain ⟨kb', ko', ekb, -, kj⟩ := J2.at_ (k := j) (by rw [HSL.out.2]; exact hjl)
            cases ekb
            have hasc := HF.out.at_asc (j := j) (k := i) (by omega) hlt
            rw [hk1, hU, Int.toNat_natCast, hz] at hasc
            generalize zg (keysL L) j = p at kj hasc
            have hlp : ¬ z < p := by omega
            have hlpd : decide (z < p) = false := decide_eq_false hlp
            clear hk1 hU htk hi0 hz u0 u1 hc6 hasc hj
            subst hwr
            go_wp2_with fail
            go_quiet ((go_at_call 18; refine (in_noD (some ⟨ob, oo, none⟩) c2 i ((idsL L).take i) (U : Int) _ HTK.out (by omega) (HTI.out _ (by first | exact below_drewN (Below.refl _ w6) _ | exact below_drewN (below_drewN (Below.refl _ w6) m) _)) HNEW.out).mono ?_; rintro e w' ⟨rfl, rfl⟩; exact ⟨rfl, _, rfl⟩))
            go_wp2
            go_roundw
            case rel => exact ⟨i + 1, m + nq, by omega, by go_num, by first | rfl | exact World.drewN_add _ _ _ | simp⟩
            case measure => simp [intOf]; omega
        · obtain rfl : i = L.length := by omega
          subst hwr
          have kd := below_drewN (Below.refl w6.heap.size w6) m
          have IPd := IP.below kd
          have IAd := IA.below kd
          have I2d := I2.below kd
          have I6d := I6.below kd
          have Xd := X.below kd
          have Yd := Y.below kd
          have Kd := K.trans (kd.mono K.size)
          obtain ⟨j, hj⟩ : ∃ j, j + 1 = L.length := ⟨L.length - 1, by omega⟩
          have hLAST := HF.out.at_last h0
          rw [show L.length - 1 = j by omega] at hLAST
          obtain ⟨u0, u1, -⟩ := HF.out.at_key (k := j) (by omega)
          obtain ⟨U, hU⟩ : ∃ U : Nat, zg (idsL L) j = U := ⟨(zg (idsL L) j).toNat, by omega⟩
          rw [hU] at hLAST
          have hw1 : IntKind.i64.wrap ((L.length : Int) - 1) = j := by rw [IntWalk.i64_in _ (by omega)]; omega
          have hjl : j < L.length := by omega
          have hjli : (j : Int) < L.length := by omega
          have hTi : (T : Int) < ps.length := by omega
          have hdv : zg (dst ps.length rs S) T = -1 ∨ 0 ≤ zg (dst ps.length rs S) T ∧ zg (dst ps.length rs S) T ≤ 200000 := dst_val (netB_iff.1 HN.out).1 hS (arcsIn_net HN.out) hT
          have HJ := Lib.hid hj
          clear IP IA I2 I6 X Y K kd J2 u0 u1 hj
          by_cases hd : zg (dst ps.length rs S) T = -1
          · have hV : bothV ps rs S T = .tuple #[.int .i64 0, .int .i64 0, .bool false] := bothV_no (by rw [dB_yes HN.out hS hT]; exact hd)
            have hUT : ((U : Int) == (T : Int)) = false := by rw [beq_eq_false_iff_ne]; exact fun e => absurd hd (hLAST.1 e)
            have HV := Lib.hid hV
            have HD := Lib.hid hd
            have HU := Lib.hid hU
            clear hV hd hU hLAST hdv
            obtain ⟨x0, x1, -, -⟩ := Xd.cells
            go_wp2_with fail
            clear x0 x1 y0 y1
            refine (implBoth_any ad B ca cb ps rs (S : Int) (T : Int) _ (by omega) (by omega) IPd IAd).mono ?_; rw [HV.out]; rintro e w7 ⟨rfl, b7⟩
            obtain ⟨x0, x1, -, -⟩ := (Xd.below b7).cells
            obtain ⟨y0, y1, -, -⟩ := (Yd.below b7).cells
            obtain ⟨ob, oo, rfl, hob, ci⟩ := (I2d.below b7).at_ (k := j) (by rw [HSL.out.1]; exact hjl)
            obtain ⟨db, do_, rfl, hdb, di⟩ := (I6d.below b7).at_ (k := T) (by rw [HDL.out]; exact hT)
            rw [HU.out] at ci
            rw [HD.out] at di
            have K7 := Kd.trans (b7.mono Kd.size)
            clear IPd IAd I2d I6d Xd Yd Kd b7 HU HD
            go_wp2_with fail
            go_quiet (fail)
            go_wp2
            go_ret
            exact ⟨rfl, by first | exact K7.drew | exact below_drewN K7 _ | exact K7⟩
          · obtain ⟨M, hV, hM, hsum⟩ := both_mid HN.out hS hT (by rw [dB_yes HN.out hS hT]; exact hd)
            rw [dB_yes HN.out hS hT] at hV hsum
            have hUT : U = T := by have := hLAST.2 hd; omega
            subst hUT
            have HV := Lib.hid hV
            have HU := Lib.hid hU
            have hdn : (zg (dst ps.length rs S) U != -1) = true := by simpa using hd
            generalize hzz : zg (dst ps.length rs S) U = z at hdn hsum HV hdv hd
            have hwz : IntKind.i64.wrap (dB ps rs S M + dB ps rs M U) = z := by rw [hsum]; exact IntWalk.i64_in _ (by omega)
            have HB1 := Lib.hid (fun (V : World) g1 g2 => implBetween_any (some ad) B ca cb ps rs (S : Int) (M : Int) V (by omega) (by omega) g1 g2)
            have HB2 := Lib.hid (fun (V : World) g1 g2 => implBetween_any (some ad) B ca cb ps rs (M : Int) (U : Int) V (by omega) (by omega) g1 g2)
            generalize dB ps rs S M = a at hwz HB1 hsum
            generalize dB ps rs M U = b at hwz HB2 hsum
            have HZ := Lib.hid hzz
            clear hV hU hLAST hdv hd hsum hzz
            obtain ⟨x0, x1, -, -⟩ := Xd.cells
            go_wp2_with fail
            clear x0 x1 y0 y1
            refine (implBoth_any ad B ca cb ps rs (S : Int) (U : Int) _ (by omega) (by omega) IPd IAd).mono ?_; rw [HV.out]; rintro e w7 ⟨rfl, b7⟩
            have X7 := Xd.below b7
            have Y7 := Yd.below b7
            have I27 := I2d.below b7
            have I67 := I6d.below b7
            have IP7 := IPd.below b7
            have IA7 := IAd.below b7
            have K7 := Kd.trans (b7.mono Kd.size)
            clear IPd IAd I2d I6d Xd Yd Kd b7
            obtain ⟨x0, x1, -, -⟩ := X7.cells
            obtain ⟨db, do_, rfl, hdb, di⟩ := I67.at_ (k := U) (by rw [HDL.out]; exact hT)
            rw [HZ.out] at di
            have T7 : SeB w1.heap.size (.slice (some ad) ps.length ca) (.slice B rs.length cb) db (do_ + U) z w7.drew := ⟨x0, x1, di⟩
            have HPD := Lib.hid (fun (V : World) (h : Below w7.drew.heap.size w7.drew V) => (IP7.below (w' := w7.drew) ((Below.refl _ w7).drew)).below h)
            have HAD := Lib.hid (fun (V : World) (h : Below w7.drew.heap.size w7.drew V) => (IA7.below (w' := w7.drew) ((Below.refl _ w7).drew)).below h)
            clear x0 x1 di IP7 IA7
            go_wp2_with fail
            go_region_held3 (fun w' => SeB w1.heap.size (.slice (some ad) ps.length ca) (.slice B rs.length cb) db (do_ + U) z w')
              (first | exact T7 | assumption)
              ((first
                | (go_at_call 19; refine (HB2.out _ (HPD.out _ b8) (HAD.out _ b8)).mono ?_; rintro e w9 ⟨rfl, b9⟩; have T9 := SeB.under b9 T8)
                | (go_at_call 19; refine (HB1.out _ (HPD.out _ b8) (HAD.out _ b8)).mono ?_; rintro e w9 ⟨rfl, b9⟩; have T9 := SeB.under b9 T8)
                | (go_at_call 19; refine (HB1.out _ (HPD.out _ (Below.refl _ _)) (HAD.out _ (Below.refl _ _))).mono ?_; rintro e w8 ⟨rfl, b8⟩; have T8 := SeB.under b8 T7)
                | (go_at_call 19; refine (HB2.out _ (HPD.out _ (Below.refl _ _)) (HAD.out _ (Below.refl _ _))).mono ?_; rintro e w8 ⟨rfl, b8⟩; have T8 := SeB.under b8 T7)))
            all_goals
              have kk : Below w7.heap.size w7 w9 := ((Below.refl w7.heap.size w7).drew).trans ((show Below w7.heap.size w7.drew w8 from b8).trans (b9.mono (show w7.heap.size ≤ w8.heap.size from b8.size)))
              have Y9 := Y7.below kk
              have I29 := I27.below kk
              have K9 := K7.trans (kk.mono K7.size)
              obtain ⟨y0, y1, -, -⟩ := Y9.cells
              obtain ⟨ob, oo, rfl, hob, ci⟩ := I29.at_ (k := j) (by rw [HSL.out.1]; exact hjl)
              rw [HU.out] at ci
              clear kk Y9 I29 K7 Y7 I27 X7 b8 b9 T7 T8 T9 HPD HAD I67
              go_wp2
              go_ret
              exact ⟨by simp, K9⟩

/-! ### THE ROW's STEP: WRITTEN OUT: LEAVE IT -/
set_option maxRecDepth 100000 in
theorem lifted (os : Os) (started : os.Started) (H : Type) (enc : TypeId × Value → H) :
    ReturnsInHanded {} Try.checked os 4 .any (Rows.fnSearchedSpec.pre6 enc Try.prog Try.f4 Rows.fnSearchedRow.domain false) (Rows.fnSearchedSpec.post enc Try.prog Try.f4 false true false false) := by
  refine returnsInHanded_of_change (C := Try.checked) own started (by kernel_rfl) Try.func4
    (ChangeSpec.witness6 (enc := enc) (C := Try.checked) false ⟨#[], #[.slice none 0 0], []⟩ 8 (by kernel_rfl) (by kernel_rfl) (by kernel_rfl) (by kernel_rfl)) ?_
  intro W base args ds gs before hval0 hW hcnd _
  have hval : ∀ (j : Nat) t v, Try.f4.params[j]? = some t → args[j]? = some v → Value.okWide Try.prog W .any base t v := hval0
  have hW' := hW
  obtain ⟨p, q, hA0, hV, rfl, hfz, hnd⟩ := hW
  have hA : DataW.TrodAll enc Try.prog W 0 (fun _ => true) true Try.f4.params.toList args.toList ds p := hA0
  rw [Try.params4] at hA hval
  obtain ⟨v0, vs0, d0, ds0, p0, q0, hargs, rfl, rfl, h0, r0⟩ := trodAll_cons hA
  obtain ⟨rfl, rfl, rfl⟩ := trodAll_nil r0
  obtain rfl : args = #[v0] := by cases args; simp_all
  obtain ⟨rfl, rfl⟩ := trodVars_none hV
  obtain ⟨a0, len0, cap0, rfl⟩ := okWide_slice Try.underlying36 (hval 0 36 v0 rfl rfl)
  have k0 := h0
  have lt0 : ∀ x ∈ p0, x.block < W.heap.size := by obtain ⟨m, hm⟩ := k0; exact DataW.trod_lt m _ _ _ hm
  obtain ⟨z0, w0⟩ : ∃ zs, IsRow .u8 W a0 len0 cap0 zs := by
    obtain ⟨fuel, hf⟩ := h0
    rcases open_ints Try.underlying36 Try.underlying5 (by kernel_rfl) hf with ⟨hcs, _⟩ | ⟨x, l, c, zs, hcs, _, hl, hm, hz, _, hcell, hwz⟩
    · simp [Value.cells] at hcs
      obtain ⟨rfl, rfl, rfl⟩ := hcs
      exact ⟨[], .inl ⟨rfl, rfl, rfl, rfl⟩⟩
    · simp [Value.cells] at hcs
      obtain ⟨rfl, rfl, rfl⟩ := hcs
      exact ⟨zs, .inr ⟨_, rfl, hl, hm, by simpa using hz, hcell, hwz⟩⟩
  clear hA0 hval0
  refine (walk a0 len0 cap0 z0 W w0).mono fun e W' ⟨he, bel⟩ => ?_
  subst he
  exact ⟨_, rfl, _, _, _, [], _, [], hW', trodAll_mk1 (shut_bool Try.underlying4 _), (trodAll_cons_mk (Below.trod laidOut (by kernel_rfl) (of_decide_eq_true (by kernel_rfl)) k0 bel lt0) trodAll_mk0), rfl, bel.frame _, fun h => by cases h⟩

theorem over : Rows.fnSearchedRow.holds Try.pinned (OpenSpec.ofChange Rows.fnSearchedSpec) :=
  OpenClaim.holds_of_wide 4 Try.f4 rfl rfl rfl rfl rfl rfl rfl ⟨rfl, rfl, rfl, rfl, rfl⟩ rfl rfl rfl rfl rfl (by kernel_rfl) Try.func4 (by kernel_rfl)
    (of_decide_eq_true (by kernel_rfl)) (by unfold Func.isWrapper; first | (rw [if_pos (by decide +kernel)]; kernel_rfl) | (rw [if_neg (by decide +kernel)]; exact ⟨rfl, rfl⟩))
    (fun os started H enc _ => lifted os started H enc)

/-- ████ THE STATEMENT ████ -/
theorem proved : Rows.FnSearchedSaid := over
#print axioms proved
end Go.Proofs.Ytcaamhoakhgnhaa.fnSearched
