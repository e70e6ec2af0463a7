/-
  For every slice of bytes the law FnFarMarks returns true: the landmarks of the network drawn from it are as the specification's, different nodes, the first one being the first node (no condition).
-/
import Derived.Test.YtbmfjfglkjhlnaaRows
import Derived.WalkKit
import Derived.ProofKit
import Derived.OpenShut
import Derived.ShutString
import Derived.ChangeOld
import Derived.Below
import Derived.Test.YtbmfjfglkjhlnaaDistLaw
import Derived.Test.YtbmfjfglkjhlnaaDrawFar
namespace Go.Proofs.Ytbmfjfglkjhlnaa.fnFarMarks
open Go.ChangeShapes Go.WideShapes Go.ChangeAt Go.RowKit
open Go.ChangeMaps (open_string shut_string)
set_option linter.unusedVariables false

theorem own : ownKnob Try.prog.godebug = none := by kernel_rfl
theorem laidOut : laidOutB Try.prog = true := by kernel_rfl

/-- WHAT THE WALK IS TOLD OF A SLICE OF INTEGERS THAT CAME IN: it is nil; or it leads to a row of 'cap' cells, the numbers 'zs' (the first 'len' are its elements, the rest its spare room), each fitting its kind. -/
def IsRow (k : IntKind) (w : World) (a : Option Addr) (len cap : Nat) (zs : List Int) : Prop :=
  (a = none ∧ len = 0 ∧ cap = 0 ∧ zs = []) ∨
  ∃ x, a = some x ∧ len ≤ cap ∧ cap ≤ maxLen ∧ zs.length = cap ∧ (∀ i, i < zs.length → w.cell? (x.add i) = some (.int k (zs.getD i 0))) ∧ ∀ n ∈ zs, (Lit.int k n).wf = true

theorem farL_zero {n : Nat} {rs : List A3} (hn : 0 < n) : ∀ k, 0 < k → (farL n rs k).getD 0 1 = 0
  | 0, h => by omega
  | k + 1, _ => by
    rcases Nat.eq_zero_or_pos k with rfl | hk
    · rw [farL_one hn]; rfl
    · have ih := farL_zero (rs := rs) hn k hk
      have hl := farL_len n rs k
      show (farL n rs k ++ [nextM n rs (farL n rs k)]).getD 0 1 = 0
      rw [List.getD_eq_getElem?_getD, List.getElem?_append_left (by omega), ← List.getD_eq_getElem?_getD]; exact ih
theorem far_law {ps : List (Int × Int)} {rs : List A3} {z : Int} (h : 0 < (farM ps rs z).length) : ∃ L : List Nat, farM ps rs z = natZ L ∧ (∀ m ∈ L, m < ps.length) ∧ L.Nodup ∧ L.getD 0 1 = 0 ∧ (z = L.length ∨ L.length = ps.length) := by
  by_cases hno : netB ps rs = false ∨ z < 1 ∨ 8 < z
  · rw [farM_no hno] at h; simp at h
  · have h1 : netB ps rs = true := by cases e : netB ps rs with
      | false => exact absurd (.inl e) hno
      | true => rfl
    have h2 : ¬ z < 1 := fun e => hno (.inr (.inl e))
    have h3 : ¬ 8 < z := fun e => hno (.inr (.inr e))
    obtain ⟨M, rfl⟩ : ∃ M : Nat, z = M := ⟨z.toNat, by omega⟩
    have e := farM_yes (ps := ps) (rs := rs) (many := M) h1 (by omega) (by omega)
    rw [e, natZ_len, farL_len] at h
    obtain ⟨h20, -, -, -⟩ := netB_iff.1 h1
    obtain ⟨q1, q2⟩ := farL_in h20 (arcsIn_net h1) (min M ps.length) (by omega)
    refine ⟨_, e, q1, q2, farL_zero (by omega) _ h, ?_⟩
    rw [farL_len]; omega
theorem in_no (B : Option Addr) (cap n : Nat) (zs : List Int) (x : Int) (w : World) (hz : zs.length = n) (hn : n ≤ 1048576) (h : IsInts w B zs) (hx : x ∉ zs) :
    Calls Try.prog 28 #[.slice B n cap, .int .i64 x] w fun e w' => e = .returned (.bool false) ∧ w = w' := by
  have HZ := Lib.hid hz
  have HX : Hid (∀ k, k < n → (zg zs k == x) = false) := Lib.hid (fun k hk => by
    rw [beq_eq_false_iff_ne]; intro e
    refine hx ?_
    rw [← e]; unfold zg; rw [List.getD_eq_getElem?_getD, List.getElem?_eq_getElem (show k < zs.length by omega)]; exact List.getElem_mem _)
  clear hz hx
  go_enter Try.func28, Try.ntmps28
  go_wp2
  go_loop [5] (fun i => ∃ k : Nat, k ≤ n ∧ i = .int .i64 k) (fun i => n - (intOf i).toNat)
  case atStart => exact ⟨0, by omega, rfl⟩
  case round =>
    obtain ⟨k, hk, rfl⟩ := hrel
    by_cases hlt : k < n
    · obtain ⟨b, off, rfl, hb, hck⟩ := h.at_ (k := k) (by rw [HZ.out]; exact hlt)
      have e := HX.out k hlt
      have hkn : (k : Int) < n := by omega
      go_wp2
      go_round
      case rel => exact ⟨k + 1, by omega, by go_num⟩
      case measure => simp [intOf]; omega
    · obtain rfl : k = n := by omega
      go_wp2
      go_ret
      exact ⟨rfl, rfl⟩
theorem isInts_take {w : World} {A : Option Addr} {zs : List Int} (i : Nat) (h : IsInts w A zs) : IsInts w A (zs.take i) := fun hp => by
  rw [List.length_take] at hp
  obtain ⟨b, off, rfl, hb, c⟩ := h (by omega)
  refine ⟨b, off, rfl, hb, fun j hj => ?_⟩
  rw [List.length_take] at hj
  have e : zg (zs.take i) j = zg zs j := by unfold zg; rw [List.getD_eq_getElem?_getD, List.getD_eq_getElem?_getD, List.getElem?_take, if_pos (by omega)]
  rw [e]; exact c j (by omega)
/-- What a round reads: the network's box, a landmark. -/
abbrev FmS (x : Nat) (u : Value) (b o : Nat) (z : Int) (w : World) : Prop := w.cell? ⟨x, 0, none⟩ = some u ∧ w.cell? ⟨b, o, none⟩ = some (.int .i64 z)

/-! ### STEP 1: THE WALK: the Go text returns true, AND WRITES NOTHING THAT WAS THERE: 'Below w.heap.size w w'' (Derived/Below.lean: '.refl', '.alloc', '.drew', '.setCell' at a new block, '.trans'). Open each 'IsRow' by 'rcases' AHEAD of 'go_enter'; part every test ahead of the walk. -/
set_option maxHeartbeats 4000000 in
set_option maxRecDepth 100000 in
theorem walk (a0 : Option Addr) (len0 cap0 : Nat) (z0 : List Int) (w : World) (w0 : IsRow .u8 w a0 len0 cap0 z0) :
    Calls Try.prog 10 #[.slice a0 len0 cap0] w fun e w' => e = .returned (.bool true) ∧ Below w.heap.size w w' := by
  have hcode := codeIn_of w0
  clear w0
  by_cases hbig : 1048576 < len0
  · have hd : decide ((1048576 : Int) < len0) = true := by simp; omega
    go_enter Try.func10, Try.ntmps10
    go_wp2_with (go_at_call 24; refine (big_any _ _ _ _).mono ?_; rintro e w' ⟨rfl, rfl⟩)
    go_ret
    exact ⟨rfl, Below.refl _ _⟩
  · have hd : decide ((1048576 : Int) < len0) = false := by simp; omega
    go_enter Try.func10, Try.ntmps10
    go_wp2_with fail
    refine (big_any _ _ _ _).mono ?_; rintro e w' ⟨rfl, rfl⟩
    go_wp2_with fail
    refine (drawFar_any w a0 len0 cap0 hcode (by omega)).mono ?_
    rintro e w1 ⟨ad, B, ca, cb, ps, rs, z, rfl, h2, h21, h100, -, IP, IA, b1⟩
    have X := Pair.new w1 34 (.slice (some ad) ps.length ca) (.slice B rs.length cb)
    have k1 := below1 w1 (.cells #[.slice (some ad) ps.length ca, .slice B rs.length cb] 34)
    replace IP := IP.below k1
    replace IA := IA.below k1
    have K := b1.trans (k1.mono b1.size)
    clear k1 b1
    obtain ⟨l, hl⟩ : ∃ l, l = farM ps rs z := ⟨_, rfl⟩
    have hll : l.length ≤ 1048576 := by rw [hl]; exact farM_len ps rs z
    have HSP : Hid (∀ (w : World), IsPts w (some ad) ps → IsArcs w B rs → Calls Try.prog 38 #[.agg #[.slice (some ad) ps.length ca, .slice B rs.length cb], .int .i64 z] w (IntsMade w l)) := Lib.hid (fun w g1 g2 => by rw [hl]; exact specFar_any (some ad) B ca cb ps rs z w (by omega) (by omega) g1 g2)
    have HIM : Hid (∀ (w : World), IsPts w (some ad) ps → IsArcs w B rs → Calls Try.prog 39 #[.agg #[.slice (some ad) ps.length ca, .slice B rs.length cb], .int .i64 z] w (IntsMade w l)) := Lib.hid (fun w g1 g2 => by rw [hl]; exact implFar_any (some ad) B ca cb ps rs z w (by omega) (by omega) g1 g2)
    have HFL := Lib.hid (fun (h : 0 < l.length) => (by rw [hl] at h ⊢; exact far_law h : ∃ L : List Nat, l = natZ L ∧ (∀ m ∈ L, m < ps.length) ∧ L.Nodup ∧ L.getD 0 1 = 0 ∧ (z = L.length ∨ L.length = ps.length)))
    clear hl
    obtain ⟨x0, x1, -, -⟩ := X.cells
    go_wp2_with fail
    clear x0 x1
    refine (HIM.out _ IP IA).mono ?_; rintro e w2 ⟨A2, c2, rfl, hc2, O2, b2⟩
    have I2 := OwnSl.ints O2
    replace X := X.below b2
    replace IP := IP.below b2
    replace IA := IA.below b2
    replace K := K.trans (b2.mono K.size)
    clear b2 O2 HIM
    obtain ⟨x0, x1, -, -⟩ := X.cells
    go_wp2_with fail
    clear x0 x1
    refine (HSP.out _ IP IA).mono ?_; rintro e w3 ⟨A3', c3, rfl, -, O3, b3⟩
    have I3 := OwnSl.ints O3
    replace I2 := I2.below b3
    replace X := X.below b3
    replace K := K.trans (b3.mono K.size)
    clear b3 O3 HSP IP IA
    go_wp2_with fail
    refine (same_bel A2 A3' c2 c3 l.length l _ hll rfl I2 I3).mono ?_; rintro e w4 ⟨rfl, b4⟩
    replace I2 := I2.below b4
    replace X := X.below b4
    replace K := K.trans (b4.mono K.size)
    clear b4 I3
    obtain ⟨n0, hn0⟩ : ∃ n0, n0 = l.length := ⟨_, rfl⟩
    have HN0 := Lib.hid hn0
    have hnl : n0 ≤ 1048576 := by omega
    rw [← hn0] at hc2 ⊢
    clear hn0 hll
    rcases Nat.eq_zero_or_pos n0 with h0 | h0
    · have hlz : ¬ (0 : Int) < (n0 : Int) := by omega
      have hle : ((n0 : Int) == 0) = true := by rw [beq_iff_eq]; omega
      clear h0 X I2 HFL hc2
      go_wp2
      refine wp_loop_rounds 1 ?_; rw [rounds_succ]
      go_wp2
      go_ret
      exact ⟨rfl, K⟩
    · obtain ⟨L, hL, hLn, hLd, hL0, hLe⟩ := HFL.out (by rw [← HN0.out]; exact h0)
      have hLl : L.length = n0 := by rw [HN0.out, hL, natZ_len]
      have HLn := Lib.hid hLn
      have HLd := Lib.hid hLd
      have HZG : Hid (∀ i, i < n0 → zg l i = ((L.getD i 0 : Nat) : Int)) := Lib.hid (fun i hi => by rw [hL]; exact natZ_get (by omega))
      have HLL := Lib.hid hL
      have HLl := Lib.hid hLl
      have hz0 : zg l 0 = 0 := by
        rw [HZG.out 0 h0]
        have : L.getD 0 0 = 0 := by
          rw [List.getD_eq_getElem?_getD, List.getElem?_eq_getElem (show 0 < L.length by omega)] at hL0 ⊢
          exact hL0
        rw [this]; rfl
      have HZ0 := Lib.hid hz0
      have hEND : (((n0 : Int) == z) || ((n0 : Int) == (ps.length : Int))) = true := by
        rw [hLl] at hLe
        rcases hLe with h | h
        · rw [h]; simp
        · rw [h]; simp
      have HEND := Lib.hid hEND
      have hzlt : (0 : Int) < n0 := by omega
      clear hL hLn hLd hL0 hLe hLl hz0 hEND HFL
      go_wp2
      go_loopw [6] (fun vi wr => ∃ i : Nat, i ≤ n0 ∧ vi = .int .i64 i ∧ IsInts wr A2 l ∧ Pair wr w1.heap.size 34 (.slice (some ad) ps.length ca) (.slice B rs.length cb) ∧ Below w.heap.size w wr) (fun i _ => n0 - (intOf i).toNat)
      case atStart => exact ⟨0, by omega, rfl, I2, X, K⟩
      case round =>
        clear I2 X K
        obtain ⟨i, hi, rfl, I, X, K⟩ := hrel
        by_cases hlt : i < n0
        · have hili : (i : Int) < n0 := by omega
          have hic : i ≤ c2 := by omega
          obtain ⟨b, off, rfl, hb, ci⟩ := I.at_ (k := i) (by rw [← HN0.out]; exact hlt)
          have HMEM : Hid (L.getD i 0 < ps.length) := Lib.hid (HLn.out _ (by rw [List.getD_eq_getElem?_getD, List.getElem?_eq_getElem (show i < L.length by have := HLl.out; omega)]; exact List.getElem_mem _))
          have HIN : Hid (zg l i ∉ l.take i) := Lib.hid (by
            have hil : i < L.length := by have := HLl.out; omega
            rw [HZG.out i hlt, HLL.out]
            unfold natZ
            rw [← List.map_take, List.getD_eq_getElem?_getD, List.getElem?_eq_getElem hil]
            intro hm
            obtain ⟨y, hy, e⟩ := List.mem_map.1 hm
            have e2 : y = L[i] := by have : (y : Int) = (L[i] : Nat) := e; omega
            subst e2
            obtain ⟨j, hj, e3⟩ := List.getElem_of_mem hy
            rw [List.length_take] at hj
            rw [List.getElem_take] at e3
            have := (List.getElem_inj HLd.out).1 e3
            omega)
          rw [HZG.out i hlt] at ci HIN
          generalize L.getD i 0 = U at ci HMEM HIN
          have hU := HMEM.out
          have hx0 : ¬ ((U : Int) < 0) := by omega
          have hx0d : decide ((U : Int) < 0) = false := decide_eq_false hx0
          have hx1 : ¬ ((U : Int) ≥ (ps.length : Int)) := by omega
          have hx1d : decide ((ps.length : Int) ≤ (U : Int)) = false := decide_eq_false (by omega)
          have hx1n : ¬ (ps.length ≤ U) := by omega
          have hx1nd : decide (ps.length ≤ U) = false := decide_eq_false hx1n
          have hx1m : (U : Int) < (ps.length : Int) := by omega
          have hx1k : ¬ ((ps.length : Int) ≤ (U : Int)) := by omega
          have htk : (l.take i).length = i := by rw [List.length_take, ← HN0.out]; omega
          have HTK := Lib.hid htk
          obtain ⟨x0, x1, -, -⟩ := X.cells
          have T : FmS w1.heap.size (.slice (some ad) ps.length ca) b (off + i) (U : Int) wr.drew := ⟨x0, ci⟩
          have kdw : Below wr.heap.size wr wr.drew := (Below.refl _ wr).drew
          have Id := I.below kdw
          have HTI := Lib.hid (isInts_take i Id)
          have Xd := X.below kdw
          have Kd := K.drew
          clear htk kdw hU x0 x1 ci
          go_wp2_with fail
          go_region_held3 (fun w' => FmS w1.heap.size (.slice (some ad) ps.length ca) b (off + i) (U : Int) w')
            (first | exact T | assumption)
            ((go_at_call 28; refine (in_no (some ⟨b, off, none⟩) c2 i (l.take i) (U : Int) _ HTK.out (by omega) HTI.out HIN.out).mono ?_; rintro e w' ⟨rfl, rfl⟩))
          clear T I X K HTI HIN HTK hx0 hx0d hx1d hx1n hx1nd hx1m
          go_wp2
          go_roundw
          case rel => exact ⟨i + 1, by omega, by go_num, Id, Xd, Kd⟩
          case measure => simp [intOf]; omega
        · obtain rfl : i = n0 := by omega
          have hle : ((i : Int) == 0) = false := by rw [beq_eq_false_iff_ne]; omega
          obtain ⟨b, off, rfl, hb, c0⟩ := I.at_ (k := 0) (by rw [← HN0.out]; exact h0)
          rw [HZ0.out, Nat.add_zero] at c0
          obtain ⟨x0, x1, -, -⟩ := X.cells
          have hend := HEND.out
          cases he1 : ((i : Int) == z) with
          | true =>
            clear hend X I
            go_wp2
            go_ret
            exact ⟨rfl, K⟩
          | false =>
            have he2 : ((i : Int) == (ps.length : Int)) = true := by rw [he1] at hend; simpa using hend
            clear hend X I
            go_wp2
            go_ret
            exact ⟨rfl, K⟩

/-! ### THE ROW's STEP: WRITTEN OUT: LEAVE IT -/
set_option maxRecDepth 100000 in
theorem lifted (os : Os) (started : os.Started) (H : Type) (enc : TypeId × Value → H) :
    ReturnsInHanded {} Try.checked os 10 .any (Rows.fnFarMarksSpec.pre6 enc Try.prog Try.f10 Rows.fnFarMarksRow.domain false) (Rows.fnFarMarksSpec.post enc Try.prog Try.f10 false true false false) := by
  refine returnsInHanded_of_change (C := Try.checked) own started (by kernel_rfl) Try.func10
    (ChangeSpec.witness6 (enc := enc) (C := Try.checked) false ⟨#[], #[.slice none 0 0], []⟩ 8 (by kernel_rfl) (by kernel_rfl) (by kernel_rfl) (by kernel_rfl)) ?_
  intro W base args ds gs before hval0 hW hcnd _
  have hval : ∀ (j : Nat) t v, Try.f10.params[j]? = some t → args[j]? = some v → Value.okWide Try.prog W .any base t v := hval0
  have hW' := hW
  obtain ⟨p, q, hA0, hV, rfl, hfz, hnd⟩ := hW
  have hA : DataW.TrodAll enc Try.prog W 0 (fun _ => true) true Try.f10.params.toList args.toList ds p := hA0
  rw [Try.params10] at hA hval
  obtain ⟨v0, vs0, d0, ds0, p0, q0, hargs, rfl, rfl, h0, r0⟩ := trodAll_cons hA
  obtain ⟨rfl, rfl, rfl⟩ := trodAll_nil r0
  obtain rfl : args = #[v0] := by cases args; simp_all
  obtain ⟨rfl, rfl⟩ := trodVars_none hV
  obtain ⟨a0, len0, cap0, rfl⟩ := okWide_slice Try.underlying43 (hval 0 43 v0 rfl rfl)
  have k0 := h0
  have lt0 : ∀ x ∈ p0, x.block < W.heap.size := by obtain ⟨m, hm⟩ := k0; exact DataW.trod_lt m _ _ _ hm
  obtain ⟨z0, w0⟩ : ∃ zs, IsRow .u8 W a0 len0 cap0 zs := by
    obtain ⟨fuel, hf⟩ := h0
    rcases open_ints Try.underlying43 Try.underlying5 (by kernel_rfl) hf with ⟨hcs, _⟩ | ⟨x, l, c, zs, hcs, _, hl, hm, hz, _, hcell, hwz⟩
    · simp [Value.cells] at hcs
      obtain ⟨rfl, rfl, rfl⟩ := hcs
      exact ⟨[], .inl ⟨rfl, rfl, rfl, rfl⟩⟩
    · simp [Value.cells] at hcs
      obtain ⟨rfl, rfl, rfl⟩ := hcs
      exact ⟨zs, .inr ⟨_, rfl, hl, hm, by simpa using hz, hcell, hwz⟩⟩
  clear hA0 hval0
  refine (walk a0 len0 cap0 z0 W w0).mono fun e W' ⟨he, bel⟩ => ?_
  subst he
  exact ⟨_, rfl, _, _, _, [], _, [], hW', trodAll_mk1 (shut_bool Try.underlying4 _), (trodAll_cons_mk (Below.trod laidOut (by kernel_rfl) (of_decide_eq_true (by kernel_rfl)) k0 bel lt0) trodAll_mk0), rfl, bel.frame _, fun h => by cases h⟩

theorem over : Rows.fnFarMarksRow.holds Try.pinned (OpenSpec.ofChange Rows.fnFarMarksSpec) :=
  OpenClaim.holds_of_wide 10 Try.f10 rfl rfl rfl rfl rfl rfl rfl ⟨rfl, rfl, rfl, rfl, rfl⟩ rfl rfl rfl rfl rfl (by kernel_rfl) Try.func10 (by kernel_rfl)
    (of_decide_eq_true (by kernel_rfl)) (by unfold Func.isWrapper; first | (rw [if_pos (by decide +kernel)]; kernel_rfl) | (rw [if_neg (by decide +kernel)]; exact ⟨rfl, rfl⟩))
    (fun os started H enc _ => lifted os started H enc)

/-- ████ THE STATEMENT ████ -/
theorem proved : Rows.FnFarMarksSaid := over
#print axioms proved
end Go.Proofs.Ytbmfjfglkjhlnaa.fnFarMarks
