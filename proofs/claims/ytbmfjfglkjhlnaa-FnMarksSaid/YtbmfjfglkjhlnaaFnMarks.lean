/-
  For every slice of bytes the law FnMarks returns true: the potential that landmarks make in the network drawn from it is the specification's; in a strongly connected network it is valid, 0 at the goal and at most the distance to it (no condition).
-/
import Derived.Test.YtbmfjfglkjhlnaaRows
import Derived.WalkKit
import Derived.ProofKit
import Derived.OpenShut
import Derived.ShutString
import Derived.ChangeOld
import Derived.Below
import Derived.Test.YtbmfjfglkjhlnaaDistLaw
import Derived.Test.YtbmfjfglkjhlnaaPartsIm
import Derived.Test.YtbmfjfglkjhlnaaPots
import Derived.Test.YtbmfjfglkjhlnaaDrawMarkPot
namespace Go.Proofs.Ytbmfjfglkjhlnaa.fnMarks
open Go.ChangeShapes Go.WideShapes Go.ChangeAt Go.RowKit
open Go.ChangeMaps (open_string shut_string)
set_option linter.unusedVariables false

theorem own : ownKnob Try.prog.godebug = none := by kernel_rfl
theorem laidOut : laidOutB Try.prog = true := by kernel_rfl

/-- WHAT THE WALK IS TOLD OF A SLICE OF INTEGERS THAT CAME IN: it is nil; or it leads to a row of 'cap' cells, the numbers 'zs' (the first 'len' are its elements, the rest its spare room), each fitting its kind. -/
def IsRow (k : IntKind) (w : World) (a : Option Addr) (len cap : Nat) (zs : List Int) : Prop :=
  (a = none ∧ len = 0 ∧ cap = 0 ∧ zs = []) ∨
  ∃ x, a = some x ∧ len ≤ cap ∧ cap ≤ maxLen ∧ zs.length = cap ∧ (∀ i, i < zs.length → w.cell? (x.add i) = some (.int k (zs.getD i 0))) ∧ ∀ n ∈ zs, (Lit.int k n).wf = true

/-- In a strongly connected network: what landmarks make. -/
structure Strong (n : Nat) (rs ts : List A3) : Prop where
  hn : n ≤ 20
  hr : ArcsIn n rs
  ht : ArcsIn n ts
  back : ∀ {s v : Nat}, s < n → v < n → zg (dst n ts v) s = zg (dst n rs s) v
  all : ∀ u v, u < n → v < n → zg (dst n rs u) v ≠ -1
section
variable {n : Nat} {rs ts : List A3} (S : Strong n rs ts)
include S
theorem Strong.tri {a b c : Nat} (ha : a < n) (hb : b < n) (hc : c < n) : zg (dst n rs a) c ≤ zg (dst n rs a) b + zg (dst n rs b) c := by
  have w1 := dst_walk S.hn ha S.hr hb (S.all a b ha hb)
  have w2 := dst_walk S.hn hb S.hr hc (S.all b c hb hc)
  exact (walk_le S.hn ha S.hr (w1.trans w2)).2.2.2
theorem Strong.bd {a b : Nat} (ha : a < n) (hb : b < n) : 0 ≤ zg (dst n rs a) b ∧ zg (dst n rs a) b ≤ 200000 := by
  rcases dst_val S.hn ha S.hr hb with h | h
  · exact absurd h (S.all a b ha hb)
  · exact h
theorem Strong.arc {a : A3} (ha : a ∈ rs) : zg (dst n rs a.1.toNat) a.2.1.toNat ≤ a.2.2 := by
  obtain ⟨⟨f0, f1⟩, ⟨t0, t1⟩, -⟩ := S.hr a ha
  have w : Walk rs (a.1.toNat : Nat) ((a.1.toNat : Nat) : Int) 0 := Walk.here
  have e : ((a.1.toNat : Nat) : Int) = a.1 := Int.toNat_of_nonneg f0
  rw [e] at w
  have w2 := Walk.on (a := a) w ha
  rw [Int.zero_add] at w2
  have h := (walk_le S.hn (show a.1.toNat < n by omega) S.hr (by rw [e]; exact w2)).2.2.2
  exact h
theorem Strong.ld1 {v m t : Nat} (hv : v < n) (hm : m < n) (ht : t < n) : ld (zg (dst n ts m) v) (zg (dst n ts m) t) = zg (dst n rs v) m - zg (dst n rs t) m := by
  rw [S.back hv hm, S.back ht hm]; exact ld_yes (S.all v m hv hm) (S.all t m ht hm)
theorem Strong.ld2 {v m t : Nat} (hv : v < n) (hm : m < n) (ht : t < n) : ld (zg (dst n rs m) t) (zg (dst n rs m) v) = zg (dst n rs m) t - zg (dst n rs m) v := ld_yes (S.all m t hm ht) (S.all m v hm hv)
theorem Strong.mkz {t : Nat} (ht : t < n) (zs : List Int) (hz : ∀ i, i < zs.length → btB (zg zs i) 0 ((n : Int) - 1) = true) : ∀ i, i ≤ zs.length →
    (∀ v, v < n → mkZ n rs ts t zs i v ≤ zg (dst n rs v) t) ∧ mkZ n rs ts t zs i t = 0 ∧ ∀ a ∈ rs, mkZ n rs ts t zs i a.1.toNat ≤ a.2.2 + mkZ n rs ts t zs i a.2.1.toNat
  | 0, _ => by
    refine ⟨fun v hv => ?_, rfl, fun a ha => ?_⟩
    · have := (S.bd hv ht).1; show (0 : Int) ≤ _; exact this
    · obtain ⟨-, -, -, l0, -⟩ := S.hr a ha
      show (0 : Int) ≤ a.2.2 + 0; omega
  | i + 1, hi => by
    obtain ⟨h1, h2, h3⟩ := Strong.mkz ht zs hz i (by omega)
    have hb := btB_iff.1 (hz i (by omega))
    have hm : (zg zs i).toNat < n := by omega
    have e : ∀ v, mkZ n rs ts t zs (i + 1) v = max (max (mkZ n rs ts t zs i v) (ld (zg (dst n ts (zg zs i).toNat) v) (zg (dst n ts (zg zs i).toNat) t))) (ld (zg (dst n rs (zg zs i).toNat) t) (zg (dst n rs (zg zs i).toNat) v)) := fun v => rfl
    generalize (zg zs i).toNat = m at hm e
    refine ⟨fun v hv => ?_, ?_, fun a ha => ?_⟩
    · rw [e, S.ld1 hv hm ht, S.ld2 hv hm ht]
      have q1 := S.tri hv ht hm
      have q2 := S.tri hm hv ht
      have q3 := h1 v hv
      omega
    · rw [e, S.ld1 ht hm ht, S.ld2 ht hm ht, h2]; omega
    · obtain ⟨⟨f0, f1⟩, ⟨t0, t1⟩, -⟩ := S.hr a ha
      have hF : a.1.toNat < n := by omega
      have hT : a.2.1.toNat < n := by omega
      rw [e, e, S.ld1 hF hm ht, S.ld2 hF hm ht, S.ld1 hT hm ht, S.ld2 hT hm ht]
      have q1 := S.tri hF hT hm
      have q2 := S.tri hm hF hT
      have q3 := S.arc ha
      have q4 := h3 a ha
      omega
end
theorem strong_of {ps : List (Int × Int)} {rs : List A3} (h1 : netB ps rs = true) (h : ∀ i, i < ps.length → prt ps.length rs i = 0) (h0 : 0 < ps.length) : Strong ps.length rs (turnL rs) := by
  obtain ⟨h20, -, -, -⟩ := netB_iff.1 h1
  obtain ⟨q1, q2, q3⟩ := turn_arcs h1
  have hr := arcsIn_net h1
  refine ⟨h20, hr, q1, fun hs hv => dst_back h20 hr q1 q2 q3 hs hv, fun u v hu hv => ?_⟩
  have := (prt_same h20 hr hu hv).1 (by rw [h u hu, h v hv])
  exact (of_decide_eq_true this).1
theorem mark_law {ps : List (Int × Int)} {rs : List A3} {t : Int} {zs : List Int} (h : 0 < (markP ps rs t zs).length) : netB ps rs = true ∧ ∃ T : Nat, t = T ∧ T < ps.length ∧ (markP ps rs t zs).length = ps.length ∧
    ((∀ i, i < ps.length → prt ps.length rs i = 0) → (∀ v, v < ps.length → zg (markP ps rs t zs) v ≤ zg (dst ps.length (turnL rs) T) v) ∧ zg (markP ps rs t zs) T = 0 ∧ potB ps rs (markP ps rs t zs) = true) := by
  by_cases hno : netB ps rs = false ∨ btB t 0 ((ps.length : Int) - 1) = false ∨ 8 < zs.length ∨ marksIn ps.length zs = false
  · rw [markP_no hno] at h; simp at h
  · have hb' : ∀ b : Bool, ¬ b = false → b = true := fun b hb => by cases b <;> simp_all
    have h1 := hb' _ (fun e => hno (.inl e))
    have h2 := hb' _ (fun e => hno (.inr (.inl e)))
    have h3 : ¬ 8 < zs.length := fun e => hno (.inr (.inr (.inl e)))
    have h4 := hb' _ (fun e => hno (.inr (.inr (.inr e))))
    obtain ⟨T, rfl, hT⟩ := node_is h2
    have e := markP_yes (t := T) h1 hT (by omega) h4
    rw [e, rowZ_len]
    refine ⟨h1, T, rfl, hT, rfl, fun hp => ?_⟩
    have S := strong_of h1 hp (by omega)
    have hz : ∀ i, i < zs.length → btB (zg zs i) 0 ((ps.length : Int) - 1) = true := of_decide_eq_true h4
    obtain ⟨m1, m2, m3⟩ := S.mkz hT zs hz zs.length (Nat.le_refl _)
    refine ⟨fun v hv => ?_, ?_, ?_⟩
    · rw [rowZ_get hv, S.back hv hT]; exact m1 v hv
    · rw [rowZ_get hT]; exact m2
    · rw [potB_iff]
      refine ⟨h1, rowZ_len _ _, potIn_iff.2 fun i hi => ?_, redIn_iff.2 fun q hq => ?_⟩
      · rw [rowZ_len] at hi
        rw [rowZ_get hi]
        have q1 := m1 i hi
        have q2 := S.bd hi hT
        have q3 := mkZ_pos ps.length rs (turnL rs) T zs zs.length i
        exact btB_true q3 (by omega)
      · unfold red
        obtain ⟨⟨f0, f1⟩, ⟨t0, t1⟩, -⟩ := S.hr _ (arg_mem hq)
        rw [rowZ_get (show (arg rs q).2.1.toNat < ps.length by omega), rowZ_get (show (arg rs q).1.toNat < ps.length by omega)]
        have := m3 _ (arg_mem hq)
        omega

/-! ### STEP 1: THE WALK: the Go text returns true, AND WRITES NOTHING THAT WAS THERE: 'Below w.heap.size w w'' (Derived/Below.lean: '.refl', '.alloc', '.drew', '.setCell' at a new block, '.trans'). Open each 'IsRow' by 'rcases' AHEAD of 'go_enter'; part every test ahead of the walk. -/
set_option maxHeartbeats 4000000 in
set_option maxRecDepth 100000 in
theorem walk (a0 : Option Addr) (len0 cap0 : Nat) (z0 : List Int) (w : World) (w0 : IsRow .u8 w a0 len0 cap0 z0) :
    Calls Try.prog 9 #[.slice a0 len0 cap0] w fun e w' => e = .returned (.bool true) ∧ Below w.heap.size w w' := by
  have hcode := codeIn_of w0
  clear w0
  by_cases hbig : 1048576 < len0
  · have hd : decide ((1048576 : Int) < len0) = true := by simp; omega
    go_enter Try.func9, Try.ntmps9
    go_wp2_with (go_at_call 24; refine (big_any _ _ _ _).mono ?_; rintro e w' ⟨rfl, rfl⟩)
    go_ret
    exact ⟨rfl, Below.refl _ _⟩
  · have hd : decide ((1048576 : Int) < len0) = false := by simp; omega
    go_enter Try.func9, Try.ntmps9
    go_wp2_with fail
    refine (big_any _ _ _ _).mono ?_; rintro e w' ⟨rfl, rfl⟩
    go_wp2_with fail
    refine (drawMarkPot_any w a0 len0 cap0 hcode (by omega)).mono ?_
    rintro e w1 ⟨ad, B, C, ca, cb, cc, ps, rs, t, zs, rfl, h2, h21, h100, hz100, IP, IA, IZ, b1⟩
    have X := Pair.new w1 34 (.slice (some ad) ps.length ca) (.slice B rs.length cb)
    have k1 := below1 w1 (.cells #[.slice (some ad) ps.length ca, .slice B rs.length cb] 34)
    replace IP := IP.below k1
    replace IA := IA.below k1
    replace IZ := IZ.below k1
    have K := b1.trans (k1.mono b1.size)
    clear k1 b1
    obtain ⟨l, hl⟩ : ∃ l, l = markP ps rs t zs := ⟨_, rfl⟩
    have hll : l.length ≤ 1048576 := by rw [hl]; exact markP_len ps rs t zs (by omega)
    have HSP : Hid (∀ (w : World), IsPts w (some ad) ps → IsArcs w B rs → IsInts w C zs → Calls Try.prog 35 #[.agg #[.slice (some ad) ps.length ca, .slice B rs.length cb], .int .i64 t, .slice C zs.length cc] w (IntsMade w l)) := Lib.hid (fun w g1 g2 g3 => by rw [hl]; exact specMark_any ad B C ca cb cc ps rs t zs w (by omega) (by omega) (by omega) g1 g2 g3)
    have HIM : Hid (∀ (w : World), IsPts w (some ad) ps → IsArcs w B rs → IsInts w C zs → Calls Try.prog 36 #[.agg #[.slice (some ad) ps.length ca, .slice B rs.length cb], .int .i64 t, .slice C zs.length cc] w (IntsMade w l)) := Lib.hid (fun w g1 g2 g3 => by rw [hl]; exact implMark_any ad B C ca cb cc ps rs t zs w (by omega) (by omega) (by omega) g1 g2 g3)
    have HML := Lib.hid (fun (h : 0 < l.length) => (by rw [hl] at h ⊢; exact mark_law h : netB ps rs = true ∧ ∃ T : Nat, t = T ∧ T < ps.length ∧ l.length = ps.length ∧ ((∀ i, i < ps.length → prt ps.length rs i = 0) → (∀ v, v < ps.length → zg l v ≤ zg (dst ps.length (turnL rs) T) v) ∧ zg l T = 0 ∧ potB ps rs l = true)))
    clear hl
    obtain ⟨x0, x1, -, -⟩ := X.cells
    go_wp2_with fail
    clear x0 x1
    refine (HIM.out _ IP IA IZ).mono ?_; rintro e w2 ⟨A2, c2, rfl, hc2, O2, b2⟩
    have I2 := OwnSl.ints O2
    replace X := X.below b2
    replace IP := IP.below b2
    replace IA := IA.below b2
    replace IZ := IZ.below b2
    replace K := K.trans (b2.mono K.size)
    clear b2 O2 HIM
    obtain ⟨x0, x1, -, -⟩ := X.cells
    go_wp2_with fail
    clear x0 x1
    refine (HSP.out _ IP IA IZ).mono ?_; rintro e w3 ⟨A3', c3, rfl, -, O3, b3⟩
    have I3 := OwnSl.ints O3
    replace I2 := I2.below b3
    replace X := X.below b3
    replace IP := IP.below b3
    replace IA := IA.below b3
    replace K := K.trans (b3.mono K.size)
    clear b3 O3 HSP IZ
    go_wp2_with fail
    refine (same_bel A2 A3' c2 c3 l.length l _ hll rfl I2 I3).mono ?_; rintro e w4 ⟨rfl, b4⟩
    replace I2 := I2.below b4
    replace X := X.below b4
    replace IP := IP.below b4
    replace IA := IA.below b4
    replace K := K.trans (b4.mono K.size)
    clear b4 I3
    obtain ⟨n0, hn0⟩ : ∃ n0, n0 = l.length := ⟨_, rfl⟩
    have HN0 := Lib.hid hn0
    have hnl : n0 ≤ 1048576 := by omega
    rw [← hn0] at hc2 ⊢
    clear hn0 hll
    rcases Nat.eq_zero_or_pos n0 with h0 | h0
    · have hle : ((n0 : Int) == 0) = true := by rw [beq_iff_eq]; omega
      clear h0 X I2 HML hc2 IP IA
      go_wp2
      go_ret
      exact ⟨rfl, K⟩
    · obtain ⟨h1, T, rfl, hT, hln, hfin⟩ := HML.out (by rw [← HN0.out]; exact h0)
      have HN := Lib.hid h1
      have hlen0 : n0 = ps.length := by rw [HN0.out, hln]
      subst hlen0
      have HFIN := Lib.hid hfin
      have hle : ((ps.length : Int) == 0) = false := by rw [beq_eq_false_iff_ne]; omega
      have HPR := Lib.hid (prts_yes h1)
      have HPL : Hid ((prts ps rs).length = ps.length) := Lib.hid (by rw [HPR.out, prtL_len])
      clear h1 hln hfin HML
      obtain ⟨x0, x1, -, -⟩ := X.cells
      go_wp2_with fail
      clear x0 x1 hle
      refine (implParts_any ad B ca cb ps rs _ (by omega) (by omega) IP IA).mono ?_; rintro e w5 ⟨A5, c5, rfl, hc5, O5, b5⟩
      have I5 := OwnSl.ints O5
      replace I2 := I2.below b5
      replace X := X.below b5
      replace IP := IP.below b5
      replace IA := IA.below b5
      replace K := K.trans (b5.mono K.size)
      rw [HPL.out] at hc5 ⊢
      clear b5 O5
      go_wp2
      go_loopw [8] (fun vi wr => ∃ i : Nat, i ≤ ps.length ∧ vi = .int .i64 i ∧ Hid (∀ j, j < i → prt ps.length rs j = 0) ∧ wr = w5) (fun i _ => ps.length - (intOf i).toNat)
      case atStart => exact ⟨0, by omega, rfl, Lib.hid (fun j hj => by omega), rfl⟩
      case round =>
        obtain ⟨i, hi, rfl, HJ, rfl⟩ := hrel
        by_cases hlt : i < ps.length
        · have hili : (i : Int) < ps.length := by omega
          obtain ⟨b, off, rfl, hb, ci⟩ := I5.at_ (k := i) (by rw [HPL.out]; exact hlt)
          have ez : zg (prts ps rs) i = (prt ps.length rs i : Int) := by rw [HPR.out]; unfold prtL zg; rw [List.getD_eq_getElem?_getD]; simp [hlt]
          rw [ez] at ci
          by_cases hp : prt ps.length rs i = 0
          · have hpb : ((prt ps.length rs i : Int) != 0) = false := by rw [hp]; rfl
            have HJ2 : Hid (∀ j, j < i + 1 → prt ps.length rs j = 0) := Lib.hid (fun j hj => by
              by_cases e : j = i
              · rw [e]; exact hp
              · exact HJ.out j (by omega))
            generalize prt ps.length rs i = pp at ci hpb
            clear hp ez
            go_wp2
            go_roundw
            case rel => exact ⟨i + 1, by omega, by go_num, HJ2, by first | rfl | trivial⟩
            case measure => simp [intOf]; omega
          · have hpb : ((prt ps.length rs i : Int) != 0) = true := by simpa using hp
            generalize prt ps.length rs i = pp at ci hpb
            clear hp ez
            go_wp2
            go_ret
            exact ⟨rfl, K⟩
        · obtain rfl : i = ps.length := by omega
          obtain ⟨f1, f2, f3⟩ := HFIN.out HJ.out
          have HF1 := Lib.hid f1
          have HF2 := Lib.hid f2
          have HF3 := Lib.hid f3
          have HDT := Lib.hid (dT_yes HN.out hT)
          have HDL := Lib.hid (dst_len ps.length (turnL rs) T)
          clear f1 f2 f3 I5
          obtain ⟨x0, x1, -, -⟩ := X.cells
          go_wp2_with fail
          clear x0 x1
          refine (implDistTo_any ad B ca cb ps rs (T : Int) _ (by omega) (by omega) IP IA).mono ?_; rintro e w6 ⟨A6, c6, rfl, hc6, O6, b6⟩
          rw [HDT.out] at hc6 O6 ⊢
          have I6 := OwnSl.ints O6
          rw [HDL.out] at hc6 ⊢
          replace I2 := I2.below b6
          replace X := X.below b6
          replace IP := IP.below b6
          replace IA := IA.below b6
          replace K := K.trans (b6.mono K.size)
          clear b6 O6
          go_wp2
          go_loopw [10] (fun vi wr => ∃ (i m : Nat), i ≤ ps.length ∧ vi = .int .i64 i ∧ wr = w6.drewN m) (fun i _ => ps.length - (intOf i).toNat)
          case atStart => exact ⟨0, 0, by omega, rfl, rfl⟩
          case round =>
            obtain ⟨i, m, hi, rfl, rfl⟩ := hrel
            by_cases hlt : i < ps.length
            · have hili : (i : Int) < ps.length := by omega
              obtain ⟨b, off, rfl, hb, ci⟩ := I2.at_ (k := i) (by rw [← HN0.out]; exact hlt)
              obtain ⟨b', off', rfl, hb', di⟩ := I6.at_ (k := i) (by rw [HDL.out]; exact hlt)
              have hle := HF1.out i hlt
              generalize zg l i = x at ci hle
              generalize zg (dst ps.length (turnL rs) T) i = y at di hle
              have hgt : ¬ x > y := by omega
              have hgtd : decide (y < x) = false := decide_eq_false (by omega)
              go_wp2_with fail
              go_quiet (fail)
              go_wp2
              go_roundw
              case rel => exact ⟨i + 1, m + nq, by omega, by go_num, by first | rfl | exact World.drewN_add _ _ _ | simp⟩
              case measure => simp [intOf]; omega
            · obtain rfl : i = ps.length := by omega
              have kd := below_drewN (Below.refl w6.heap.size w6) m
              have IPd := IP.below kd
              have IAd := IA.below kd
              have I2d := I2.below kd
              have Kd := K.trans (kd.mono K.size)
              obtain ⟨x0, x1, -, -⟩ := (X.below kd).cells
              have HPO := Lib.hid (fun (V : World) g1 g2 g3 => implPotOk_any (some ad) B A2 ca cb c2 ps rs l V (by omega) (by omega) (by rw [← HN0.out]; omega) g1 g2 g3)
              rw [HF3.out, ← HN0.out] at HPO
              go_wp2_with fail
              refine (HPO.out _ IPd IAd I2d).mono ?_; rintro e w7 ⟨rfl, b7⟩
              have I7 := I2d.below b7
              have K7 := Kd.trans (b7.mono Kd.size)
              obtain ⟨b, off, rfl, hb, ct⟩ := I7.at_ (k := T) (by rw [← HN0.out]; exact hT)
              rw [HF2.out] at ct
              have hTi : (T : Int) < ps.length := by omega
              clear x0 x1 IPd IAd I2d Kd b7
              go_wp2
              go_ret
              exact ⟨rfl, K7⟩

/-! ### THE ROW's STEP: WRITTEN OUT: LEAVE IT -/
set_option maxRecDepth 100000 in
theorem lifted (os : Os) (started : os.Started) (H : Type) (enc : TypeId × Value → H) :
    ReturnsInHanded {} Try.checked os 9 .any (Rows.fnMarksSpec.pre6 enc Try.prog Try.f9 Rows.fnMarksRow.domain false) (Rows.fnMarksSpec.post enc Try.prog Try.f9 false true false false) := by
  refine returnsInHanded_of_change (C := Try.checked) own started (by kernel_rfl) Try.func9
    (ChangeSpec.witness6 (enc := enc) (C := Try.checked) false ⟨#[], #[.slice none 0 0], []⟩ 8 (by kernel_rfl) (by kernel_rfl) (by kernel_rfl) (by kernel_rfl)) ?_
  intro W base args ds gs before hval0 hW hcnd _
  have hval : ∀ (j : Nat) t v, Try.f9.params[j]? = some t → args[j]? = some v → Value.okWide Try.prog W .any base t v := hval0
  have hW' := hW
  obtain ⟨p, q, hA0, hV, rfl, hfz, hnd⟩ := hW
  have hA : DataW.TrodAll enc Try.prog W 0 (fun _ => true) true Try.f9.params.toList args.toList ds p := hA0
  rw [Try.params9] at hA hval
  obtain ⟨v0, vs0, d0, ds0, p0, q0, hargs, rfl, rfl, h0, r0⟩ := trodAll_cons hA
  obtain ⟨rfl, rfl, rfl⟩ := trodAll_nil r0
  obtain rfl : args = #[v0] := by cases args; simp_all
  obtain ⟨rfl, rfl⟩ := trodVars_none hV
  obtain ⟨a0, len0, cap0, rfl⟩ := okWide_slice Try.underlying43 (hval 0 43 v0 rfl rfl)
  have k0 := h0
  have lt0 : ∀ x ∈ p0, x.block < W.heap.size := by obtain ⟨m, hm⟩ := k0; exact DataW.trod_lt m _ _ _ hm
  obtain ⟨z0, w0⟩ : ∃ zs, IsRow .u8 W a0 len0 cap0 zs := by
    obtain ⟨fuel, hf⟩ := h0
    rcases open_ints Try.underlying43 Try.underlying5 (by kernel_rfl) hf with ⟨hcs, _⟩ | ⟨x, l, c, zs, hcs, _, hl, hm, hz, _, hcell, hwz⟩
    · simp [Value.cells] at hcs
      obtain ⟨rfl, rfl, rfl⟩ := hcs
      exact ⟨[], .inl ⟨rfl, rfl, rfl, rfl⟩⟩
    · simp [Value.cells] at hcs
      obtain ⟨rfl, rfl, rfl⟩ := hcs
      exact ⟨zs, .inr ⟨_, rfl, hl, hm, by simpa using hz, hcell, hwz⟩⟩
  clear hA0 hval0
  refine (walk a0 len0 cap0 z0 W w0).mono fun e W' ⟨he, bel⟩ => ?_
  subst he
  exact ⟨_, rfl, _, _, _, [], _, [], hW', trodAll_mk1 (shut_bool Try.underlying4 _), (trodAll_cons_mk (Below.trod laidOut (by kernel_rfl) (of_decide_eq_true (by kernel_rfl)) k0 bel lt0) trodAll_mk0), rfl, bel.frame _, fun h => by cases h⟩

theorem over : Rows.fnMarksRow.holds Try.pinned (OpenSpec.ofChange Rows.fnMarksSpec) :=
  OpenClaim.holds_of_wide 9 Try.f9 rfl rfl rfl rfl rfl rfl rfl ⟨rfl, rfl, rfl, rfl, rfl⟩ rfl rfl rfl rfl rfl (by kernel_rfl) Try.func9 (by kernel_rfl)
    (of_decide_eq_true (by kernel_rfl)) (by unfold Func.isWrapper; first | (rw [if_pos (by decide +kernel)]; kernel_rfl) | (rw [if_neg (by decide +kernel)]; exact ⟨rfl, rfl⟩))
    (fun os started H enc _ => lifted os started H enc)

/-- ████ THE STATEMENT ████ -/
theorem proved : Rows.FnMarksSaid := over
#print axioms proved
end Go.Proofs.Ytbmfjfglkjhlnaa.fnMarks
