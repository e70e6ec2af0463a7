/-
  For every slice of bytes the law FnQueues returns true: of the queue and the item drawn from it the program's QueuePut is the specification's; the queue is right, the item is found there, and what QueuePop takes is the least (no condition).
-/
import Derived.Test.YtdobiapnkdgjoaaRows
import Derived.WalkKit
import Derived.ProofKit
import Derived.OpenShut
import Derived.ShutString
import Derived.ChangeOld
import Derived.Below
import Derived.Test.YtdobiapnkdgjoaaPutIm
import Derived.Test.YtdobiapnkdgjoaaDrawQPut
namespace Go.Proofs.Ytdobiapnkdgjoaa.fnQueues
open Go.ChangeShapes Go.WideShapes Go.ChangeAt Go.RowKit
open Go.ChangeMaps (open_string shut_string)
set_option linter.unusedVariables false

theorem own : ownKnob Try.prog.godebug = none := by kernel_rfl
theorem laidOut : laidOutB Try.prog = true := by kernel_rfl

/-- WHAT THE WALK IS TOLD OF A SLICE OF INTEGERS THAT CAME IN: it is nil; or it leads to a row of 'cap' cells, the numbers 'zs' (the first 'len' are its elements, the rest its spare room), each fitting its kind. -/
def IsRow (k : IntKind) (w : World) (a : Option Addr) (len cap : Nat) (zs : List Int) : Prop :=
  (a = none ∧ len = 0 ∧ cap = 0 ∧ zs = []) ∨
  ∃ x, a = some x ∧ len ≤ cap ∧ cap ≤ maxLen ∧ zs.length = cap ∧ (∀ i, i < zs.length → w.cell? (x.add i) = some (.int k (zs.getD i 0))) ∧ ∀ n ∈ zs, (Lit.int k n).wf = true

/-- Whether the item is found among the first k. -/
def foundB (r : List (Int × Int)) (x y : Int) (k : Nat) : Bool := (r.take k).any (fun p => decide (p.2 = y ∧ p.1 ≤ x))
theorem foundB_step {r : List (Int × Int)} {x y : Int} {k : Nat} (hk : k < r.length) : foundB r x y (k + 1) = (foundB r x y k || decide ((ptg r k).2 = y ∧ (ptg r k).1 ≤ x)) := by
  unfold foundB; rw [take_snocI r hk, List.any_append]; simp
theorem foundB_all {r : List (Int × Int)} {x y : Int} {i : Nat} (hi : i < r.length) (h1 : (ptg r i).2 = y) (h2 : (ptg r i).1 ≤ x) : foundB r x y r.length = true := by
  unfold foundB; rw [List.take_length, List.any_eq_true]; exact ⟨_, ptg_mem hi, decide_eq_true ⟨h1, h2⟩⟩
theorem own_itemsQ {w : World} {base : Nat} {A : Option Addr} {ps : List (Int × Int)} (h : OwnSl w base 45 A (ps.length * 2) (flatP ps)) : IsPts w A ps := fun hp => by
  obtain ⟨g, off, rfl, -, ho⟩ := h (by omega)
  exact ⟨g, off, rfl, ho.lt, fun i hi => ⟨by have := ho.cell (i := i * 2) (by omega); rw [flatP_0] at this; exact this, by have := ho.cell (i := i * 2 + 1) (by omega); rw [flatP_1] at this; exact this⟩⟩

/-! ### STEP 1: THE WALK: the Go text returns true, AND WRITES NOTHING THAT WAS THERE: 'Below w.heap.size w w'' (Derived/Below.lean: '.refl', '.alloc', '.drew', '.setCell' at a new block, '.trans'). Open each 'IsRow' by 'rcases' AHEAD of 'go_enter'; part every test ahead of the walk. -/
set_option maxHeartbeats 4000000 in
set_option maxRecDepth 100000 in
theorem walk (a0 : Option Addr) (len0 cap0 : Nat) (z0 : List Int) (w : World) (w0 : IsRow .u8 w a0 len0 cap0 z0) :
    Calls Try.prog 6 #[.slice a0 len0 cap0] w fun e w' => e = .returned (.bool true) ∧ Below w.heap.size w w' := by
  have hcode := codeIn_of w0
  clear w0
  by_cases hbig : 1048576 < len0
  · have hd : decide ((1048576 : Int) < len0) = true := by simp; omega
    go_enter Try.func6, Try.ntmps6
    go_wp2_with (go_at_call 13; refine (big_any _ _ _ _).mono ?_; rintro e w' ⟨rfl, rfl⟩)
    go_ret
    exact ⟨rfl, Below.refl _ _⟩
  · have hd : decide ((1048576 : Int) < len0) = false := by simp; omega
    go_enter Try.func6, Try.ntmps6
    go_wp2_with fail
    refine (big_any _ _ _ _).mono ?_; rintro e w' ⟨rfl, rfl⟩
    go_wp2_with fail
    refine (drawQueuePut_any w a0 len0 cap0 hcode (by omega)).mono ?_
    rintro e w1 ⟨V, q, x, y, rfl, hq8, h64, -, hy, own, K⟩
    obtain ⟨A, ca, rfl, -, -⟩ := ownI_is own
    have X := Pair.new w1 45 (.int .i64 x) (.int .i64 y)
    have k1 := below1 w1 (.cells #[.int .i64 x, .int .i64 y] 45)
    have IQ := (own_isPts own).below k1
    replace K := K.trans (k1.mono K.size)
    have HI : Hid (∀ i, i < q.length → In64 (idg q i)) := Lib.hid fun i hi => h64 _ (ptg_mem hi)
    have H6 := Lib.hid h64
    have HIM := Lib.hid (fun W h => implQueuePut_any A ca q x y W (by omega) h HI.out hy)
    have HSP := Lib.hid (fun W h => specQueuePut_any A ca q x y W (by omega) h)
    unfold PutRes at HIM HSP
    have HY := Lib.hid hy
    clear k1 own h64 hy
    obtain ⟨x0, x1, -, -⟩ := X.cells
    go_wp2_with fail
    clear x0 x1
    refine (HIM.out _ IQ).mono ?_; rintro e w2 ⟨A1, c1, rfl, hl1, O1, b2⟩
    replace X := X.below b2
    replace IQ := IQ.below b2
    replace K := K.trans (b2.mono K.size)
    obtain ⟨x0, x1, -, -⟩ := X.cells
    clear b2
    go_wp2_with fail
    clear x0 x1
    refine (HSP.out _ IQ).mono ?_; rintro e w3 ⟨A2, c2, rfl, -, O2, b3⟩
    replace X := X.below b3
    replace K := K.trans (b3.mono K.size)
    have I1 := (own_itemsQ O1).below b3
    have I2 := own_itemsQ O2
    clear b3 IQ O1 O2 HIM HSP
    cases hq : qB q with
    | false =>
      have e : putR q (x, y) = [] := by unfold putR; rw [hq]; simp
      rw [e]
      clear I1 I2 X hl1
      go_wp2
      go_ret
      exact ⟨rfl, K⟩
    | true =>
      have e : putR q (x, y) = putL q (x, y) := by unfold putR; rw [if_pos hq]
      have hok := putL_ok (x, y) (qB_iff.1 hq)
      have hpos : 0 < (putL q (x, y)).length := by obtain ⟨i, hi, -⟩ := putL_has (q := q) (x, y); omega
      have hlen := putL_len (q := q) (x := (x, y))
      have HF : Hid (foundB (putL q (x, y)) x y (putL q (x, y)).length = true) := Lib.hid (by obtain ⟨i, hi, h1, h2⟩ := putL_has (q := q) (x, y); exact foundB_all hi h1 h2)
      have HR : Hid (∀ i, i < (putL q (x, y)).length → In64 (idg (putL q (x, y)) i)) := Lib.hid fun i hi => by
        rcases putL_mem (ptg_mem hi) with g | g
        · exact H6.out _ g
        · show In64 (ptg _ i).2; rw [g]; exact HY.out
      rw [e] at I1 I2 hl1 ⊢
      generalize putL q (x, y) = r at hok hpos hlen HF HR I1 I2 hl1 ⊢
      have HOK := Lib.hid hok
      clear e hok hq H6 HI HY
      go_wp2_with fail
      go_loopw [9, 10] (fun f i wr => ∃ k : Nat, k ≤ r.length ∧ i = .int .i64 k ∧ f = .bool (foundB r x y k) ∧ Below w3.heap.size w3 wr) (fun _ i _ => r.length - (intOf i).toNat)
      case atStart => exact ⟨0, by omega, rfl, by simp [foundB], Below.refl _ _⟩
      case round =>
        obtain ⟨k, hk, rfl, rfl, KR⟩ := hrel
        by_cases hlt : k < r.length
        · obtain ⟨b1, o1, rfl, -, z1, z2⟩ := (I1.below KR).at_ (k := k) hlt
          obtain ⟨b2, o2, rfl, -, z3, z4⟩ := (I2.below KR).at_ (k := k) hlt
          obtain ⟨x0, x1, -, -⟩ := (X.below KR).cells
          have HST := Lib.hid (foundB_step (x := x) (y := y) hlt)
          have hki : (k : Int) < r.length := by omega
          generalize (ptg r k).1 = p1 at z1 z3 HST
          generalize (ptg r k).2 = p2 at z2 z4 HST
          cases hf : foundB r x y k with
          | true =>
            rw [hf] at HST
            have HS2 : Hid (foundB r x y (k + 1) = true) := Lib.hid (by rw [HST.out]; rfl)
            clear HST hf
            go_wp2_with fail
            go_quiet (fail)
            go_wp2_with fail
            go_quiet (fail)
            go_wp2
            go_roundw
            case rel => exact ⟨k + 1, by omega, by go_num, by rw [HS2.out], below_drewN KR _⟩
            case measure => simp [intOf]; omega
          | false =>
            rw [hf] at HST
            by_cases he : p2 = y
            · have he' : (p2 == y) = true := by simpa using he
              by_cases hle : p1 ≤ x
              · have HS2 : Hid (foundB r x y (k + 1) = true) := Lib.hid (by rw [HST.out]; simp [he, hle])
                have hle' : decide (p1 ≤ x) = true := decide_eq_true hle
                clear HST hf he
                go_wp2_with fail
                go_quiet (fail)
                go_wp2_with fail
                go_quiet (fail)
                go_wp2
                go_roundw
                case rel => exact ⟨k + 1, by omega, by go_num, by rw [HS2.out], below_drewN KR _⟩
                case measure => simp [intOf]; omega
              · have HS2 : Hid (foundB r x y (k + 1) = false) := Lib.hid (by rw [HST.out]; simp [hle])
                have hle' : decide (p1 ≤ x) = false := decide_eq_false hle
                clear HST hf he
                go_wp2_with fail
                go_quiet (fail)
                go_wp2_with fail
                go_quiet (fail)
                go_wp2
                go_roundw
                case rel => exact ⟨k + 1, by omega, by go_num, by rw [HS2.out], below_drewN KR _⟩
                case measure => simp [intOf]; omega
            · have he' : (p2 == y) = false := by simpa using he
              have HS2 : Hid (foundB r x y (k + 1) = false) := Lib.hid (by rw [HST.out]; simp [he])
              clear HST hf he
              go_wp2_with fail
              go_quiet (fail)
              go_wp2_with fail
              go_quiet (fail)
              go_wp2
              go_roundw
              case rel => exact ⟨k + 1, by omega, by go_num, by rw [HS2.out], below_drewN KR _⟩
              case measure => simp [intOf]; omega
        · obtain rfl : k = r.length := by omega
          rw [HF.out]
          replace K := K.trans (KR.mono K.size)
          have J1 := I1.below KR
          have HPO := Lib.hid (implQueuePop_any A1 c1 r _ (by omega) hl1 J1 HR.out)
          have HPB : Hid (popB r = true) := Lib.hid (by unfold popB; rw [qB_iff.2 HOK.out]; simp; omega)
          unfold PopMade at HPO
          have e1 : popH r = ptg r 0 := by unfold popH; rw [if_pos HPB.out]
          have e2 : popR r = r.drop 1 := by unfold popR; rw [if_pos HPB.out]
          rw [e1, e2, HPB.out] at HPO
          have HQF := Lib.hid (fun i (hi : i < (r.drop 1).length) => qOk_first HOK.out hi)
          have hrl : (r.drop 1).length + 1 = r.length := by rw [List.length_drop]; omega
          generalize r.drop 1 = rest at HPO HQF hrl
          have hrb : rest.length ≤ 9 := by omega
          have HRL := Lib.hid hrl
          clear hrl
          clear e1 e2 I1 I2 X KR
          go_wp2_with fail
          refine HPO.out.mono ?_; rintro e w5 ⟨A5, c5, rfl, -, O5, b5⟩
          clear HPO
          replace J1 := J1.below b5
          replace K := K.trans (b5.mono K.size)
          have Y := Pair.new w5 45 (.int .i64 (ptg r 0).1) (.int .i64 (ptg r 0).2)
          have k5 := below1 w5 (.cells #[.int .i64 (ptg r 0).1, .int .i64 (ptg r 0).2] 45)
          have I5 := (own_itemsQ O5).below k5
          replace J1 := J1.below k5
          replace K := K.trans (k5.mono K.size)
          clear b5 k5 O5
          have HQK := Lib.hid (fun W h => implQueueOk_any A1 c1 r W (by omega) h HR.out)
          rw [qB_iff.2 HOK.out] at HQK
          obtain ⟨W6, hW6⟩ : ∃ W6, W6 = w5.alloc (.cells #[.int .i64 (ptg r 0).1, .int .i64 (ptg r 0).2] 45) := ⟨_, rfl⟩
          rw [← hW6] at Y I5 J1 K
          have HW6 := Lib.hid hW6
          clear hW6
          go_wp2_with fail
          rw [← HW6.out]
          clear HW6
          go_loopw [14] (fun i wr => ∃ k : Nat, k ≤ rest.length ∧ i = .int .i64 k ∧ Below W6.heap.size W6 wr) (fun i _ => rest.length - (intOf i).toNat)
          case atStart => exact ⟨0, by omega, rfl, Below.refl _ _⟩
          case round =>
            obtain ⟨j, hj, rfl, KS⟩ := hrel
            by_cases hjl : j < rest.length
            · obtain ⟨b1, o1, rfl, -, z1, z2⟩ := (I5.below KS).at_ (k := j) hjl
              obtain ⟨x0, x1, -, -⟩ := (Y.below KS).cells
              obtain ⟨n1, n2⟩ := HQF.out j hjl
              have hji : (j : Int) < rest.length := by omega
              generalize (ptg rest j).1 = p1 at z1 n1
              generalize (ptg rest j).2 = p2 at z2 n2
              generalize (ptg r 0).1 = s1 at x0 n1
              generalize (ptg r 0).2 = s2 at x1 n2
              have n1' : decide (p1 < s1) = false := decide_eq_false (by omega)
              have n2' : (p2 == s2) = false := beq_false_of_ne n2
              clear n2
              go_wp2_with fail
              go_quiet (fail)
              go_wp2
              go_roundw
              case rel => exact ⟨j + 1, by omega, by go_num, below_drewN KS _⟩
              case measure => simp [intOf]; omega
            · obtain rfl : j = rest.length := by omega
              have K7 := K.trans (KS.mono K.size)
              have J7 := J1.below KS
              have hll : (rest.length : Int) = (r.length : Int) - 1 := by have := HRL.out; omega
              have hw : IntKind.i64.wrap ((r.length : Int) - 1) = (r.length : Int) - 1 := IntWalk.i64_in _ (by omega)
              have hee : ((rest.length : Int) == (r.length : Int) - 1) = true := by rw [hll]; simp
              clear hll
              go_wp2_with fail
              refine (HQK.out _ J7).mono ?_; rintro e w8 ⟨rfl, b8⟩
              go_wp2
              go_ret
              exact ⟨rfl, K7.trans (b8.mono K7.size)⟩

/-! ### THE ROW's STEP: WRITTEN OUT: LEAVE IT -/
set_option maxRecDepth 100000 in
theorem lifted (os : Os) (started : os.Started) (H : Type) (enc : TypeId × Value → H) :
    ReturnsInHanded {} Try.checked os 6 .any (Rows.fnQueuesSpec.pre6 enc Try.prog Try.f6 Rows.fnQueuesRow.domain false) (Rows.fnQueuesSpec.post enc Try.prog Try.f6 false true false false) := by
  refine returnsInHanded_of_change (C := Try.checked) own started (by kernel_rfl) Try.func6
    (ChangeSpec.witness6 (enc := enc) (C := Try.checked) false ⟨#[], #[.slice none 0 0], []⟩ 8 (by kernel_rfl) (by kernel_rfl) (by kernel_rfl) (by kernel_rfl)) ?_
  intro W base args ds gs before hval0 hW hcnd _
  have hval : ∀ (j : Nat) t v, Try.f6.params[j]? = some t → args[j]? = some v → Value.okWide Try.prog W .any base t v := hval0
  have hW' := hW
  obtain ⟨p, q, hA0, hV, rfl, hfz, hnd⟩ := hW
  have hA : DataW.TrodAll enc Try.prog W 0 (fun _ => true) true Try.f6.params.toList args.toList ds p := hA0
  rw [Try.params6] at hA hval
  obtain ⟨v0, vs0, d0, ds0, p0, q0, hargs, rfl, rfl, h0, r0⟩ := trodAll_cons hA
  obtain ⟨rfl, rfl, rfl⟩ := trodAll_nil r0
  obtain rfl : args = #[v0] := by cases args; simp_all
  obtain ⟨rfl, rfl⟩ := trodVars_none hV
  obtain ⟨a0, len0, cap0, rfl⟩ := okWide_slice Try.underlying22 (hval 0 22 v0 rfl rfl)
  have k0 := h0
  have lt0 : ∀ x ∈ p0, x.block < W.heap.size := by obtain ⟨m, hm⟩ := k0; exact DataW.trod_lt m _ _ _ hm
  obtain ⟨z0, w0⟩ : ∃ zs, IsRow .u8 W a0 len0 cap0 zs := by
    obtain ⟨fuel, hf⟩ := h0
    rcases open_ints Try.underlying22 Try.underlying5 (by kernel_rfl) hf with ⟨hcs, _⟩ | ⟨x, l, c, zs, hcs, _, hl, hm, hz, _, hcell, hwz⟩
    · simp [Value.cells] at hcs
      obtain ⟨rfl, rfl, rfl⟩ := hcs
      exact ⟨[], .inl ⟨rfl, rfl, rfl, rfl⟩⟩
    · simp [Value.cells] at hcs
      obtain ⟨rfl, rfl, rfl⟩ := hcs
      exact ⟨zs, .inr ⟨_, rfl, hl, hm, by simpa using hz, hcell, hwz⟩⟩
  clear hA0 hval0
  refine (walk a0 len0 cap0 z0 W w0).mono fun e W' ⟨he, bel⟩ => ?_
  subst he
  exact ⟨_, rfl, _, _, _, [], _, [], hW', trodAll_mk1 (shut_bool Try.underlying4 _), (trodAll_cons_mk (Below.trod laidOut (by kernel_rfl) (of_decide_eq_true (by kernel_rfl)) k0 bel lt0) trodAll_mk0), rfl, bel.frame _, fun h => by cases h⟩

theorem over : Rows.fnQueuesRow.holds Try.pinned (OpenSpec.ofChange Rows.fnQueuesSpec) :=
  OpenClaim.holds_of_wide 6 Try.f6 rfl rfl rfl rfl rfl rfl rfl ⟨rfl, rfl, rfl, rfl, rfl⟩ rfl rfl rfl rfl rfl (by kernel_rfl) Try.func6 (by kernel_rfl)
    (of_decide_eq_true (by kernel_rfl)) (by unfold Func.isWrapper; first | (rw [if_pos (by decide +kernel)]; kernel_rfl) | (rw [if_neg (by decide +kernel)]; exact ⟨rfl, rfl⟩))
    (fun os started H enc _ => lifted os started H enc)

/-- ████ THE STATEMENT ████ -/
theorem proved : Rows.FnQueuesSaid := over
#print axioms proved
end Go.Proofs.Ytdobiapnkdgjoaa.fnQueues
