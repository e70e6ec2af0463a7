/-
  What Between computes, in the program and in the specification.
-/
import Derived.Test.YtcaamhoakhgnhaaDistTop
namespace Go.Proofs.Ytcaamhoakhgnhaa
open Go.RowKit Go.Deep

set_option maxHeartbeats 1000000 in
theorem specBetween_any (A B : Option Addr) (ca cb : Nat) (ps : List (Int × Int)) (rs : List A3) (s t : Int) (w : World) (hn : ps.length ≤ 1048576) (hm : rs.length ≤ 1048576) (ha : IsPts w A ps) (hb : IsArcs w B rs) :
    Calls Try.prog 31 #[.agg #[.slice A ps.length ca, .slice B rs.length cb], .int .i64 s, .int .i64 t] w fun e w' => e = .returned (.int .i64 (dB ps rs s t)) ∧ Below w.heap.size w w' := by
  have X := Pair.new w 32 (.slice A ps.length ca) (.slice B rs.length cb)
  have K := below1 w (.cells #[.slice A ps.length ca, .slice B rs.length cb] 32)
  cases h1 : netB ps rs with
  | false =>
    have HQ := Lib.hid (dB_no (s := s) (t := t) (.inl h1))
    go_enter Try.func31, Try.ntmps31
    go_wp2_with fail
    refine (specNetOk_any A B ca cb ps rs _ hn hm (ha.below K) (hb.below K)).mono ?_; rintro e w1 ⟨rfl, b1⟩
    replace K := K.trans (b1.mono K.size)
    clear b1 X
    go_wp2
    go_ret
    exact ⟨retI HQ.out.symm, K⟩
  | true =>
    cases h2 : btB s 0 ((ps.length : Int) - 1) with
    | false =>
      have HQ := Lib.hid (dB_no (rs := rs) (t := t) (.inr (.inl h2)))
      go_enter Try.func31, Try.ntmps31
      go_wp2_with fail
      refine (specNetOk_any A B ca cb ps rs _ hn hm (ha.below K) (hb.below K)).mono ?_; rintro e w1 ⟨rfl, b1⟩
      replace K := K.trans (b1.mono K.size)
      obtain ⟨x0, x1, -, -⟩ := (X.below b1).cells
      clear b1
      go_wp2_with fail
      refine (l04Node_any A B ps.length rs.length ca cb s _ hn).mono ?_; rintro e w2 ⟨rfl, b2⟩
      replace K := K.trans (b2.mono K.size)
      clear b2 X x0 x1
      go_wp2
      go_ret
      exact ⟨retI HQ.out.symm, K⟩
    | true =>
      cases h3 : btB t 0 ((ps.length : Int) - 1) with
      | false =>
        have HQ := Lib.hid (dB_no (rs := rs) (s := s) (.inr (.inr h3)))
        go_enter Try.func31, Try.ntmps31
        go_wp2_with fail
        refine (specNetOk_any A B ca cb ps rs _ hn hm (ha.below K) (hb.below K)).mono ?_; rintro e w1 ⟨rfl, b1⟩
        replace K := K.trans (b1.mono K.size)
        replace X := X.below b1
        obtain ⟨x0, x1, -, -⟩ := X.cells
        clear b1
        go_wp2_with fail
        refine (l04Node_any A B ps.length rs.length ca cb s _ hn).mono ?_; rintro e w2 ⟨rfl, b2⟩
        replace K := K.trans (b2.mono K.size)
        replace X := X.below b2
        clear b2 x0 x1
        obtain ⟨x0, x1, -, -⟩ := X.cells
        go_wp2_with fail
        refine (l04Node_any A B ps.length rs.length ca cb t _ hn).mono ?_; rintro e w3 ⟨rfl, b3⟩
        replace K := K.trans (b3.mono K.size)
        clear b3 X x0 x1
        go_wp2
        go_ret
        exact ⟨retI HQ.out.symm, K⟩
      | true =>
        obtain ⟨S, rfl, hS⟩ := node_is h2
        obtain ⟨T, rfl, hT⟩ := node_is h3
        obtain ⟨h20, h70, -, -⟩ := netB_iff.1 h1
        have HQ := Lib.hid (dB_yes h1 hS hT)
        have HL := Lib.hid (dst_len ps.length rs S)
        have HA := Lib.hid (arcsIn_net h1)
        go_enter Try.func31, Try.ntmps31
        go_wp2_with fail
        refine (specNetOk_any A B ca cb ps rs _ hn hm (ha.below K) (hb.below K)).mono ?_; rintro e w1 ⟨rfl, b1⟩
        replace K := K.trans (b1.mono K.size)
        replace X := X.below b1
        obtain ⟨x0, x1, -, -⟩ := X.cells
        clear b1
        go_wp2_with fail
        refine (l04Node_any A B ps.length rs.length ca cb _ _ hn).mono ?_; rintro e w2 ⟨rfl, b2⟩
        replace K := K.trans (b2.mono K.size)
        replace X := X.below b2
        clear b2 x0 x1
        obtain ⟨x0, x1, -, -⟩ := X.cells
        go_wp2_with fail
        refine (l04Node_any A B ps.length rs.length ca cb _ _ hn).mono ?_; rintro e w3 ⟨rfl, b3⟩
        replace K := K.trans (b3.mono K.size)
        replace X := X.below b3
        clear b3 x0 x1
        obtain ⟨x0, x1, -, -⟩ := X.cells
        go_wp2_with fail
        refine (l04From_any A B ca cb ps.length S rs _ h20 h70 hS HA.out (hb.below K)).mono ?_; rintro e w4 ⟨A3, c3, rfl, hc3, O3, b4⟩
        replace K := K.trans (b4.mono K.size)
        obtain ⟨g, off, rfl, -, cz⟩ := O3.ints.at_ (k := T) (by rw [HL.out]; exact hT)
        rw [HL.out] at hc3 ⊢
        clear x0 x1 X b4 O3
        go_wp2
        go_ret
        exact ⟨retI HQ.out.symm, K⟩

set_option maxHeartbeats 1000000 in
theorem implBetween_any (A B : Option Addr) (ca cb : Nat) (ps : List (Int × Int)) (rs : List A3) (s t : Int) (w : World) (hn : ps.length ≤ 1048576) (hm : rs.length ≤ 1048576) (ha : IsPts w A ps) (hb : IsArcs w B rs) :
    Calls Try.prog 19 #[.agg #[.slice A ps.length ca, .slice B rs.length cb], .int .i64 s, .int .i64 t] w fun e w' => e = .returned (.int .i64 (dB ps rs s t)) ∧ Below w.heap.size w w' := by
  have q22 : ∀ (w : World) (a : Option Addr) (n c n' c' : Nat), (binOp .eql 40 (.slice a n c) (.slice none n' c')).run Try.prog w = .ok (.bool a.isNone) w := fun w a n c n' c' => Lib.run_eql_slice_nil w _ _ a n c n' c' Try.underlying40
  have X := Pair.new w 32 (.slice A ps.length ca) (.slice B rs.length cb)
  have K := below1 w (.cells #[.slice A ps.length ca, .slice B rs.length cb] 32)
  by_cases hno : netB ps rs = false ∨ btB s 0 ((ps.length : Int) - 1) = false
  · have HQ := Lib.hid (dB_no (t := t) (show netB ps rs = false ∨ btB s 0 ((ps.length : Int) - 1) = false ∨ btB t 0 ((ps.length : Int) - 1) = false from hno.elim .inl (fun h => .inr (.inl h))))
    go_enter Try.func19, Try.ntmps19
    go_wp2_with fail
    refine (implDistFrom_no A B ca cb ps rs s _ hn hm (ha.below K) (hb.below K) hno).mono ?_; rintro e w1 ⟨rfl, b1⟩
    replace K := K.trans (b1.mono K.size)
    clear b1 X hno
    go_wp2
    go_ret
    exact ⟨retI HQ.out.symm, K⟩
  · have h1 : netB ps rs = true := by cases e : netB ps rs with
      | false => exact absurd (.inl e) hno
      | true => rfl
    have h2 : btB s 0 ((ps.length : Int) - 1) = true := by cases e : btB s 0 ((ps.length : Int) - 1) with
      | false => exact absurd (.inr e) hno
      | true => rfl
    obtain ⟨S, rfl, hS⟩ := node_is h2
    clear hno
    cases h3 : btB t 0 ((ps.length : Int) - 1) with
    | false =>
      have HQ := Lib.hid (dB_no (rs := rs) (s := (S : Int)) (.inr (.inr h3)))
      go_enter Try.func19, Try.ntmps19
      go_wp2_with fail
      refine (implDistFrom_yes A B ca cb ps rs S _ (ha.below K) (hb.below K) h1 hS).mono ?_; rintro e w1 ⟨g, rfl, hg, I, b1⟩
      replace K := K.trans (b1.mono K.size)
      replace X := X.below b1
      obtain ⟨x0, x1, -, -⟩ := X.cells
      clear b1 I hg
      go_wp2_with fail
      refine (hasNode_any A B ps.length rs.length ca cb t _).mono ?_; rintro e w2 ⟨rfl, b2⟩
      replace K := K.trans (b2.mono K.size)
      clear b2 X x0 x1
      go_wp2
      go_ret
      exact ⟨retI HQ.out.symm, K⟩
    | true =>
      obtain ⟨T, rfl, hT⟩ := node_is h3
      have HQ := Lib.hid (dB_yes h1 hS hT)
      go_enter Try.func19, Try.ntmps19
      go_wp2_with fail
      refine (implDistFrom_yes A B ca cb ps rs S _ (ha.below K) (hb.below K) h1 hS).mono ?_; rintro e w1 ⟨g, rfl, hg, I, b1⟩
      replace K := K.trans (b1.mono K.size)
      replace X := X.below b1
      obtain ⟨x0, x1, -, -⟩ := X.cells
      clear b1 hg
      go_wp2_with fail
      refine (hasNode_any A B ps.length rs.length ca cb _ _).mono ?_; rintro e w2 ⟨rfl, b2⟩
      replace K := K.trans (b2.mono K.size)
      replace I := I.below b2
      have cz := I.cell hT
      clear b2 X x0 x1 I
      go_wp2
      go_ret
      exact ⟨retI HQ.out.symm, K⟩

end Go.Proofs.Ytcaamhoakhgnhaa
