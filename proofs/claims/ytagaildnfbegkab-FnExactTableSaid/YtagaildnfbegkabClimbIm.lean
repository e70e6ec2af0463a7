/-
  What the methods of a climb and of a hierarchy answer (impl).
-/
import Derived.Test.YtagaildnfbegkabClimbSp
import Derived.Test.YtagaildnfbegkabDistImpl
namespace Go.Proofs.Ytagaildnfbegkab
open Go.RowKit Go.Deep Go.Maps

def climbV (up : Bool) (s : Int) : Value := if up then .iface 74 (.int .i64 s) else .iface 75 (.int .i64 s)

theorem upStart_any (s : Int) (w : World) : Calls Try.prog 115 #[.int .i64 s] w fun e w' => e = .returned (.int .i64 s) ∧ w = w' := by
  go_enter Try.func115, Try.ntmps115
  go_wp2
  go_ret
  exact ⟨rfl, rfl⟩
theorem downStart_any (s : Int) (w : World) : Calls Try.prog 116 #[.int .i64 s] w fun e w' => e = .returned (.int .i64 s) ∧ w = w' := by
  go_enter Try.func116, Try.ntmps116
  go_wp2
  go_ret
  exact ⟨rfl, rfl⟩

theorem hasNodeH_any (A B : Option Addr) (n ca m cb : Nat) (u : Int) (w : World) (hn : n ≤ 1048576) :
    Calls Try.prog 70 #[.agg #[.slice A n ca, .slice B m cb], .int .i64 u] w fun e w' => e = .returned (.bool (btB u 0 ((n : Int) - 1))) ∧ Below w.heap.size w w' := by
  have K := below1 w (.cells #[.slice A n ca, .slice B m cb] 30)
  obtain ⟨x0, x1, -, -⟩ := (Pair.new w 30 (.slice A n ca) (.slice B m cb)).cells
  by_cases h0 : 0 ≤ u
  · have hd : decide (0 ≤ u) = true := decide_eq_true h0
    by_cases h1 : u < n
    · have hd1 : decide (u < (n : Int)) = true := decide_eq_true h1
      have HB := Lib.hid (btB_true (n := u) (a := 0) (b := (n : Int) - 1) h0 (by omega))
      go_enter Try.func70, Try.ntmps70
      go_wp2
      go_ret
      exact ⟨by rw [HB.out]; first | rfl | simp [h1], K⟩
    · have hd1 : decide (u < (n : Int)) = false := decide_eq_false h1
      have HB : Hid (btB u 0 ((n : Int) - 1) = false) := Lib.hid (by cases e : btB u 0 ((n : Int) - 1) with
        | false => rfl
        | true => have := btB_iff.1 e; omega)
      go_enter Try.func70, Try.ntmps70
      go_wp2
      go_ret
      exact ⟨by rw [HB.out]; first | rfl | simp [h1], K⟩
  · have hd : decide (0 ≤ u) = false := decide_eq_false h0
    have HB : Hid (btB u 0 ((n : Int) - 1) = false) := Lib.hid (by cases e : btB u 0 ((n : Int) - 1) with
      | false => rfl
      | true => have := btB_iff.1 e; omega)
    go_enter Try.func70, Try.ntmps70
    go_wp2
    go_ret
    exact ⟨by rw [HB.out]; first | rfl | simp [h0], K⟩

set_option maxRecDepth 100000 in
set_option maxHeartbeats 4000000 in
theorem arcsOkH_any (A B : Option Addr) (n ca cb : Nat) (rs : List A4) (w : World) (hn : n ≤ 1048576) (hm : rs.length ≤ 1048576) (hb : IsHs w B rs) :
    Calls Try.prog 71 #[.agg #[.slice A n ca, .slice B rs.length cb]] w fun e w' => ∃ bo, e = .returned (.bool bo) ∧ (bo = true → hok n rs) ∧ (bo = false → ¬ hok n rs) ∧ Below w.heap.size w w' := by
  have X := Pair.new w 30 (.slice A n ca) (.slice B rs.length cb)
  have K := below1 w (.cells #[.slice A n ca, .slice B rs.length cb] 30)
  obtain ⟨x0, x1, -, -⟩ := X.cells
  go_enter Try.func71, Try.ntmps71
  go_wp2
  clear x0 x1
  go_loopw [8] (fun vi wr => ∃ q : Nat, q ≤ rs.length ∧ vi = .int .i64 q ∧ Hid (∀ i, i < q → okA n (hcg rs i)) ∧ Pair wr w.heap.size 30 (.slice A n ca) (.slice B rs.length cb) ∧ Below w.heap.size w wr) (fun i _ => rs.length - (intOf i).toNat)
  case atStart => exact ⟨0, by omega, rfl, Lib.hid (fun i hi => by omega), X, K⟩
  case round =>
    clear X K
    obtain ⟨q, hq, rfl, HJ, X, K⟩ := hrel
    by_cases hlt : q < rs.length
    · obtain ⟨b, off, rfl, -, c0, c1, c2, c3⟩ := (hb.below K).at_ hlt
      have hqi : (q : Int) < rs.length := by omega
      have HJ2 : Hid (okA n (hcg rs q) → ∀ i, i < q + 1 → okA n (hcg rs i)) := Lib.hid (fun h i hi => by
        rcases Nat.lt_or_ge i q with r | r
        · exact HJ.out i r
        · obtain rfl : i = q := by omega
          exact h)
      have HNO : Hid (¬ okA n (hcg rs q) → ¬ hok n rs) := Lib.hid (fun h o => h (o q hlt))
      generalize hcg rs q = a at c0 c1 c2 c3 HJ2 HNO
      obtain ⟨f, t, l, v⟩ := a
      simp only at c0 c1 c2 c3
      have kv := below1 wr (.cells #[.int .i64 f, .int .i64 t, .int .i64 l, .int .i64 v] 57)
      have Y : QuadH (wr.alloc (.cells #[.int .i64 f, .int .i64 t, .int .i64 l, .int .i64 v] 57)) wr.heap.size 57 (.int .i64 f) (.int .i64 t) (.int .i64 l) (.int .i64 v) := heap_alloc_new _ _
      have X2 := X.below kv
      have K2 := K.trans (kv.mono K.size)
      obtain ⟨y0, y1, y2, -⟩ := Y.cells
      obtain ⟨x0, x1, -, -⟩ := X2.cells
      clear X K kv HJ
      go_wp2_with fail
      clear c0 c1 c2 c3 x0 x1
      refine (hasNodeH_any A _ n ca rs.length cb f _ hn).mono ?_; rintro e w6 ⟨rfl, b6⟩
      have Y6 : QuadH w6 wr.heap.size 57 (.int .i64 f) (.int .i64 t) (.int .i64 l) (.int .i64 v) := (b6.block _ (by have := (Array.getElem?_eq_some_iff.1 Y).1; exact this)).trans Y
      have X6 := X2.below b6
      have K6 := K2.trans (b6.mono K2.size)
      obtain ⟨y0, y1, y2, -⟩ := Y6.cells
      obtain ⟨x0, x1, -, -⟩ := X6.cells
      clear Y X2 K2 b6
      cases hf : btB f 0 ((n : Int) - 1) with
      | false =>
        have HB := Lib.hid (HNO.out (fun o => by have := o.1; rw [btB_true this.1 (by omega)] at hf; cases hf))
        go_wp2
        go_ret
        exact ⟨false, rfl, (fun h => by cases h), fun _ => HB.out, K6⟩
      | true =>
        go_wp2_with fail
        refine (hasNodeH_any A _ n ca rs.length cb t _ hn).mono ?_; rintro e w7 ⟨rfl, b7⟩
        have Y7 : QuadH w7 wr.heap.size 57 (.int .i64 f) (.int .i64 t) (.int .i64 l) (.int .i64 v) := (b7.block _ (by have := (Array.getElem?_eq_some_iff.1 Y6).1; exact this)).trans Y6
        have X7 := X6.below b7
        have K7 := K6.trans (b7.mono K6.size)
        clear y0 y1 y2 x0 x1 Y6 X6 K6 b7
        obtain ⟨y0, y1, y2, -⟩ := Y7.cells
        obtain ⟨x0, x1, -, -⟩ := X7.cells
        cases ht : btB t 0 ((n : Int) - 1) with
        | false =>
          have HB := Lib.hid (HNO.out (fun o => by have := o.2.1; rw [btB_true this.1 (by omega)] at ht; cases ht))
          go_wp2
          go_ret
          exact ⟨false, rfl, (fun h => by cases h), fun _ => HB.out, K7⟩
        | true =>
          have q1 := btB_iff.1 hf
          have q2 := btB_iff.1 ht
          by_cases h1 : l < 1
          · have HB := Lib.hid (HNO.out (fun o => by have : 1 ≤ l := o.2.2.1; omega))
            have hd : decide (l < 1) = true := decide_eq_true h1
            clear q1 q2
            go_wp2
            go_ret
            exact ⟨false, rfl, (fun h => by cases h), fun _ => HB.out, K7⟩
          · have hd : decide (l < 1) = false := decide_eq_false h1
            by_cases h2 : l > 1000000
            · have HB := Lib.hid (HNO.out (fun o => by have : l ≤ 1000000 := o.2.2.2; omega))
              have hd2 : decide ((1000000 : Int) < l) = true := decide_eq_true h2
              clear q1 q2
              go_wp2
              go_ret
              exact ⟨false, rfl, (fun h => by cases h), fun _ => HB.out, K7⟩
            · have hd2 : decide ((1000000 : Int) < l) = false := decide_eq_false h2
              have HO : Hid (okA n (f, t, l, v)) := Lib.hid (⟨⟨q1.1, by show f < _; omega⟩, ⟨q2.1, by show t < _; omega⟩, by show 1 ≤ l; omega, by show l ≤ _; omega⟩)
              clear q1 q2
              go_wp2
              go_roundw
              case rel => exact ⟨q + 1, by omega, by go_num, Lib.hid (HJ2.out HO.out), X7, K7⟩
              case measure => simp [intOf]; omega
    · obtain rfl : q = rs.length := by omega
      have HH : Hid (hok n rs) := Lib.hid HJ.out
      go_wp2
      go_ret
      exact ⟨true, rfl, fun _ => HH.out, (fun h => by cases h), K⟩

set_option maxRecDepth 100000 in
/-- The ends of the arc at p. -/
theorem endsFor_any (up : Bool) (s : Int) (b o : Nat) (f t : Int) (w : World) (c0 : w.cell? ⟨b, o, none⟩ = some (.int .i64 f)) (c1 : w.cell? ⟨b, o + 1, none⟩ = some (.int .i64 t)) :
    Calls Try.prog 64 #[climbV up s, .pointer (some ⟨b, o, none⟩)] w fun e w' => e = .returned (.tuple #[.int .i64 (if up then f else t), .int .i64 (if up then t else f)]) ∧ ∃ k, w' = w.drewN k := by
  have t1 : ∀ (x : Int) (w : World), (Instr.typeAssert (.iface 74 (.int .i64 x)) 94 74 true).run Try.prog w = .ok (.tuple #[.int .i64 x, .bool true]) w := fun _ _ => by kernel_rfl
  have t2 : ∀ (x : Int) (w : World), (Instr.typeAssert (.iface 75 (.int .i64 x)) 94 74 true).run Try.prog w = .ok (.tuple #[.int .i64 0, .bool false]) w := fun _ _ => by kernel_rfl
  cases up with
  | true =>
    unfold climbV
    go_enter Try.func64, Try.ntmps64
    go_wp2_with fail
    go_quiet (fail)
    go_wp2
    go_ret2
    exact ⟨rfl, _, rfl⟩
  | false =>
    unfold climbV
    go_enter Try.func64, Try.ntmps64
    go_wp2_with fail
    go_quiet (fail)
    go_wp2
    go_ret2
    exact ⟨rfl, _, rfl⟩

end Go.Proofs.Ytagaildnfbegkab
