/-
  What spec.l09Arc and the small functions of impl.HierOk compute.
-/
import Derived.Test.YtagaildnfbegkaaHokM
import Derived.Test.YtagaildnfbegkaaRouteSp
import Derived.Test.YtagaildnfbegkaaNetOkI
import Derived.Test.YtagaildnfbegkaaClimbIm
import Derived.Lib.MinMax
namespace Go.Proofs.Ytagaildnfbegkaa
open Go.RowKit Go.Deep Go.Maps

set_option maxHeartbeats 1000000 in
theorem l09Arc_any (A B : Option Addr) (ca cb : Nat) (n : Nat) (rs : List A4) (u v : Int) (w : World) (hm : rs.length ≤ 1048576) (hb : IsHs w B rs) :
    Calls Try.prog 46 #[.agg #[.slice A n ca, .slice B rs.length cb], .int .i64 u, .int .i64 v] w fun e w' => e = .returned (.int .i64 (findH rs u v)) ∧ Below w.heap.size w w' := by
  have X := Pair.new w 27 (.slice A n ca) (.slice B rs.length cb)
  have K := below1 w (.cells #[.slice A n ca, .slice B rs.length cb] 27)
  go_enter Try.func46, Try.ntmps46
  go_wp2
  go_loopw [7] (fun i wr => ∃ k : Nat, k ≤ rs.length ∧ i = .int .i64 k ∧ Pair wr w.heap.size 27 (.slice A n ca) (.slice B rs.length cb) ∧ Below w.heap.size w wr ∧ ∀ j, j < k → hitH rs u v j = false) (fun i _ => rs.length - (intOf i).toNat)
  case atStart => exact ⟨0, by omega, rfl, X, K, fun j hj => by omega⟩
  case round =>
    clear X K
    obtain ⟨k, hk, rfl, X, K, hall⟩ := hrel
    obtain ⟨x0, x1, -, -⟩ := X.cells
    have HALL := Lib.hid hall
    clear hall
    by_cases hlt : k < rs.length
    · obtain ⟨b, off, rfl, -, c0, c1, c2, c3⟩ := (hb.below K).at_ hlt
      cases h1 : (hcg rs k).1 == u with
      | false =>
        have HH := Lib.hid (show hitH rs u v k = false by unfold hitH; rw [h1]; rfl)
        go_wp2
        go_roundw
        case rel => exact ⟨k + 1, by omega, by go_num, X, K, fun j hj => by
          rcases Nat.lt_or_ge j k with h | h
          · exact HALL.out j h
          · obtain rfl : j = k := by omega
            exact HH.out⟩
        case measure => simp [intOf]; omega
      | true =>
        cases h2 : (hcg rs k).2.1 == v with
        | false =>
          have HH := Lib.hid (show hitH rs u v k = false by unfold hitH; rw [h1, h2]; rfl)
          go_wp2
          go_roundw
          case rel => exact ⟨k + 1, by omega, by go_num, X, K, fun j hj => by
            rcases Nat.lt_or_ge j k with h | h
            · exact HALL.out j h
            · obtain rfl : j = k := by omega
              exact HH.out⟩
          case measure => simp [intOf]; omega
        | true =>
          have HH := Lib.hid (findH_hit hlt (show hitH rs u v k = true by unfold hitH; rw [h1, h2]; rfl) HALL.out)
          go_wp2
          go_ret
          exact ⟨retI HH.out.symm, K⟩
    · obtain rfl : k = rs.length := by omega
      have HH := Lib.hid (findH_none HALL.out)
      clear hk hlt
      go_wp2
      go_ret
      exact ⟨retI HH.out.symm, K⟩


theorem plain_any (f t l v : Int) (w : World) : Calls Try.prog 55 #[.agg #[.int .i64 f, .int .i64 t, .int .i64 l, .int .i64 v]] w fun e w' => e = .returned (.agg #[.int .i64 f, .int .i64 t, .int .i64 l]) ∧ Below w.heap.size w w' := by
  go_enter Try.func55, Try.ntmps55
  go_wp2
  exact bodyPost_ret (v := .agg #[.int .i64 f, .int .i64 t, .int .i64 l]) (by simp [results, Try.results55, go_sem]) rfl ⟨rfl, below2 _ _ _⟩

set_option maxHeartbeats 4000000 in
theorem isBelow_any (R O : Option Addr) (cr m co : Nat) (zs : List Int) (v u x : Nat) (w : World) (hz : zs.length ≤ 1048576) (hv : v < zs.length) (hu : u < zs.length) (hx : x < zs.length) (hi : IsInts w R zs) :
    Calls Try.prog 87 #[.agg #[.slice R zs.length cr, .slice O m co], .int .i64 (v : Int), .int .i64 (u : Int), .int .i64 (x : Int)] w fun e w' => e = .returned (.bool (decide (zg zs v < zg zs u ∧ zg zs v < zg zs x))) ∧ Below w.heap.size w w' := by
  have X := Pair.new w 91 (.slice R zs.length cr) (.slice O m co)
  have K := below1 w (.cells #[.slice R zs.length cr, .slice O m co] 91)
  obtain ⟨x0, x1, -, -⟩ := X.cells
  obtain ⟨b, off, rfl, -, cv⟩ := (hi.below K).at_ hv
  obtain ⟨b', off', e', -, cu⟩ := (hi.below K).at_ hu
  injection e' with e'; injection e' with e1 e2; subst e1; subst e2
  obtain ⟨b', off', e', -, cx⟩ := (hi.below K).at_ hx
  injection e' with e'; injection e' with e1 e2; subst e1; subst e2
  have hvi : (v : Int) < zs.length := by omega
  have hui : (u : Int) < zs.length := by omega
  have hxi : (x : Int) < zs.length := by omega
  have HB : Hid (decide (zg zs v < min (zg zs u) (zg zs x)) = decide (zg zs v < zg zs u ∧ zg zs v < zg zs x)) := Lib.hid (by apply decide_eq_decide.2; omega)
  generalize zg zs v = p at *
  generalize zg zs u = q at *
  generalize zg zs x = r at *
  go_enter Try.func87, Try.ntmps87
  go_wp2_with fail
  go_quiet (fail)
  go_wp2
  go_ret
  exact ⟨by rw [← HB.out]; rfl, below_drewN K _⟩

set_option maxHeartbeats 4000000 in
theorem indexArc_any (B : Option Addr) (cb : Nat) (rs : List A3) (f t l : Int) (w : World) (hm : rs.length ≤ 1048576) (hb : IsArcs w B rs) :
    Calls Try.prog 104 #[.slice B rs.length cb, .agg #[.int .i64 f, .int .i64 t, .int .i64 l]] w fun e w' => ∃ z : Int, e = .returned (.int .i64 z) ∧ ((0 ≤ z ∧ ∃ k, k < rs.length ∧ arg rs k = (f, t, l)) ∨ (z = -1 ∧ ¬ ∃ k, k < rs.length ∧ arg rs k = (f, t, l))) ∧ Below w.heap.size w w' := by
  have X := Trip.new w 82 (.int .i64 f) (.int .i64 t) (.int .i64 l)
  have K := below1 w (.cells #[.int .i64 f, .int .i64 t, .int .i64 l] 82)
  obtain ⟨x0, x1, x2, -⟩ := X.cells
  go_enter Try.func104, Try.ntmps104
  go_wp2
  obtain ⟨W, hW⟩ : ∃ W, W = w.alloc (.cells #[.int .i64 f, .int .i64 t, .int .i64 l] 82) := ⟨_, rfl⟩
  rw [← hW] at x0 x1 x2 K ⊢
  clear X hW
  go_loopw [8] (fun i wr => ∃ k m : Nat, k ≤ rs.length ∧ i = .int .i64 k ∧ wr = W.drewN m ∧ Hid (∀ j, j < k → arg rs j ≠ (f, t, l))) (fun i _ => rs.length - (intOf i).toNat)
  case atStart => exact ⟨0, 0, by omega, rfl, rfl, Lib.hid (fun j hj => by omega)⟩
  case round =>
    obtain ⟨k, m, hk, rfl, rfl, HJ⟩ := hrel
    by_cases hlt : k < rs.length
    · have hki : (k : Int) < rs.length := by omega
      obtain ⟨b, off, rfl, -, c0, c1, c2⟩ := (hb.below K).at_ hlt
      have HNX : Hid (arg rs k ≠ (f, t, l) → ∀ j, j < k + 1 → arg rs j ≠ (f, t, l)) := Lib.hid (fun h j hj => by
        by_cases e : j = k
        · rw [e]; exact h
        · exact HJ.out j (by omega))
      have HYES : Hid (arg rs k = (f, t, l) → ∃ k, k < rs.length ∧ arg rs k = (f, t, l)) := Lib.hid (fun h => ⟨k, hlt, h⟩)
      generalize arg rs k = a at c0 c1 c2 HNX HYES
      obtain ⟨p, q, r⟩ := a
      dsimp only at c0 c1 c2
      by_cases h0 : f = p
      · subst h0
        by_cases h1 : t = q
        · subst h1
          by_cases h2 : l = r
          · subst h2
            have HY := Lib.hid (HYES.out rfl)
            clear HNX HYES
            go_wp2_with fail
            go_quiet (fail)
            go_wp2
            go_ret
            exact ⟨_, rfl, .inl ⟨by omega, HY.out⟩, below_drewN (below_drewN K _) _⟩
          · have HN := Lib.hid (HNX.out (by intro e; injection e with e e2; injection e2 with e2 e3; exact h2 e3.symm))
            have hd : (l == r) = false := by simpa using h2
            clear HNX HYES h2
            go_wp2_with fail
            go_quiet (fail)
            go_wp2
            go_roundw
            case rel => exact ⟨k + 1, _, by omega, by go_num, by first | rfl | exact World.drewN_add _ _ _ | simp, HN⟩
            case measure => simp [intOf]; omega
        · have HN := Lib.hid (HNX.out (by intro e; injection e with e e2; injection e2 with e2 e3; exact h1 e2.symm))
          have hd : (t == q) = false := by simpa using h1
          clear HNX HYES h1
          go_wp2_with fail
          go_quiet (fail)
          go_wp2
          go_roundw
          case rel => exact ⟨k + 1, _, by omega, by go_num, by first | rfl | exact World.drewN_add _ _ _ | simp, HN⟩
          case measure => simp [intOf]; omega
      · have HN := Lib.hid (HNX.out (by intro e; injection e with e e2; exact h0 e.symm))
        have hd : (f == p) = false := by simpa using h0
        clear HNX HYES h0
        go_wp2_with fail
        go_quiet (fail)
        go_wp2
        go_roundw
        case rel => exact ⟨k + 1, _, by omega, by go_num, by first | rfl | exact World.drewN_add _ _ _ | simp, HN⟩
        case measure => simp [intOf]; omega
    · obtain rfl : k = rs.length := by omega
      go_wp2
      go_ret
      exact ⟨_, rfl, .inr ⟨rfl, fun ⟨j, hj, e⟩ => HJ.out j hj e⟩, below_drewN K _⟩

theorem containsArc_any (B : Option Addr) (cb : Nat) (rs : List A3) (f t l : Int) (w : World) (hm : rs.length ≤ 1048576) (hb : IsArcs w B rs) :
    Calls Try.prog 85 #[.slice B rs.length cb, .agg #[.int .i64 f, .int .i64 t, .int .i64 l]] w fun e w' => ∃ bo : Bool, e = .returned (.bool bo) ∧ (bo = true ↔ ∃ k, k < rs.length ∧ arg rs k = (f, t, l)) ∧ Below w.heap.size w w' := by
  have X := Trip.new w 82 (.int .i64 f) (.int .i64 t) (.int .i64 l)
  have K := below1 w (.cells #[.int .i64 f, .int .i64 t, .int .i64 l] 82)
  obtain ⟨x0, x1, x2, -⟩ := X.cells
  go_enter Try.func85, Try.ntmps85
  go_wp2_with fail
  refine (indexArc_any B cb rs f t l _ hm (hb.below K)).mono ?_; rintro e w1 ⟨z, rfl, hz, b1⟩
  have HZ := Lib.hid hz
  have K1 := K.trans (b1.mono K.size)
  by_cases h : 0 ≤ z
  · have HY : Hid (∃ k, k < rs.length ∧ arg rs k = (f, t, l)) := Lib.hid (by rcases hz with hz | hz; exact hz.2; omega)
    have hd : decide (0 ≤ z) = true := decide_eq_true h
    clear hz
    go_wp2
    go_ret
    exact ⟨_, rfl, by simp only [decide_eq_true_eq]; exact ⟨fun _ => HY.out, fun _ => by first | exact h | rfl | trivial⟩, K1⟩
  · have HY : Hid (¬ ∃ k, k < rs.length ∧ arg rs k = (f, t, l)) := Lib.hid (by rcases hz with hz | hz; omega; exact hz.2)
    have hd : decide (0 ≤ z) = false := decide_eq_false h
    clear hz
    go_wp2
    go_ret
    exact ⟨_, rfl, ⟨fun e => by first | cases e | exact absurd (of_decide_eq_true e) h, fun e => absurd e HY.out⟩, K1⟩

end Go.Proofs.Ytagaildnfbegkaa
