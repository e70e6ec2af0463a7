/-
  Buckets as the laws look at them: what holds of arcs, said of buckets (three numbers each), up to 20971520 of them.
-/
import Derived.Test.YtagaildnfbegkabLinked
import Derived.Test.YtagaildnfbegkabPutArc
import Derived.Test.YtagaildnfbegkabMarks
import Derived.Test.YtagaildnfbegkabNetLaws
namespace Go.Proofs.Ytagaildnfbegkab
open Go.RowKit Go.Deep

theorem Try.infoBucket : (Try.prog.info? 67).map (fun i => (i.zero, i.size, i.bytes)) = some (some (.agg #[.int .i64 0, .int .i64 0, .int .i64 0]), 3, 24) := by kernel_rfl
theorem eqBucket_same (x y z : Int) (w : World) : Calls Try.prog 55 #[.agg #[.int .i64 x, .int .i64 y, .int .i64 z], .agg #[.int .i64 x, .int .i64 y, .int .i64 z]] w fun e w' => e = .returned (.bool true) ∧ Below w.heap.size w w' := by
  go_enter Try.func55, Try.ntmps55
  go_wp2
  go_ret
  exact ⟨rfl, below2 _ _ _⟩


set_option maxHeartbeats 1000000 in
theorem eqBucketS_same (A B : Option Addr) (ca cb : Nat) (rs : List (Int × Int × Int)) (w : World) (hn : rs.length ≤ 20971520) (ha : IsArcs w A rs) (hb : IsArcs w B rs) :
    Calls Try.prog 24 #[.slice A rs.length ca, .slice B rs.length cb] w fun e w' => e = .returned (.bool true) ∧ Below w.heap.size w w' := by
  go_enter Try.func24, Try.ntmps24
  go_wp2
  go_loopw [5] (fun i wr => ∃ k : Nat, k ≤ rs.length ∧ i = .int .i64 k ∧ Below w.heap.size w wr) (fun i _ => rs.length - (intOf i).toNat)
  case atStart => exact ⟨0, by omega, rfl, Below.refl _ _⟩
  case round =>
    obtain ⟨k, hk, rfl, hr⟩ := hrel
    by_cases hlt : k < rs.length
    · obtain ⟨b1, o1, rfl, -, c1, c2, c3⟩ := (ha.below hr).at_ hlt
      obtain ⟨b2, o2, rfl, -, c4, c5, c6⟩ := (hb.below hr).at_ hlt
      have T : EqA w b1 (o1 + k * 3) b2 (o2 + k * 3) (arg rs k).1 (arg rs k).2.1 (arg rs k).2.2 _ := ⟨c1, c2, c3, c4, c5, c6, hr⟩
      clear c1 c2 c3 c4 c5 c6
      go_wp2_with fail
      go_region_held3 (fun w' => EqA w b1 (o1 + k * 3) b2 (o2 + k * 3) (arg rs k).1 (arg rs k).2.1 (arg rs k).2.2 w') (first | exact EqA.drew T | (refine EqA.under (by assumption) ?_; assumption))
        (first | (go_at_call 55; refine (eqBucket_same _ _ _ _).mono ?_; rintro e w1 ⟨rfl, b1⟩))
      rename_i hU
      obtain ⟨-, -, -, -, -, -, k1⟩ := hU
      go_wp2
      go_roundw
      case rel => exact ⟨k + 1, by omega, by go_num, k1⟩
      case measure => simp [intOf]; omega
    · go_wp2
      go_ret
      exact ⟨rfl, hr⟩


set_option maxHeartbeats 1000000 in
theorem markBucketS_any (w : World) (base : Nat) (A : Option Addr) (n cap : Nat) (f : Nat → Int) (k : Int) (hn : n ≤ 20971520) (hk : 0 ≤ k ∧ k ≤ 100000000) (h : OwnSl w base 67 A (n * 3) f) :
    Calls Try.prog 25 #[.slice A n cap, .int .i64 k] w (Marked w base 67 A (n * 3) k) := by
  rcases Nat.eq_zero_or_pos n with rfl | hp
  · go_enter Try.func25, Try.ntmps25
    go_wp2
    refine wp_loop_rounds 1 ?_; rw [rounds_succ]
    go_wp2
    go_ret
    exact ⟨by simp, fun h => by omega, World.grownBy.refl w _, rfl⟩
  · obtain ⟨g, off, rfl, hb, ho⟩ := h (by omega)
    have R0 := MarkRel.start (k := k) ho
    go_enter Try.func25, Try.ntmps25
    go_wp2
    go_loopw [1, 5] (fun q i wr => ∃ m : Nat, m ≤ n ∧ i = .int .i64 m ∧ q = .int .i64 (k + (m * 3 : Nat)) ∧ MarkRel w wr g 67 off (n * 3) f k (m * 3)) (fun _ i _ => n - (intOf i).toNat)
    case atStart => exact ⟨0, by omega, rfl, by simp, by simpa using R0⟩
    case round =>
      clear R0
      obtain ⟨m, hm, rfl, rfl, hr⟩ := hrel
      by_cases hlt : m < n
      · have R := hr.step.step.step
        rw [show k + ((m * 3 + 1 : Nat) : Int) = k + ((m * 3 : Nat) : Int) + 1 by omega] at R
        rw [show k + ((m * 3 + 2 : Nat) : Int) = k + ((m * 3 : Nat) : Int) + 1 + 1 by omega] at R
        have c0 := hr.1.cell (i := m * 3) (by omega)
        have d0 := hr.1.frozen (off + (m * 3))
        obtain ⟨y0, hy0⟩ : ∃ y : Int, wr.cell? ⟨g, off + (m * 3), none⟩ = some (.int .i64 y) := ⟨_, c0⟩
        clear c0
        have c1 := hr.1.cell (i := m * 3 + 1) (by omega)
        have d1 := hr.1.frozen (off + (m * 3 + 1))
        obtain ⟨y1, hy1⟩ : ∃ y : Int, wr.cell? ⟨g, off + (m * 3 + 1), none⟩ = some (.int .i64 y) := ⟨_, c1⟩
        clear c1
        have c2 := hr.1.cell (i := m * 3 + 2) (by omega)
        have d2 := hr.1.frozen (off + (m * 3 + 2))
        obtain ⟨y2, hy2⟩ : ∃ y : Int, wr.cell? ⟨g, off + (m * 3 + 2), none⟩ = some (.int .i64 y) := ⟨_, c2⟩
        clear c2
        rw [show off + (m * 3 + 1) = off + m * 3 + 1 from rfl] at hy1 d1
        rw [show off + (m * 3 + 2) = off + m * 3 + 2 from rfl] at hy2 d2
        have hb1 : 0 ≤ k + ((m * 3 : Nat) : Int) := by omega
        have hb2 : k + ((m * 3 : Nat) : Int) ≤ 200000000 := by omega
        go_wp2
        go_roundw
        case rel => exact ⟨m + 1, by omega, by go_num, congrArg (Value.int .i64) (by omega), by rw [show (m + 1) * 3 = m * 3 + 3 by omega]; exact R⟩
        case measure => simp [intOf]; omega
      · obtain rfl : m = n := by omega
        go_wp2
        go_ret
        exact hr.done hb (by omega)


set_option maxHeartbeats 1000000 in
theorem heldBucketS_any (w : World) (base : Nat) (A : Option Addr) (n cap : Nat) (k : Int) (hn : n ≤ 20971520) (hk : 0 ≤ k ∧ k ≤ 100000000) (h : OwnSl w base 67 A (n * 3) (fun j => k + j)) :
    Calls Try.prog 26 #[.slice A n cap, .int .i64 k] w fun e w' => e = .returned (.int .i64 (k + ((n * 3) : Nat))) ∧ w = w' := by
  rcases Nat.eq_zero_or_pos n with rfl | hp
  · go_enter Try.func26, Try.ntmps26
    go_wp2
    refine wp_loop_rounds 1 ?_; rw [rounds_succ]
    go_wp2
    go_ret
    exact ⟨by simp, rfl⟩
  · obtain ⟨g, off, rfl, hb, ho⟩ := h (by omega)
    go_enter Try.func26, Try.ntmps26
    go_wp2
    go_loop [1, 5] (fun q i => ∃ m : Nat, m ≤ n ∧ i = .int .i64 m ∧ q = .int .i64 (k + (m * 3 : Nat))) (fun _ i => n - (intOf i).toNat)
    case atStart => exact ⟨0, by omega, rfl, by simp⟩
    case round =>
      obtain ⟨m, hm, rfl, rfl⟩ := hrel
      by_cases hlt : m < n
      · have hb1 : 0 ≤ k + ((m * 3 : Nat) : Int) := by omega
        have hb2 : k + ((m * 3 : Nat) : Int) ≤ 200000000 := by omega
        have c0 := ho.cell (i := m * 3) (by omega)
        have c1 := ho.cell (i := m * 3 + 1) (by omega)
        have c2 := ho.cell (i := m * 3 + 2) (by omega)
        rw [show off + (m * 3 + 1) = off + m * 3 + 1 from rfl, show k + ((m * 3 + 1 : Nat) : Int) = k + ((m * 3 : Nat) : Int) + 1 by omega] at c1
        rw [show off + (m * 3 + 2) = off + m * 3 + 2 from rfl, show k + ((m * 3 + 2 : Nat) : Int) = k + ((m * 3 : Nat) : Int) + 1 + 1 by omega] at c2
        go_wp2
        go_round
        case rel => exact ⟨m + 1, by omega, by go_num, congrArg (Value.int .i64) (by omega)⟩
        case measure => simp [intOf]; omega
      · obtain rfl : m = n := by omega
        go_wp2
        go_ret
        exact ⟨rfl, rfl⟩


set_option maxRecDepth 100000 in
/-- An arc appended to a row that is one's own. -/
theorem run_append_bk {w : World} (ty : TypeId) (base : Nat) (v : Value) (n : Nat) (xs : List Value) (hown : w.ownsRow base 67 3 v n xs) (a : A3) (hn : n ≤ 20971520) (hbase : base ≤ w.heap.size) :
    ∃ v' w', (Builtin.append_ #[39, 39] ty #[v, .slice (some ⟨w.heap.size, 0, none⟩) 1 1]).run Try.prog (w.alloc (.cells #[.int .i64 a.1, .int .i64 a.2.1, .int .i64 a.2.2] 67)) = .ok v' w' ∧ w'.ownsRow base 67 3 v' (n + 1) (xs ++ cellsA [a]) ∧ (w.alloc (.cells #[.int .i64 a.1, .int .i64 a.2.1, .int .i64 a.2.2] 67)).grownBy w' v.ownBlock ∧ (v'.ownBlock = v.ownBlock ∨ v'.ownBlock = some (w.heap.size + 1)) := by
  obtain ⟨i0, hi, hz0, hz1, hz2⟩ := info_parts Try.infoBucket
  obtain ⟨v', w', h1, h2, h3, -, h4⟩ := run_append_own_at (P := Try.prog) (w.alloc (.cells #[.int .i64 a.1, .int .i64 a.2.1, .int .i64 a.2.2] 67)) base 39 ty 67 i0 (.agg #[.int .i64 0, .int .i64 0, .int .i64 0]) 3 24 Try.underlying39 hi hz0 hz1 hz2 rfl (by decide) v n xs (hown.alloc _) ⟨w.heap.size, 0, none⟩ 1 1 (cellsA [a]) rfl (cells3_new _ a _) (cellsA_one _) (by unfold maxLen; omega) (by omega) (by rw [World.size_alloc]; omega)
  rw [World.size_alloc] at h4
  exact ⟨v', w', h1, h2, h3, h4⟩


/-- Arcs of the call's own read as arcs. -/
theorem ownB_is {w : World} {base : Nat} {v : Value} {rs : List A3} (h : w.ownsRow base 67 3 v rs.length (cellsA rs)) : ∃ A cap, v = .slice A rs.length cap ∧ rs.length ≤ cap ∧ cap ≤ maxLen ∧ (0 < rs.length → ∃ g, A = some ⟨g, 0, none⟩ ∧ base ≤ g ∧ OwnAt w g 67 0 (rs.length * 3) (flatA rs)) := by
  rcases h.2 with ⟨h1, h2⟩ | ⟨g, cap, cur, h1, h2, h3, h4, h5, h6, h7⟩
  · exact ⟨none, 0, by rw [h1, h2], by omega, Nat.zero_le _, fun hp => by omega⟩
  · refine ⟨_, cap, h1, h4, h5, fun _ => ⟨g, rfl, h2, cur, h3, by omega, fun i hi => ?_⟩⟩
    have e : (cur.toList.take (rs.length * 3))[i]? = (cellsA rs)[i]? := by rw [h7]
    rw [List.getElem?_take, if_pos hi, Array.getElem?_toList, cellsA_get _ _ hi] at e
    rw [Nat.zero_add, e]

theorem own_formB {w : World} {base : Nat} {e : TypeId} {size n : Nat} {v : Value} {xs : List Value} (h : w.ownsRow base e size v n xs) : ∃ A c, v = .slice A n c := by
  rcases h.2 with ⟨h1, h2⟩ | ⟨g, cap, cur, h1, -⟩
  · exact ⟨none, 0, by rw [h1, h2]⟩
  · exact ⟨_, _, h1⟩
/-- Buckets of the call's own are its answer. -/
def BksMade (w : World) (qs : List A3) (e : Ending) (w' : World) : Prop := ∃ A cap, e = .returned (.slice A qs.length cap) ∧ OwnSl w' w.heap.size 67 A (qs.length * 3) (flatA qs) ∧ Below w.heap.size w w'
theorem bksMade_of {w w' : World} {base : Nat} {qs : List A3} {v : Value} (h : w'.ownsRow base 67 3 v qs.length (cellsA qs)) (hb : w.heap.size ≤ base) (k : Below w.heap.size w w') : BksMade w qs (.returned v) w' := by
  obtain ⟨A, cap, rfl, -, -, hA⟩ := ownB_is h
  exact ⟨A, cap, rfl, (fun hp => by obtain ⟨g, h1, h2, h3⟩ := hA (by omega); exact ⟨g, 0, h1, by omega, h3⟩), k⟩
theorem OwnSl.bks {w : World} {base : Nat} {B : Option Addr} {rs : List A3} (h : OwnSl w base 67 B (rs.length * 3) (flatA rs)) : IsArcs w B rs := fun hp => by
  obtain ⟨g, off, rfl, -, ho⟩ := h (by omega)
  exact ⟨g, off, rfl, ho.lt, fun i hi => ⟨by rw [ho.cell (i := i * 3) (by omega), flatA_0], by rw [show off + i * 3 + 1 = off + (i * 3 + 1) by omega, ho.cell (i := i * 3 + 1) (by omega), flatA_1], by rw [show off + i * 3 + 2 = off + (i * 3 + 2) by omega, ho.cell (i := i * 3 + 2) (by omega), flatA_2]⟩⟩
end Go.Proofs.Ytagaildnfbegkab
