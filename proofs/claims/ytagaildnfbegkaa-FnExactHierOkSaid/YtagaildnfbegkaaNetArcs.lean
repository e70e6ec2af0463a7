/-
  What spec.ArcAt, spec.Outs and spec.Ins compute.
-/
import Derived.Test.YtagaildnfbegkaaNetSpec
import Derived.Test.YtagaildnfbegkaaMarks
import Derived.Test.YtagaildnfbegkaaSlices
import Derived.Maps.AppendAt
namespace Go.Proofs.Ytagaildnfbegkaa
open Go.RowKit Go.Deep

/-- The index of the first arc from u to v, -1 where there is none (in a valid network). -/
def hit (rs : List (Int × Int × Int)) (u v : Int) (i : Nat) : Bool := (arg rs i).1 == u && (arg rs i).2.1 == v
def findA (rs : List (Int × Int × Int)) (u v : Int) : Int := match (List.range rs.length).find? (hit rs u v) with
  | some i => i
  | none => -1
def arcAt (ps : List (Int × Int)) (rs : List (Int × Int × Int)) (u v : Int) : Int := if netB ps rs = true then findA rs u v else -1

theorem findA_hit {rs : List (Int × Int × Int)} {u v : Int} {k : Nat} (hk : k < rs.length) (h : hit rs u v k = true) (hno : ∀ i, i < k → hit rs u v i = false) : findA rs u v = k := by
  have e : (List.range rs.length).find? (hit rs u v) = some k := by
    rw [List.find?_range_eq_some]
    exact ⟨h, List.mem_range.2 hk, fun i hi => by rw [hno i hi]; rfl⟩
  unfold findA; rw [e]
theorem findA_none {rs : List (Int × Int × Int)} {u v : Int} (hno : ∀ i, i < rs.length → hit rs u v i = false) : findA rs u v = -1 := by
  have e : (List.range rs.length).find? (hit rs u v) = none := by
    rw [List.find?_range_eq_none]
    exact fun i hi => by rw [hno i hi]; rfl
  unfold findA; rw [e]

/-- The indices of the arcs from u (to u), ascending. -/
def outL (rs : List (Int × Int × Int)) (u : Int) (k : Nat) : List Int := ((List.range k).filter (fun i => (arg rs i).1 == u)).map Int.ofNat
def inL (rs : List (Int × Int × Int)) (u : Int) (k : Nat) : List Int := ((List.range k).filter (fun i => (arg rs i).2.1 == u)).map Int.ofNat
theorem outL_succ (rs : List (Int × Int × Int)) (u : Int) (k : Nat) : outL rs u (k + 1) = if ((arg rs k).1 == u) = true then outL rs u k ++ [(k : Int)] else outL rs u k := by
  unfold outL; rw [List.range_succ, List.filter_append]
  cases h : (arg rs k).1 == u <;> simp [h]
theorem inL_succ (rs : List (Int × Int × Int)) (u : Int) (k : Nat) : inL rs u (k + 1) = if ((arg rs k).2.1 == u) = true then inL rs u k ++ [(k : Int)] else inL rs u k := by
  unfold inL; rw [List.range_succ, List.filter_append]
  cases h : (arg rs k).2.1 == u <;> simp [h]
theorem outL_len (rs : List (Int × Int × Int)) (u : Int) (k : Nat) : (outL rs u k).length ≤ k := by
  unfold outL; rw [List.length_map]; have := List.length_filter_le (fun i => (arg rs i).1 == u) (List.range k); simpa using this
theorem inL_len (rs : List (Int × Int × Int)) (u : Int) (k : Nat) : (inL rs u k).length ≤ k := by
  unfold inL; rw [List.length_map]; have := List.length_filter_le (fun i => (arg rs i).2.1 == u) (List.range k); simpa using this

theorem ownsRow_below {w w' : World} {base : Nat} {e : TypeId} {size : Nat} {v : Value} {n : Nat} {xs : List Value} (h : w.ownsRow base e size v n xs) (hb : Below w.heap.size w w') : w'.ownsRow base e size v n xs := by
  refine ⟨h.1, ?_⟩
  rcases h.2 with h | ⟨g, cap, cur, h1, h2, h3, h4⟩
  · exact .inl h
  · exact .inr ⟨g, cap, cur, h1, h2, (hb.block g (Array.getElem?_eq_some_iff.1 h3).1).trans h3, h4⟩
theorem ownsRow_base {w : World} {base base' : Nat} {e : TypeId} {size : Nat} {v : Value} {n : Nat} {xs : List Value} (h : w.ownsRow base e size v n xs) (hb : base' ≤ base) : w.ownsRow base' e size v n xs := by
  refine ⟨h.1, ?_⟩
  rcases h.2 with h | ⟨g, cap, cur, h1, h2, h3⟩
  · exact .inl h
  · exact .inr ⟨g, cap, cur, h1, Nat.le_trans hb h2, h3⟩
theorem ownsRow_block {w : World} {base : Nat} {e : TypeId} {size : Nat} {v : Value} {n : Nat} {xs : List Value} (h : w.ownsRow base e size v n xs) : ∀ g, v.ownBlock = some g → base ≤ g := by
  intro g hg
  rcases h.2 with ⟨rfl, _⟩ | ⟨g', cap', cur, rfl, h2, _⟩
  · simp [Value.ownBlock] at hg
  · simp [Value.ownBlock] at hg; omega
theorem Pair.grownUp {w w' : World} {b : Nat} {t : TypeId} {u v : Value} {r : Option Nat} (h : Pair w b t u v) (hg : w.grownBy w' r) (hr : ∀ g, r = some g → b < g) : Pair w' b t u v := (hg.block b h.lt (fun e => by have := hr b e.symm; omega)).trans h

/-- A slice of numbers of the call's own. -/
def IntsMade (w : World) (zs : List Int) (e : Ending) (w' : World) : Prop :=
  ∃ A cap, e = .returned (.slice A zs.length cap) ∧ zs.length ≤ cap ∧ OwnSl w' w.heap.size 3 A zs.length (zg zs) ∧ Below w.heap.size w w'
theorem ownSl_of_own {w : World} {base : Nat} {v : Value} {zs : List Int} (h : w.ownsRow base 3 1 v zs.length (zs.map (Value.int .i64))) : ∃ A cap, v = .slice A zs.length cap ∧ zs.length ≤ cap ∧ OwnSl w base 3 A zs.length (zg zs) := by
  rcases h.2 with ⟨h1, h2⟩ | ⟨g, cap, cur, h1, h2, h3, h4, h5, h6, h7⟩
  · exact ⟨none, 0, by rw [h1, h2], by omega, fun hp => by omega⟩
  · refine ⟨_, cap, h1, h4, fun _ => ⟨g, 0, rfl, h2, cur, h3, by omega, fun i hi => ?_⟩⟩
    have e : (cur.toList.take (zs.length * 1))[i]? = (zs.map (Value.int .i64))[i]? := by rw [h7]
    rw [List.getElem?_take, if_pos (by omega), Array.getElem?_toList] at e
    rw [Nat.zero_add, e]
    simp [hi, zg]
theorem intsMade_of {w w' : World} {zs : List Int} {v : Value} (h : w'.ownsRow w.heap.size 3 1 v zs.length (zs.map (Value.int .i64))) (hb : Below w.heap.size w w') : IntsMade w zs (.returned v) w' := by
  obtain ⟨A, cap, rfl, h1, h2⟩ := ownSl_of_own h
  exact ⟨A, cap, rfl, h1, h2, hb⟩
theorem OwnSl.ints {w : World} {base : Nat} {A : Option Addr} {zs : List Int} (h : OwnSl w base 3 A zs.length (zg zs)) : IsInts w A zs := fun hp => by
  obtain ⟨g, off, rfl, -, ho⟩ := h hp
  exact ⟨g, off, rfl, ho.lt, fun i hi => ho.cell hi⟩

/-- What is at hand at the head of the loop. -/
def OutsRel (w wr : World) (A B : Option Addr) (n ca m cb : Nat) (rs : List (Int × Int × Int)) (u : Int) (v : Value) (k : Nat) : Prop :=
  wr.ownsRow (w.heap.size + 1) 3 1 v (outL rs u k).length ((outL rs u k).map (Value.int .i64)) ∧ Pair wr w.heap.size 49 (.slice A n ca) (.slice B m cb) ∧ Below w.heap.size w wr

set_option maxHeartbeats 2000000 in
theorem specOuts_yes (A B : Option Addr) (ca cb : Nat) (ps : List (Int × Int)) (rs : List (Int × Int × Int)) (u : Int) (w : World) (hn : ps.length ≤ 1048576) (hm : rs.length ≤ 1048576) (ha : IsPts w A ps) (hb : IsArcs w B rs) (hok : netB ps rs = true) :
    Calls Try.prog 113 #[.agg #[.slice A ps.length ca, .slice B rs.length cb], .int .i64 u] w (IntsMade w (outL rs u rs.length)) := by
  obtain ⟨i0, hi, hz0, hz1, hz2⟩ := info_parts Try.infoInt
  have X := (Pair.new w 49 (.slice A ps.length ca) (.slice B rs.length cb)).alloc (.cells #[] 3)
  have K := below2 w (.cells #[.slice A ps.length ca, .slice B rs.length cb] 49) (.cells #[] 3)
  have O : ((w.alloc (.cells #[.slice A ps.length ca, .slice B rs.length cb] 49)).alloc (.cells #[] 3)).ownsRow (w.heap.size + 1) 3 1 (.slice (some ⟨w.heap.size + 1, 0, none⟩) 0 0) 0 [] :=
    ⟨rfl, .inr ⟨w.heap.size + 1, 0, #[], rfl, by omega, by have := heap_alloc_new (w.alloc (.cells #[.slice A ps.length ca, .slice B rs.length cb] 49)) (.cells #[] 3); simpa using this, Nat.le_refl _, Nat.zero_le _, rfl, rfl⟩⟩
  have R0 : OutsRel w ((w.alloc (.cells #[.slice A ps.length ca, .slice B rs.length cb] 49)).alloc (.cells #[] 3)) A B ps.length ca rs.length cb rs u (.slice (some ⟨w.heap.size + 1, 0, none⟩) 0 0) 0 := ⟨O, X, K⟩
  clear X K O
  go_enter Try.func113, Try.ntmps113
  go_wp2
  go_loopw [5, 6] (fun v i wr => ∃ k : Nat, k ≤ rs.length ∧ i = .int .i64 k ∧ OutsRel w wr A B ps.length ca rs.length cb rs u v k) (fun _ i _ => rs.length - (intOf i).toNat)
  case atStart => exact ⟨0, by omega, rfl, R0⟩
  case round =>
    clear R0
    obtain ⟨k, hk, rfl, O, X, K⟩ := hrel
    obtain ⟨x0, x1, -, -⟩ := X.cells
    by_cases hlt : k < rs.length
    · go_wp2_with fail
      clear x0 x1
      refine (specNetOk_any A B ca cb ps rs _ hn hm (ha.below K) (hb.below K)).mono ?_; rintro e w1 ⟨rfl, b1⟩
      replace X := X.below b1
      replace O := ownsRow_below O b1
      replace K := K.trans (b1.mono K.size)
      clear b1
      obtain ⟨x0, x1, -, -⟩ := X.cells
      obtain ⟨b, off, rfl, -, c0, c1, c2⟩ := (hb.below K).at_ hlt
      have HS := Lib.hid (outL_succ rs u k)
      have hlen := outL_len rs u k
      cases h1 : (arg rs k).1 == u with
      | false =>
        have HS2 := Lib.hid (show outL rs u (k + 1) = outL rs u k by rw [HS.out, h1]; rfl)
        go_wp2
        go_roundw
        case rel => exact ⟨k + 1, by omega, by go_num, by rw [HS2.out]; exact O, X, K⟩
        case measure => simp [intOf]; omega
      | true =>
        have HS2 := Lib.hid (show outL rs u (k + 1) = outL rs u k ++ [(k : Int)] by rw [HS.out, h1]; rfl)
        clear HS
        go_wp2_with (at_builtin; refine wpList_append_own _ rfl _ _ 24 rfl (w.heap.size + 1) 3 i0 (.int .i64 0) 1 8 Try.underlying24 hi hz0 hz1 hz2 rfl (by decide) _ _ _ rfl (O.alloc _) ⟨w1.heap.size, 0, none⟩ 1 1 [.int .i64 k] rfl rfl ?c1 ?c2 ?c3 ?c4 ?c5 ?_)
        case c1 => exact cell_one_new _ _ _
        case c2 => intro u hu; simp at hu; subst hu; rfl
        case c3 => unfold maxLen; omega
        case c4 => omega
        case c5 => have := X.lt; simp; omega
        · intro v' w4 own4 g4 _
          have hown := ownsRow_block O
          have R : OutsRel w w4 A (some ⟨b, off, none⟩) ps.length ca rs.length cb rs u v' (k + 1) := by
            refine ⟨?_, (X.alloc _).grownUp g4 (fun g e => by have := hown g e; omega), (K.alloc K.size _).grown g4 (by have := K.size; simp; omega) (fun g e => by have := hown g e; omega)⟩
            rw [HS2.out]; simpa using own4
          clear own4 g4 O x0 x1
          go_wp2
          go_roundw
          case rel => exact ⟨k + 1, by omega, by go_num, R⟩
          case measure => simp [intOf]; omega
    · obtain rfl : k = rs.length := by omega
      clear hk hlt
      go_wp2
      go_ret
      exact intsMade_of (ownsRow_base O (by omega)) K

set_option maxHeartbeats 2000000 in
theorem specOuts_no (A B : Option Addr) (ca cb : Nat) (ps : List (Int × Int)) (rs : List (Int × Int × Int)) (u : Int) (w : World) (hn : ps.length ≤ 1048576) (hm : rs.length ≤ 1048576) (ha : IsPts w A ps) (hb : IsArcs w B rs) (hok : netB ps rs = false) :
    Calls Try.prog 113 #[.agg #[.slice A ps.length ca, .slice B rs.length cb], .int .i64 u] w (IntsMade w []) := by
  have K := below2 w (.cells #[.slice A ps.length ca, .slice B rs.length cb] 49) (.cells #[] 3)
  have O : ((w.alloc (.cells #[.slice A ps.length ca, .slice B rs.length cb] 49)).alloc (.cells #[] 3)).ownsRow w.heap.size 3 1 (.slice (some ⟨w.heap.size + 1, 0, none⟩) 0 0) 0 [] :=
    ⟨rfl, .inr ⟨w.heap.size + 1, 0, #[], rfl, by omega, by have := heap_alloc_new (w.alloc (.cells #[.slice A ps.length ca, .slice B rs.length cb] 49)) (.cells #[] 3); simpa using this, Nat.le_refl _, Nat.zero_le _, rfl, rfl⟩⟩
  by_cases h0 : 0 < rs.length
  · go_enter Try.func113, Try.ntmps113
    go_wp2
    refine wp_loop_rounds 1 ?_; rw [rounds_succ]
    go_wp2_with fail
    refine (specNetOk_any A B ca cb ps rs _ hn hm (ha.below K) (hb.below K)).mono ?_; rintro e w1 ⟨rfl, b1⟩
    replace O := ownsRow_below O b1
    have k1 := K.trans (b1.mono K.size)
    go_wp2
    go_ret
    exact intsMade_of (zs := []) O k1
  · have hd : decide ((0 : Int) < rs.length) = false := decide_eq_false (by omega)
    have hd1 : decide (0 < rs.length) = false := decide_eq_false (by omega)
    go_enter Try.func113, Try.ntmps113
    go_wp2
    refine wp_loop_rounds 1 ?_; rw [rounds_succ]
    go_wp2
    go_ret
    exact intsMade_of (zs := []) O K

/-- What Outs answers: nothing in a network that is not valid. -/
def outs (ps : List (Int × Int)) (rs : List (Int × Int × Int)) (u : Int) : List Int := if netB ps rs = true then outL rs u rs.length else []
theorem specOuts_any (A B : Option Addr) (ca cb : Nat) (ps : List (Int × Int)) (rs : List (Int × Int × Int)) (u : Int) (w : World) (hn : ps.length ≤ 1048576) (hm : rs.length ≤ 1048576) (ha : IsPts w A ps) (hb : IsArcs w B rs) :
    Calls Try.prog 113 #[.agg #[.slice A ps.length ca, .slice B rs.length cb], .int .i64 u] w (IntsMade w (outs ps rs u)) := by
  unfold outs
  cases hok : netB ps rs with
  | false => exact specOuts_no A B ca cb ps rs u w hn hm ha hb hok
  | true => exact specOuts_yes A B ca cb ps rs u w hn hm ha hb hok

/-- What is at hand at the head of the loop. -/
def InsRel (w wr : World) (A B : Option Addr) (n ca m cb : Nat) (rs : List (Int × Int × Int)) (u : Int) (v : Value) (k : Nat) : Prop :=
  wr.ownsRow (w.heap.size + 1) 3 1 v (inL rs u k).length ((inL rs u k).map (Value.int .i64)) ∧ Pair wr w.heap.size 49 (.slice A n ca) (.slice B m cb) ∧ Below w.heap.size w wr

set_option maxHeartbeats 2000000 in
theorem specIns_yes (A B : Option Addr) (ca cb : Nat) (ps : List (Int × Int)) (rs : List (Int × Int × Int)) (u : Int) (w : World) (hn : ps.length ≤ 1048576) (hm : rs.length ≤ 1048576) (ha : IsPts w A ps) (hb : IsArcs w B rs) (hok : netB ps rs = true) :
    Calls Try.prog 112 #[.agg #[.slice A ps.length ca, .slice B rs.length cb], .int .i64 u] w (IntsMade w (inL rs u rs.length)) := by
  obtain ⟨i0, hi, hz0, hz1, hz2⟩ := info_parts Try.infoInt
  have X := (Pair.new w 49 (.slice A ps.length ca) (.slice B rs.length cb)).alloc (.cells #[] 3)
  have K := below2 w (.cells #[.slice A ps.length ca, .slice B rs.length cb] 49) (.cells #[] 3)
  have O : ((w.alloc (.cells #[.slice A ps.length ca, .slice B rs.length cb] 49)).alloc (.cells #[] 3)).ownsRow (w.heap.size + 1) 3 1 (.slice (some ⟨w.heap.size + 1, 0, none⟩) 0 0) 0 [] :=
    ⟨rfl, .inr ⟨w.heap.size + 1, 0, #[], rfl, by omega, by have := heap_alloc_new (w.alloc (.cells #[.slice A ps.length ca, .slice B rs.length cb] 49)) (.cells #[] 3); simpa using this, Nat.le_refl _, Nat.zero_le _, rfl, rfl⟩⟩
  have R0 : InsRel w ((w.alloc (.cells #[.slice A ps.length ca, .slice B rs.length cb] 49)).alloc (.cells #[] 3)) A B ps.length ca rs.length cb rs u (.slice (some ⟨w.heap.size + 1, 0, none⟩) 0 0) 0 := ⟨O, X, K⟩
  clear X K O
  go_enter Try.func112, Try.ntmps112
  go_wp2
  go_loopw [5, 6] (fun v i wr => ∃ k : Nat, k ≤ rs.length ∧ i = .int .i64 k ∧ InsRel w wr A B ps.length ca rs.length cb rs u v k) (fun _ i _ => rs.length - (intOf i).toNat)
  case atStart => exact ⟨0, by omega, rfl, R0⟩
  case round =>
    clear R0
    obtain ⟨k, hk, rfl, O, X, K⟩ := hrel
    obtain ⟨x0, x1, -, -⟩ := X.cells
    by_cases hlt : k < rs.length
    · go_wp2_with fail
      clear x0 x1
      refine (specNetOk_any A B ca cb ps rs _ hn hm (ha.below K) (hb.below K)).mono ?_; rintro e w1 ⟨rfl, b1⟩
      replace X := X.below b1
      replace O := ownsRow_below O b1
      replace K := K.trans (b1.mono K.size)
      clear b1
      obtain ⟨x0, x1, -, -⟩ := X.cells
      obtain ⟨b, off, rfl, -, c0, c1, c2⟩ := (hb.below K).at_ hlt
      have HS := Lib.hid (inL_succ rs u k)
      have hlen := inL_len rs u k
      cases h1 : (arg rs k).2.1 == u with
      | false =>
        have HS2 := Lib.hid (show inL rs u (k + 1) = inL rs u k by rw [HS.out, h1]; rfl)
        go_wp2
        go_roundw
        case rel => exact ⟨k + 1, by omega, by go_num, by rw [HS2.out]; exact O, X, K⟩
        case measure => simp [intOf]; omega
      | true =>
        have HS2 := Lib.hid (show inL rs u (k + 1) = inL rs u k ++ [(k : Int)] by rw [HS.out, h1]; rfl)
        clear HS
        go_wp2_with (at_builtin; refine wpList_append_own _ rfl _ _ 24 rfl (w.heap.size + 1) 3 i0 (.int .i64 0) 1 8 Try.underlying24 hi hz0 hz1 hz2 rfl (by decide) _ _ _ rfl (O.alloc _) ⟨w1.heap.size, 0, none⟩ 1 1 [.int .i64 k] rfl rfl ?c1 ?c2 ?c3 ?c4 ?c5 ?_)
        case c1 => exact cell_one_new _ _ _
        case c2 => intro u hu; simp at hu; subst hu; rfl
        case c3 => unfold maxLen; omega
        case c4 => omega
        case c5 => have := X.lt; simp; omega
        · intro v' w4 own4 g4 _
          have hown := ownsRow_block O
          have R : InsRel w w4 A (some ⟨b, off, none⟩) ps.length ca rs.length cb rs u v' (k + 1) := by
            refine ⟨?_, (X.alloc _).grownUp g4 (fun g e => by have := hown g e; omega), (K.alloc K.size _).grown g4 (by have := K.size; simp; omega) (fun g e => by have := hown g e; omega)⟩
            rw [HS2.out]; simpa using own4
          clear own4 g4 O x0 x1
          go_wp2
          go_roundw
          case rel => exact ⟨k + 1, by omega, by go_num, R⟩
          case measure => simp [intOf]; omega
    · obtain rfl : k = rs.length := by omega
      clear hk hlt
      go_wp2
      go_ret
      exact intsMade_of (ownsRow_base O (by omega)) K

set_option maxHeartbeats 2000000 in
theorem specIns_no (A B : Option Addr) (ca cb : Nat) (ps : List (Int × Int)) (rs : List (Int × Int × Int)) (u : Int) (w : World) (hn : ps.length ≤ 1048576) (hm : rs.length ≤ 1048576) (ha : IsPts w A ps) (hb : IsArcs w B rs) (hok : netB ps rs = false) :
    Calls Try.prog 112 #[.agg #[.slice A ps.length ca, .slice B rs.length cb], .int .i64 u] w (IntsMade w []) := by
  have K := below2 w (.cells #[.slice A ps.length ca, .slice B rs.length cb] 49) (.cells #[] 3)
  have O : ((w.alloc (.cells #[.slice A ps.length ca, .slice B rs.length cb] 49)).alloc (.cells #[] 3)).ownsRow w.heap.size 3 1 (.slice (some ⟨w.heap.size + 1, 0, none⟩) 0 0) 0 [] :=
    ⟨rfl, .inr ⟨w.heap.size + 1, 0, #[], rfl, by omega, by have := heap_alloc_new (w.alloc (.cells #[.slice A ps.length ca, .slice B rs.length cb] 49)) (.cells #[] 3); simpa using this, Nat.le_refl _, Nat.zero_le _, rfl, rfl⟩⟩
  by_cases h0 : 0 < rs.length
  · go_enter Try.func112, Try.ntmps112
    go_wp2
    refine wp_loop_rounds 1 ?_; rw [rounds_succ]
    go_wp2_with fail
    refine (specNetOk_any A B ca cb ps rs _ hn hm (ha.below K) (hb.below K)).mono ?_; rintro e w1 ⟨rfl, b1⟩
    replace O := ownsRow_below O b1
    have k1 := K.trans (b1.mono K.size)
    go_wp2
    go_ret
    exact intsMade_of (zs := []) O k1
  · have hd : decide ((0 : Int) < rs.length) = false := decide_eq_false (by omega)
    have hd1 : decide (0 < rs.length) = false := decide_eq_false (by omega)
    go_enter Try.func112, Try.ntmps112
    go_wp2
    refine wp_loop_rounds 1 ?_; rw [rounds_succ]
    go_wp2
    go_ret
    exact intsMade_of (zs := []) O K

/-- What Ins answers: nothing in a network that is not valid. -/
def ins (ps : List (Int × Int)) (rs : List (Int × Int × Int)) (u : Int) : List Int := if netB ps rs = true then inL rs u rs.length else []
theorem specIns_any (A B : Option Addr) (ca cb : Nat) (ps : List (Int × Int)) (rs : List (Int × Int × Int)) (u : Int) (w : World) (hn : ps.length ≤ 1048576) (hm : rs.length ≤ 1048576) (ha : IsPts w A ps) (hb : IsArcs w B rs) :
    Calls Try.prog 112 #[.agg #[.slice A ps.length ca, .slice B rs.length cb], .int .i64 u] w (IntsMade w (ins ps rs u)) := by
  unfold ins
  cases hok : netB ps rs with
  | false => exact specIns_no A B ca cb ps rs u w hn hm ha hb hok
  | true => exact specIns_yes A B ca cb ps rs u w hn hm ha hb hok

end Go.Proofs.Ytagaildnfbegkaa
