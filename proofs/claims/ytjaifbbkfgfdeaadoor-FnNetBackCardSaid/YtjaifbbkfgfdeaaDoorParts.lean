/-
  What spec.l03Parts computes: a text cut at a sign.
-/
import Derived.Test.YtjaifbbkfgfdeaaDoorReadMath
import Derived.Test.YtjaifbbkfgfdeaaDoorReadWalk
import Derived.Test.YtjaifbbkfgfdeaaDoorNetArcs
namespace Go.Proofs.YtjaifbbkfgfdeaaDoor
open Go.RowKit Go.Deep

theorem Tryd.infoStr : (Tryd.prog.info? 9).map (fun i => (i.zero, i.size, i.bytes)) = some (some (.string ByteArray.empty), 1, 16) := by kernel_rfl

/-- Texts as cells. -/
def strsV (l : List (List UInt8)) : List Value := l.map fun x => Value.string (tx x)
theorem strsV_len (l : List (List UInt8)) : (strsV l).length = l.length := by simp [strsV]
theorem strsV_snoc (l : List (List UInt8)) (x : List UInt8) : strsV (l ++ [x]) = strsV l ++ [Value.string (tx x)] := by simp [strsV]
/-- A slice of texts that was made behind w. -/
def StrsMade (w : World) (l : List (List UInt8)) (e : Ending) (w' : World) : Prop :=
  ∃ v, e = .returned v ∧ w'.ownsRow w.heap.size 9 1 v l.length (strsV l) ∧ Below w.heap.size w w'

theorem extract_tx (s : ByteArray) (a b : Nat) : s.extract a b = tx ((s.data.toList.drop a).take (b - a)) := by
  apply ByteArray.ext
  rw [ByteArray.data_extract]
  apply Array.ext'
  simp [tx, List.take_drop]

theorem drop_cut {l : List UInt8} {c : UInt8} {a k : Nat} (hak : a ≤ k) (hk : l[k]? = some c) : l.drop a = (l.drop a).take (k - a) ++ c :: l.drop (k + 1) := by
  conv => lhs; rw [← List.take_append_drop (k - a) (l.drop a)]
  congr 1
  rw [List.drop_drop, show a + (k - a) = k from by omega]
  obtain ⟨h, e⟩ := List.getElem?_eq_some_iff.1 hk
  rw [List.drop_eq_getElem_cons h, e]
theorem none_of {l : List UInt8} {c : UInt8} {a k : Nat} (h : ∀ j, a ≤ j → j < k → l[j]? ≠ some c) : ∀ b ∈ (l.drop a).take (k - a), b ≠ c := by
  intro b hb e
  subst e
  obtain ⟨i, hi, e⟩ := List.mem_iff_getElem.1 hb
  rw [List.length_take, List.length_drop] at hi
  refine h (a + i) (by omega) (by omega) ?_
  rw [List.getElem_take, List.getElem_drop] at e
  rw [List.getElem?_eq_some_iff]
  exact ⟨by omega, e⟩

/-- What is at hand at the head of the loop: the pieces before 'a', no sign from there up to k. -/
def PartsRel (c : UInt8) (l : List UInt8) (done : List (List UInt8)) (a k : Nat) : Prop :=
  done.length ≤ k ∧ ((k ≤ l.length ∧ a ≤ k ∧ splitL c l = done ++ splitL c (l.drop a) ∧ ∀ j, a ≤ j → j < k → l[j]? ≠ some c) ∨ (k = l.length + 1 ∧ done = splitL c l))
theorem PartsRel.start (c : UInt8) (l : List UInt8) : PartsRel c l [] 0 0 := ⟨by simp, .inl ⟨by omega, by omega, by simp, fun j h1 h2 => by omega⟩⟩
theorem PartsRel.on {c : UInt8} {l : List UInt8} {done : List (List UInt8)} {a k : Nat} (h : PartsRel c l done a k) (hk : k < l.length) (hc : l[k]? ≠ some c) : PartsRel c l done a (k + 1) := by
  obtain ⟨h0, ⟨h1, h2, h3, h4⟩ | ⟨h1, h2⟩⟩ := h
  · refine ⟨by omega, .inl ⟨by omega, by omega, h3, fun j hj1 hj2 => ?_⟩⟩
    by_cases e : j = k
    · rw [e]; exact hc
    · exact h4 j hj1 (by omega)
  · omega
theorem PartsRel.cut {c : UInt8} {l : List UInt8} {done : List (List UInt8)} {a k : Nat} (h : PartsRel c l done a k) (hk : k < l.length) (hc : l[k]? = some c) : PartsRel c l (done ++ [(l.drop a).take (k - a)]) (k + 1) (k + 1) := by
  obtain ⟨h0, ⟨h1, h2, h3, h4⟩ | ⟨h1, h2⟩⟩ := h
  · refine ⟨by simp; omega, .inl ⟨by omega, by omega, ?_, fun j hj1 hj2 => by omega⟩⟩
    have e : splitL c (l.drop a) = (l.drop a).take (k - a) :: splitL c (l.drop (k + 1)) := by
      conv => lhs; rw [drop_cut h2 hc]
      exact splitL_sep c _ _ (none_of h4)
    rw [h3, e]
    simp
  · omega
theorem PartsRel.last {c : UInt8} {l : List UInt8} {done : List (List UInt8)} {a k : Nat} (h : PartsRel c l done a k) (hk : k = l.length) : PartsRel c l (done ++ [(l.drop a).take (k - a)]) (k + 1) (k + 1) := by
  obtain ⟨h0, ⟨h1, h2, h3, h4⟩ | ⟨h1, h2⟩⟩ := h
  · have e : (l.drop a).take (k - a) = l.drop a := List.take_of_length_le (by rw [List.length_drop]; omega)
    have hn := none_of h4
    rw [e] at hn ⊢
    exact ⟨by simp; omega, .inr ⟨by omega, by rw [h3, splitL_none c _ hn]⟩⟩
  · omega
theorem PartsRel.le {c : UInt8} {l : List UInt8} {done : List (List UInt8)} {a k : Nat} (h : PartsRel c l done a k) (hk : k ≤ l.length) : a ≤ k := by
  obtain ⟨h0, ⟨h1, h2, h3, h4⟩ | ⟨h1, h2⟩⟩ := h <;> omega
theorem PartsRel.out {c : UInt8} {l : List UInt8} {done : List (List UInt8)} {a k : Nat} (h : PartsRel c l done a k) (hk : ¬ k ≤ l.length) : done = splitL c l := by
  obtain ⟨h0, ⟨h1, h2, h3, h4⟩ | ⟨h1, h2⟩⟩ := h
  · omega
  · exact h2
theorem PartsRel.top {c : UInt8} {l : List UInt8} {done : List (List UInt8)} {a k : Nat} (h : PartsRel c l done a k) : k ≤ l.length + 1 := by
  obtain ⟨h0, ⟨h1, h2, h3, h4⟩ | ⟨h1, h2⟩⟩ := h <;> omega

theorem byte_at (s : ByteArray) (k : Nat) (h : k < s.size) : s.data.toList[k]? = some s[k] := by
  rw [List.getElem?_eq_some_iff]
  exact ⟨by simpa using h, by simp [ByteArray.getElem_eq_getElem_data]⟩
theorem byte_is {x c : UInt8} : ((x.toNat : Int) == (c.toNat : Int)) = decide (x = c) := by
  by_cases h : x = c
  · subst h; simp
  · rw [decide_eq_false h, beq_eq_false_iff_ne]
    intro e
    exact h (UInt8.toNat_inj.1 (by omega))

set_option maxHeartbeats 2000000 in
theorem l03Parts_any (s : ByteArray) (c : UInt8) (w : World) (hs : s.size ≤ 1048576) :
    Calls Tryd.prog 31 #[.string s, .int .u8 c.toNat] w (StrsMade w (splitL c s.data.toList)) := by
  obtain ⟨i0, hi, hz0, hz1, hz2⟩ := info_parts Tryd.infoStr
  have hsl := Lib.hid (show s.data.toList.length = s.size by rw [Array.length_toList]; rfl)
  have K := below1 w (.cells #[] 9)
  have O : (w.alloc (.cells #[] 9)).ownsRow w.heap.size 9 1 (.slice (some ⟨w.heap.size, 0, none⟩) 0 0) 0 [] :=
    ⟨rfl, .inr ⟨w.heap.size, 0, #[], rfl, by omega, heap_alloc_new w (.cells #[] 9), Nat.le_refl _, Nat.zero_le _, rfl, rfl⟩⟩
  go_enter Tryd.func31, Tryd.ntmps31
  go_wp2
  go_loopw [5, 6, 7] (fun v a i wr => ∃ (done : List (List UInt8)) (x k : Nat), Hid (PartsRel c s.data.toList done x k) ∧ k ≤ s.size + 1 ∧ done.length ≤ k ∧ a = .int .i64 x ∧ i = .int .i64 k ∧ wr.ownsRow w.heap.size 9 1 v done.length (strsV done) ∧ Below w.heap.size w wr) (fun _ _ i _ => s.size + 1 - (intOf i).toNat)
  case atStart => exact ⟨[], 0, 0, PartsRel.start c _, by omega, by simp, rfl, rfl, O, K⟩
  case round =>
    clear O K
    obtain ⟨done, x, k, R, hk, hdl, rfl, rfl, O, K⟩ := hrel
    by_cases hle : k ≤ s.size
    · have hxk : x ≤ k := R.out.le (by rw [hsl.out]; exact hle)
      by_cases hlt : k < s.size
      · have hne : ((k : Int) == (s.size : Int)) = false := by rw [beq_eq_false_iff_ne]; omega
        have HB := Lib.hid (byte_at s k hlt)
        have HC := Lib.hid (byte_is (x := s[k]) (c := c))
        cases h1 : ((s[k].toNat : Int) == (c.toNat : Int)) with
        | false =>
          have R' : Hid (PartsRel c s.data.toList done x (k + 1)) := R.out.on (by rw [hsl.out]; exact hlt) (by rw [HB.out]; intro e; have e2 := HC.out; rw [h1] at e2; exact of_decide_eq_false e2.symm (Option.some.inj e))
          clear R HB HC
          go_wp2
          go_roundw
          case rel => exact ⟨done, x, k + 1, R', by omega, by omega, rfl, by go_num, O, K⟩
          case measure => simp [intOf]; omega
        | true =>
          have R' : Hid (PartsRel c s.data.toList (done ++ [(s.data.toList.drop x).take (k - x)]) (k + 1) (k + 1)) := R.out.cut (by rw [hsl.out]; exact hlt) (by rw [HB.out]; have e2 := HC.out; rw [h1] at e2; rw [of_decide_eq_true e2.symm])
          have HX := Lib.hid (extract_tx s x k)
          clear R HB HC
          go_wp2_with (at_builtin; refine wpList_append_own _ rfl _ _ 63 rfl w.heap.size 9 i0 (.string ByteArray.empty) 1 16 Tryd.underlying63 hi hz0 hz1 hz2 rfl (by decide) _ _ _ rfl (O.alloc _) ⟨wr.heap.size, 0, none⟩ 1 1 [.string (s.extract x k)] rfl rfl ?c1 ?c2 ?c3 ?c4 ?c5 ?_)
          case c1 => exact cell_one_new _ _ _
          case c2 => intro u hu; simp at hu; subst hu; rfl
          case c3 => unfold maxLen; omega
          case c4 => omega
          case c5 => have := K.size; simp; omega
          · intro v' w4 own4 g4 _
            have hown := ownsRow_block O
            have K4 := (K.alloc K.size (.cells #[.string (s.extract x k)] 9)).grown g4 (by have := K.size; simp; omega) (fun g e => hown g e)
            have O4 : w4.ownsRow w.heap.size 9 1 v' (done ++ [(s.data.toList.drop x).take (k - x)]).length (strsV (done ++ [(s.data.toList.drop x).take (k - x)])) := by
              rw [strsV_snoc, ← HX.out]; simpa using own4
            clear own4 g4 O HX
            go_wp2
            go_roundw
            case rel => exact ⟨_, k + 1, k + 1, R', by omega, by simp; omega, by go_num, by go_num, O4, K4⟩
            case measure => simp [intOf]; omega
      · obtain rfl : k = s.size := by omega
        have R' : Hid (PartsRel c s.data.toList (done ++ [(s.data.toList.drop x).take (s.size - x)]) (s.size + 1) (s.size + 1)) := R.out.last hsl.out.symm
        have HX := Lib.hid (extract_tx s x s.size)
        clear R hlt
        go_wp2_with (at_builtin; refine wpList_append_own _ rfl _ _ 63 rfl w.heap.size 9 i0 (.string ByteArray.empty) 1 16 Tryd.underlying63 hi hz0 hz1 hz2 rfl (by decide) _ _ _ rfl (O.alloc _) ⟨wr.heap.size, 0, none⟩ 1 1 [.string (s.extract x s.size)] rfl rfl ?c1 ?c2 ?c3 ?c4 ?c5 ?_)
        case c1 => exact cell_one_new _ _ _
        case c2 => intro u hu; simp at hu; subst hu; rfl
        case c3 => unfold maxLen; omega
        case c4 => omega
        case c5 => have := K.size; simp; omega
        · intro v' w4 own4 g4 _
          have hown := ownsRow_block O
          have K4 := (K.alloc K.size (.cells #[.string (s.extract x s.size)] 9)).grown g4 (by have := K.size; simp; omega) (fun g e => hown g e)
          have O4 : w4.ownsRow w.heap.size 9 1 v' (done ++ [(s.data.toList.drop x).take (s.size - x)]).length (strsV (done ++ [(s.data.toList.drop x).take (s.size - x)])) := by
            rw [strsV_snoc, ← HX.out]; simpa using own4
          clear own4 g4 O HX
          go_wp2
          go_roundw
          case rel => exact ⟨_, s.size + 1, s.size + 1, R', by omega, by simp; omega, by go_num, by go_num, O4, K4⟩
          case measure => simp [intOf]
    · have HE := Lib.hid (R.out.out (by rw [hsl.out]; exact hle))
      clear R
      go_wp2
      go_ret
      rw [← HE.out]
      exact ⟨_, rfl, O, K⟩

end Go.Proofs.YtjaifbbkfgfdeaaDoor
