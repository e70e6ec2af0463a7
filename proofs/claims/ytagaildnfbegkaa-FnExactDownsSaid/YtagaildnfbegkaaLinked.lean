/-
  What slices.Grow (of nothing), slices.Concat (of two), spec.Linked and impl.Linked compute: one list behind the other.
-/
import Derived.Test.YtagaildnfbegkaaSlices
import Derived.Test.YtagaildnfbegkaaNetArcs
import Derived.Maps.AppendAt
import Derived.Lib.AppendZeros
import Derived.Deep.Upon
import Derived.Deep.AppendLies
namespace Go.Proofs.Ytagaildnfbegkaa
open Go.RowKit Go.Deep

/-- Whether two lists can be linked. -/
def lnkB (xs ys : List Int) : Bool := decide (0 < xs.length) && decide (0 < ys.length) && decide (zg xs (xs.length - 1) = zg ys 0)
/-- The first list, then the second without its first element. -/
def lnk (xs ys : List Int) : List Int := if lnkB xs ys = true then xs ++ ys.drop 1 else []

theorem lnk_len (xs ys : List Int) : (lnk xs ys).length ≤ xs.length + ys.length := by
  unfold lnk; split
  · rw [List.length_append, List.length_drop]; omega
  · simp

/-- A list of the call's own and whether there is one. -/
def LnkMade (w : World) (zs : List Int) (b : Bool) (e : Ending) (w' : World) : Prop :=
  ∃ A cap, e = .returned (.tuple #[.slice A zs.length cap, .bool b]) ∧ zs.length ≤ cap ∧ OwnSl w' w.heap.size 3 A zs.length (zg zs) ∧ Below w.heap.size w w'

theorem lnkMade_no {w w' : World} {xs ys : List Int} (h : lnkB xs ys = false) (A : Option Addr) (c : Nat) (K : Below w.heap.size w w') : LnkMade w (lnk xs ys) (lnkB xs ys) (.returned (.tuple #[.slice A 0 c, .bool false])) w' := by
  have e : lnk xs ys = [] := by unfold lnk; rw [h]; simp
  rw [e, h]
  exact ⟨A, c, rfl, Nat.zero_le _, fun hp => by simp at hp, K⟩

theorem lnkMade_yes {w w' : World} {xs ys zs : List Int} {v : Value} (h : lnkB xs ys = true) (hz : zs = lnk xs ys) (own : w'.ownsRow w.heap.size 3 1 v zs.length (zs.map (Value.int .i64))) (K : Below w.heap.size w w') : LnkMade w (lnk xs ys) (lnkB xs ys) (.returned (.tuple #[v, .bool true])) w' := by
  obtain ⟨A, cap, rfl, h1, h2⟩ := ownSl_of_own own
  subst hz; rw [h]
  exact ⟨A, cap, rfl, h1, h2, K⟩

theorem add_at (b off j : Nat) : (⟨b, off, none⟩ : Addr).add j = ⟨b, off + j, none⟩ := by
  unfold Addr.add; split <;> simp_all

set_option maxRecDepth 100000 in
/-- Numbers appended to a row that is one's own, out of any slice. -/
theorem run_append_ints {w : World} (ty : TypeId) (base : Nat) (v : Value) (n : Nat) (xs : List Value) (hown : w.ownsRow base 3 1 v n xs) (A : Option Addr) (m c : Nat) (zs : List Int) (hm : zs.length = m) (hA : IsInts w A zs)
    (h63 : n + m ≤ 4194304) (hbase : base ≤ w.heap.size) :
    ∃ v' w', (Builtin.append_ #[24, 24] ty #[v, .slice A m c]).run Try.prog w = .ok v' w' ∧ w'.ownsRow base 3 1 v' (n + m) (xs ++ zs.map (Value.int .i64)) ∧ w.grownBy w' v.ownBlock := by
  obtain ⟨i0, hi, hz0, hz1, hz2⟩ := info_parts Try.infoInt
  subst hm
  rcases Nat.eq_zero_or_pos zs.length with h0 | hp
  · obtain rfl := List.eq_nil_of_length_eq_zero h0
    cases A with
    | none =>
      obtain ⟨a0, cap0, rfl, hle⟩ : ∃ a0 cap0, v = .slice a0 n cap0 ∧ n ≤ cap0 := by
        rcases hown.2 with ⟨h1, h2⟩ | ⟨g, cap, cur, h1, h2, h3, h4, _⟩
        · exact ⟨none, 0, by rw [h1, h2], by omega⟩
        · exact ⟨_, cap, h1, h4⟩
      refine ⟨_, w, run_append_nothing w 24 24 ty 3 i0 Try.underlying24 hi a0 n cap0 hle _ (Src.ofNil w Try.underlying24 c), ?_, ⟨rfl, rfl, rfl, Nat.le_refl _, fun _ _ _ => rfl⟩⟩
      simpa using hown
    | some a =>
      obtain ⟨v', w', h1, h2, h3, -⟩ := run_append_own_at (P := Try.prog) w base 24 ty 3 i0 (.int .i64 0) 1 8 Try.underlying24 hi hz0 hz1 hz2 rfl (by decide) v n xs hown a 0 c [] rfl (fun j u h => by simp at h) (fun u h => by cases h) (by unfold maxLen; simp at h63; omega) (by simp at h63; omega) hbase
      exact ⟨v', w', h1, h2, h3⟩
  · obtain ⟨b, off, rfl, hb, hc⟩ := hA hp
    obtain ⟨v', w', h1, h2, h3, -⟩ := run_append_own_at (P := Try.prog) w base 24 ty 3 i0 (.int .i64 0) 1 8 Try.underlying24 hi hz0 hz1 hz2 rfl (by decide) v n xs hown ⟨b, off, none⟩ zs.length c (zs.map (Value.int .i64)) (by simp)
      (fun j u h => by
        obtain ⟨x, hx, rfl⟩ : ∃ x, zs[j]? = some x ∧ .int .i64 x = u := by simpa using h
        have hj : j < zs.length := (List.getElem?_eq_some_iff.1 hx).1
        have e : zg zs j = x := by unfold zg; rw [List.getD_eq_getElem?_getD, hx]; rfl
        rw [← e, ← hc j hj]
        exact congrArg w.cell? (add_at b off j))
      (fun u h => by obtain ⟨x, -, rfl⟩ := List.mem_map.1 h; rfl) (by unfold maxLen; omega) (by omega) hbase
    exact ⟨v', w', h1, h2, h3⟩

theorem step_append_run {P : Program} {w : World} {ops : Array Oper} {o : Oper} {a : Act} {K : Act → World → Prop} {Q : Exit → Act → World → Prop} {E : Prop} (hgd : o.guard = none) (s x : Operand) (t tn : TypeId)
    (ho : o.op = .call { callee := .builtin .append, args := #[s, x], argTypes := #[t, tn] }) (vs vx : Value) (hs : a.eval s = vs) (hx : a.eval x = vx)
    (v' : Value) (w' : World) (hr : (Builtin.append_ #[t, tn] o.type #[vs, vx]).run P w = .ok v' w') (h : K (a.put o.dst v') w') :
    if Region.wanted o (yielded ops a.tmps) = true then Oper.wp P o a w K Q else E := by
  have hw : Region.wanted o (yielded ops a.tmps) = true := by simp [Region.wanted, hgd]
  rw [if_pos hw]
  exact Lib.wp_append_run w s x t tn ho vs vx hs hx v' w' hr h

/-- A row of one's own, made by slices.Grow of nothing. -/
def GrowMade (w : World) (e : Ending) (w' : World) : Prop := ∃ v, e = .returned v ∧ w'.ownsRow w.heap.size 3 1 v 0 [] ∧ Below w.heap.size w w'

/-- How far the lengths of two lists are summed. -/
def Sum2 (a b : Nat) (s i : Value) : Prop :=
  (i = .int .i64 0 ∧ s = .int .i64 0) ∨ (i = .int .i64 1 ∧ s = .int .i64 (a : Int)) ∨ (i = .int .i64 2 ∧ s = .int .i64 ((a + b : Nat) : Int))
/-- How far two lists are appended. -/
def Cat2 (w : World) (xs ys : List Int) (v i : Value) (wr : World) : Prop :=
  ((i = .int .i64 0 ∧ wr.ownsRow w.heap.size 3 1 v 0 []) ∨ (i = .int .i64 1 ∧ wr.ownsRow w.heap.size 3 1 v xs.length (xs.map (Value.int .i64))) ∨
    (i = .int .i64 2 ∧ wr.ownsRow w.heap.size 3 1 v (xs ++ ys).length ((xs ++ ys).map (Value.int .i64)))) ∧ Below w.heap.size w wr

theorem lnkMade_elder {w w1 w2 : World} {xs ys zs : List Int} {A : Option Addr} {cap : Nat} (h : lnkB xs ys = true) (hz : zs = lnk xs ys) (K : Below w.heap.size w w1) (h1 : zs.length ≤ cap) (h2 : OwnSl w2 w1.heap.size 3 A zs.length (zg zs)) (h3 : Below w1.heap.size w1 w2) :
    LnkMade w (lnk xs ys) (lnkB xs ys) (.returned (.tuple #[.slice A zs.length cap, .bool true])) w2 := by
  subst hz; rw [h]
  exact ⟨A, cap, rfl, h1, fun hp => by obtain ⟨g, off, e, hg, ho⟩ := h2 hp; exact ⟨g, off, e, Nat.le_trans K.size hg, ho⟩, K.trans (h3.mono K.size)⟩

theorem isInts_tail {w : World} {b off : Nat} {ys : List Int} (h : IntsAt w b off ys) (hb : b < w.heap.size) : IsInts w (some ⟨b, off + 1, none⟩) (ys.drop 1) := fun _ => ⟨b, off + 1, rfl, hb, fun i hi => by
  rw [List.length_drop] at hi
  have e : zg (ys.drop 1) i = zg ys (i + 1) := by unfold zg; simp
  rw [e, ← h (i + 1) (by omega)]
  exact congrArg w.cell? (congrArg (fun o => (⟨b, o, none⟩ : Addr)) (by omega))⟩

end Go.Proofs.Ytagaildnfbegkaa
