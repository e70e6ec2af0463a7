/-
  What impl.meetings computes: the buckets at the nodes that are reached, each with the length of the whole way.
-/
import Derived.Test.YtagaildnfbegkabBksIm
namespace Go.Proofs.Ytagaildnfbegkab
open Go.RowKit Go.Deep Go.Maps

/-- The meetings among the first k buckets. -/
def meetK (u : List Int) (qs : List A3) : Nat → List A3
  | 0 => []
  | k + 1 => if zg u (arg qs k).1.toNat = -1 then meetK u qs k else meetK u qs k ++ [((arg qs k).1, (arg qs k).2.1, zg u (arg qs k).1.toNat + (arg qs k).2.2)]
theorem meetK_off {u : List Int} {qs : List A3} {k : Nat} (h : zg u (arg qs k).1.toNat = -1) : meetK u qs (k + 1) = meetK u qs k := if_pos h
theorem meetK_on {u : List Int} {qs : List A3} {k : Nat} (h : zg u (arg qs k).1.toNat ≠ -1) : meetK u qs (k + 1) = meetK u qs k ++ [((arg qs k).1, (arg qs k).2.1, zg u (arg qs k).1.toNat + (arg qs k).2.2)] := if_neg h
theorem meetK_len (u : List Int) (qs : List A3) : ∀ k, (meetK u qs k).length ≤ k
  | 0 => by simp [meetK]
  | k + 1 => by
    have := meetK_len u qs k
    by_cases h : zg u (arg qs k).1.toNat = -1
    · rw [meetK_off h]; omega
    · rw [meetK_on h, List.length_append]; simp; omega
/-- Buckets at nodes ahead of n, with lengths that can be added. -/
def bkIn (n : Nat) (qs : List A3) : Prop := ∀ i, i < qs.length → (0 ≤ (arg qs i).1 ∧ (arg qs i).1 < (n : Int)) ∧ 0 ≤ (arg qs i).2.2 ∧ (arg qs i).2.2 ≤ 1048576000000
structure MtS (w : World) (v : Value) (qs : List A3) (wr : World) : Prop where
  own : wr.ownsRow w.heap.size 67 3 v qs.length (cellsA qs)
  bel : Below w.heap.size w wr
theorem MtS.below {w wr w' : World} {v : Value} {qs : List A3} (h : MtS w v qs wr) (b : Below wr.heap.size wr w') : MtS w v qs w' := ⟨ownsRow_below h.own b, h.bel.trans (b.mono h.bel.size)⟩
set_option maxRecDepth 100000 in
theorem MtS.put {w wr : World} {v : Value} {qs : List A3} (h : MtS w v qs wr) (a : A3) (hq : qs.length ≤ 20971519) :
    ∃ v' w', (Builtin.append_ #[39, 39] 39 #[v, .slice (some ⟨wr.heap.size, 0, none⟩) 1 1]).run Try.prog (wr.alloc (.cells #[.int .i64 a.1, .int .i64 a.2.1, .int .i64 a.2.2] 67)) = .ok v' w' ∧
      MtS w v' (qs ++ [a]) w' ∧ ∃ VB cB, v' = .slice VB (qs.length + 1) cB := by
  obtain ⟨v', w', hr', own', g', -⟩ := run_append_bk 39 w.heap.size v qs.length _ h.own a (by omega) h.bel.size
  have hbk := ownsRow_block h.own
  have kb := below1 wr (.cells #[.int .i64 a.1, .int .i64 a.2.1, .int .i64 a.2.2] 67)
  refine ⟨v', w', hr', ⟨?_, (h.bel.trans (kb.mono h.bel.size)).grown g' (by have := h.bel.size; rw [World.size_alloc]; omega) (fun g e => by have := hbk g e; omega)⟩, own_formB own'⟩
  rw [List.length_append, cellsA_append]; exact own'

set_option maxRecDepth 1000000 in
set_option maxHeartbeats 8000000 in
theorem meetings_any (U Q : Option Addr) (cu cq : Nat) (u : List Int) (qs : List A3) (w : World) (hu : u.length ≤ 1048576) (hq : qs.length ≤ 20971520) (hU : IsInts w U u) (hQ : IsArcs w Q qs) (hin : bkIn u.length qs) (hb : ∀ v, v < u.length → -1 ≤ zg u v ∧ zg u v ≤ 1048576000000) :
    Calls Try.prog 49 #[.slice U u.length cu, .slice Q qs.length cq] w (BksMade w (meetK u qs qs.length)) := by
  have HIN := Lib.hid hin
  have HBD := Lib.hid hb
  have R0 : MtS w (.slice none 0 0) (meetK u qs 0) w := ⟨⟨rfl, .inl ⟨rfl, rfl⟩⟩, Below.refl _ _⟩
  clear hin hb
  go_enter Try.func49, Try.ntmps49
  go_wp2
  go_loopw [5, 11] (fun v vi wr => ∃ k : Nat, k ≤ qs.length ∧ vi = .int .i64 k ∧ MtS w v (meetK u qs k) wr) (fun _ i _ => qs.length - (intOf i).toNat)
  case atStart => exact ⟨0, by omega, rfl, R0⟩
  case round =>
    clear R0
    obtain ⟨k, hk, rfl, R⟩ := hrel
    by_cases hlt : k < qs.length
    · have hki : (k : Int) < qs.length := by omega
      obtain ⟨b, off, rfl, -, c0, c1, c2⟩ := (hQ.below R.bel).at_ hlt
      obtain ⟨⟨i0, i1⟩, i2, i3⟩ := HIN.out k hlt
      obtain ⟨V, hV⟩ : ∃ V : Nat, (arg qs k).1 = (V : Int) := ⟨(arg qs k).1.toNat, by omega⟩
      have hVn : V < u.length := by omega
      obtain ⟨ub, uo, rfl, -, cu0⟩ := (hU.below R.bel).at_ hVn
      have hbd := HBD.out V hVn
      have hVi : (V : Int) < u.length := by omega
      have HON := Lib.hid (fun h => meetK_on (u := u) (qs := qs) (k := k) h)
      have HOFF := Lib.hid (fun h => meetK_off (u := u) (qs := qs) (k := k) h)
      have HR := Lib.hid (meetK_len u qs k)
      have htn : (arg qs k).1.toNat = V := by omega
      rw [htn] at HON HOFF
      generalize arg qs k = a at *
      obtain ⟨f, t, l⟩ := a
      dsimp only at *
      subst hV
      clear htn
      generalize hL0 : meetK u qs k = B0 at *
      clear hL0
      generalize zg u V = x at *
      have kv := below1 wr (.cells #[.int .i64 (V : Int), .int .i64 t, .int .i64 l] 67)
      have Q3 := Trip.new wr 67 (.int .i64 (V : Int)) (.int .i64 t) (.int .i64 l)
      obtain ⟨a0, a1, a2, -⟩ := Q3.cells
      have cu1 := cell_under kv cu0
      by_cases hx : x = -1
      · have HN := Lib.hid (HOFF.out hx)
        have hx1 : (x != -1) = false := by simpa using hx
        have R1 := R.below kv
        clear hx HON HOFF kv R Q3
        go_wp2
        go_roundw
        case rel => exact ⟨k + 1, by omega, by go_num, by rw [HN.out]; exact R1⟩
        case measure => simp [intOf]; omega
      · have HN := Lib.hid (HON.out hx)
        have hx1 : (x != -1) = true := by simpa using hx
        have hwr : IntKind.i64.wrap (x + l) = x + l := by rw [IntWalk.i64_left]; unfold wrap64; omega
        clear hx HON HOFF Q3
        obtain ⟨v', w', hr1, R1, VB, cB, rfl⟩ := (R.below kv).put ((V : Int), t, x + l) (by have := HR.out; omega)
        obtain ⟨VC, cC, rfl⟩ := own_formB R.own
        clear kv R
        dsimp only at hr1
        rw [World.size_alloc] at hr1
        go_wp2_with (at_builtin; refine Lib.wpList_append_run _ rfl _ _ _ _ rfl _ _ rfl rfl _ _ hr1 ?_)
        clear hr1 a0 a1 a2 c0 c1 c2 cu0 cu1
        go_wp2
        go_roundw
        case rel => exact ⟨k + 1, by omega, by go_num, by rw [HN.out]; exact R1⟩
        case measure => simp [intOf]; omega
    · obtain rfl : k = qs.length := by omega
      have KE := R.bel
      have OE := R.own
      clear R hlt
      go_wp2
      go_ret
      exact bksMade_of OE (Nat.le_refl _) KE

end Go.Proofs.Ytagaildnfbegkab
