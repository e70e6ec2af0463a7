/-
  What slices.Values over integers and the function that it returns do.
-/
import Derived.Test.YtagaildnfbegkaaCollectInts
namespace Go.Proofs.Ytagaildnfbegkaa
open Go.RowKit Go.Deep

theorem values_any (R : Option Addr) (k cr : Nat) (w : World) :
    Calls Try.prog 83 #[.slice R k cr] w fun e w' => e = .returned (.func (.func 103) #[] #[.pointer (some ⟨w.heap.size, 0, none⟩)]) ∧ w' = w.alloc (.cells #[.slice R k cr] 24) := by
  have hmf : ∀ (fn : Fn) (first cap : Array Value) (w : World), (Instr.makeFunc fn first cap).run Try.prog w = .ok (.func fn first cap) w := fun _ _ _ _ => rfl
  go_enter Try.func83, Try.ntmps83
  go_wp2
  go_ret
  exact ⟨rfl, rfl⟩

attribute [local go_sem] Oper.semAt_some

theorem take_snocZ {zs : List Int} {k : Nat} (h : k < zs.length) : zs.take (k + 1) = zs.take k ++ [zg zs k] := by
  have e : zg zs k = zs[k] := by unfold zg; rw [List.getD_eq_getElem?_getD, List.getElem?_eq_getElem h]; rfl
  rw [e]; exact List.take_succ_eq_append_getElem h

set_option maxRecDepth 100000 in
set_option maxHeartbeats 4000000 in
theorem values1 (n : Nat) (l bs : Nat) (R : Option Addr) (cr : Nat) (zs : List Int) (hz : zs.length ≤ 1048576)
    (Kp : World → World → Prop) (J Jx : List Int → World → Prop) (W : World)
    (G : World → Prop) (hG : ∀ X, G X → X.cell? ⟨bs, 0, none⟩ = some (.slice R zs.length cr) ∧ IsInts X R zs) (hGk : ∀ X Y, G X → Kp X Y → G Y) (hG0 : G W)
    (hY : ∀ pre x W1, J pre W1 → pre.length < zs.length → YieldAt Fence.wide (n - 1) Try.prog l #[.int .i64 x] W1 fun e W' =>
      (e = .returned (.bool true) ∧ J (pre ++ [x]) W' ∧ Kp W1 W') ∨ (e = .returned (.bool false) ∧ Jx (pre ++ [x]) W'))
    (h0 : J [] W) :
    CallsIn Fence.wide n Try.prog 103 #[.func (.yield l) #[] #[], .pointer (some ⟨bs, 0, none⟩)] W fun e W' => (∃ v, e = .returned v) ∧
      ((∃ ys, ys = zs ∧ J ys W') ∨ (∃ pre, (∃ k, k ≤ zs.length ∧ pre = zs.take k) ∧ Jx pre W')) := by
  refine callsIn_of_wp Try.func103 rfl trivial ?_ rfl
  simp only [Try.ntmps103, List.size_toArray, List.length_cons, List.length_nil, Nat.reduceAdd, Nat.reduceSub, Array.replicate_succ, Array.replicate_zero, List.push_toArray, List.append_toArray, List.nil_append, List.cons_append]
  obtain ⟨c0, I0⟩ := hG _ hG0
  gi_wp2
  clear c0 I0
  gi_loopw [7] (fun i wr => ∃ k : Nat, k ≤ zs.length ∧ i = .int .i64 k ∧ J (zs.take k) wr ∧ G wr)
    (fun i _ => zs.length - (intOf i).toNat)
  case atStart => exact ⟨0, by omega, rfl, h0, hG0⟩
  case round =>
    obtain ⟨k, hk, rfl, hJs, hGs⟩ := hrel
    obtain ⟨c0, I0⟩ := hG _ hGs
    by_cases hlt : k < zs.length
    · obtain ⟨b, off, rfl, hb, z0⟩ := I0.at_ hlt
      have hd : decide ((k : Int) < zs.length) = true := decide_eq_true (by omega)
      have hd' : decide (k < zs.length) = true := decide_eq_true (by omega)
      have hki : (k : Int) < zs.length := by omega
      obtain ⟨fn, tmps, assign, body, hy, hR⟩ := hY (zs.take k) (zg zs k) wr hJs (by rw [List.length_take]; omega)
      have HGK := Lib.hid hGk
      have HGS := Lib.hid hGs
      have HTK := Lib.hid (take_snocZ hlt)
      have hR' := hR.mono (R' := fun e W' => ∃ bo, e = .returned (.bool bo) ∧ Hid ((bo = true ∧ J (zs.take k ++ [zg zs k]) W' ∧ Kp wr W') ∨ (bo = false ∧ Jx (zs.take k ++ [zg zs k]) W'))) (fun e W' h => h.elim (fun h => ⟨true, h.1, Lib.hid (.inl ⟨rfl, h.2⟩)⟩) (fun h => ⟨false, h.1, Lib.hid (.inr ⟨rfl, h.2⟩)⟩))
      clear hGk hY hJs hGs hR c0
      generalize zg zs k = x at *
      gi_wp2_with fail
      (first | refine ⟨trivial, wideD _, ?_⟩ | refine ⟨wideD _, ?_⟩ | skip)
      refine hR'.mono ?_; rintro e W3 ⟨bo, rfl, HB⟩
      rcases HB.out with ⟨rfl, hJ3, hk3⟩ | ⟨rfl, hx3⟩
      · gi_wp2
        go_roundw
        case rel => exact ⟨k + 1, by omega, by go_num, by rw [HTK.out]; exact hJ3, HGK.out _ _ HGS.out hk3⟩
        case measure => simp [intOf]; omega
      · gi_wp2
        refine bodyPost_ret (results_none rfl _ _ _) rfl ?_
        exact ⟨⟨_, rfl⟩, .inr ⟨_, ⟨k + 1, by omega, HTK.out.symm⟩, hx3⟩⟩
    · obtain rfl : k = zs.length := by omega
      rw [List.take_length] at hJs
      have hd : decide ((zs.length : Int) < zs.length) = false := decide_eq_false (by omega)
      gi_wp2
      go_end0
      exact ⟨⟨_, rfl⟩, .inl ⟨_, rfl, hJs⟩⟩

/-- The iterator, where the loop's variable lies in block Bx and holds no row. -/
theorem values_stops (n bs : Nat) (R : Option Addr) (cr : Nat) (zs : List Int) (hz : zs.length ≤ 1048576)
    (Bx : Nat) (w0 w : World) (h0 : Below w0.heap.size w0 w) (hB : w0.heap.size ≤ Bx) (hBw : Bx < w.heap.size) (hrow : ∀ u v, Boxed w Bx u v → v.ownBlock = none) (hbr : bs ≠ Bx)
    (c0 : w.cell? ⟨bs, 0, none⟩ = some (.slice R zs.length cr)) (hi : IsInts w0 R zs) :
    SeqStopsK Fence.wide n Try.prog 103 #[.pointer (some ⟨bs, 0, none⟩)] (fun x => #[Value.int .i64 x]) (Kpt Bx) (fun ys => ys = zs) (fun pre => ∃ k, k ≤ zs.length ∧ pre = zs.take k) zs.length w :=
  fun l J Jx W hW hJ _ hY hJ0 => by
  have hrW : RowFrom Bx W.heap.size W := fun u v k e ek => by rw [hrow u v (boxed_same (hW.block Bx hBw) e)] at ek; cases ek
  have h0W : Below w0.heap.size w0 W := h0.trans (hW.mono h0.size)
  have hlt : bs < W.heap.size := by
    have := World.block_lt_of_cell? w _ c0
    have := hW.size
    simp at *
    omega
  exact values1 n l bs R cr zs hz (Kpt Bx) J Jx W (Kpt Bx W)
    (fun X hX => ⟨hX.cell (Nat.le_refl _) hrW hlt hbr (cell_under hW c0), hX.ints (Nat.le_refl _) hrW h0W hB h0W.size hi⟩)
    (fun X Y hX hk => hX.trans hk) (Kpt.refl _ _) hY hJ0

end Go.Proofs.Ytagaildnfbegkaa
