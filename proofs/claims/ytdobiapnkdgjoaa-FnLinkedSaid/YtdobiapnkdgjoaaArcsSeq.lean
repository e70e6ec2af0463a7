/-
  What impl.Net.arcsAlong and the function that it returns do.
-/
import Derived.Test.YtdobiapnkdgjoaaSeqKeep
namespace Go.Proofs.Ytdobiapnkdgjoaa
open Go.RowKit Go.Deep

attribute [local go_sem] Oper.semAt_some

/-- What the iterator reads: the network in block bn, the route in block br. -/
def AlongAt (W : World) (bn br : Nat) (A B : Option Addr) (ca cb : Nat) (R : Option Addr) (cr : Nat) (ps : List (Int × Int)) (rs : List (Int × Int × Int)) (zs : List Int) : Prop :=
  (W.cell? ⟨bn, 0, none⟩ = some (.slice A ps.length ca) ∧ W.cell? ⟨bn, 1, none⟩ = some (.slice B rs.length cb) ∧ W.cell? ⟨br, 0, none⟩ = some (.slice R zs.length cr)) ∧ IsPts W A ps ∧ IsArcs W B rs ∧ IsInts W R zs
theorem AlongAt.below {W W' : World} {bn br : Nat} {A B : Option Addr} {ca cb : Nat} {R : Option Addr} {cr : Nat} {ps : List (Int × Int)} {rs : List (Int × Int × Int)} {zs : List Int} (h : AlongAt W bn br A B ca cb R cr ps rs zs) (hb : Below W.heap.size W W') : AlongAt W' bn br A B ca cb R cr ps rs zs :=
  ⟨⟨cell_under hb h.1.1, cell_under hb h.1.2.1, cell_under hb h.1.2.2⟩, h.2.1.below hb, h.2.2.1.below hb, h.2.2.2.below hb⟩

set_option maxRecDepth 100000 in
set_option maxHeartbeats 4000000 in
theorem along1 {α : Type} (f : Nat → α) (enc : α → Int) (n : Nat) (l bn br : Nat) (A B : Option Addr) (ca cb : Nat) (R : Option Addr) (cr : Nat) (ps : List (Int × Int)) (rs : List (Int × Int × Int)) (zs : List Int)
    (hn : ps.length ≤ 1048576) (hm : rs.length ≤ 1048576) (hz : zs.length ≤ 1048576) (henc : ∀ k, k + 1 < zs.length → enc (f k) = arcAt ps rs (zg zs k) (zg zs (k + 1)))
    (Kp : World → World → Prop) (J Jx : List α → World → Prop) (W : World)
    (hJ : AbidesFrom W.heap.size J)
    (G : World → Prop) (hG : ∀ X, G X → AlongAt X bn br A B ca cb R cr ps rs zs) (hGb : ∀ X Y, G X → Below X.heap.size X Y → G Y) (hGk : ∀ X Y, G X → Kp X Y → G Y) (hG0 : G W)
    (hY : ∀ pre x W1, J pre W1 → pre.length < zs.length - 1 → YieldAt Fence.wide (n - 1) Try.prog l #[.int .i64 (enc x)] W1 fun e W' =>
      (e = .returned (.bool true) ∧ J (pre ++ [x]) W' ∧ Kp W1 W') ∨ (e = .returned (.bool false) ∧ Jx (pre ++ [x]) W'))
    (h0 : J [] W) :
    CallsIn Fence.wide n Try.prog 112 #[.func (.yield l) #[] #[], .pointer (some ⟨br, 0, none⟩), .pointer (some ⟨bn, 0, none⟩)] W fun e W' => (∃ v, e = .returned v) ∧
      ((∃ ys, ys = upto f (zs.length - 1) ∧ J ys W') ∨ (∃ pre, (∃ k, k ≤ zs.length - 1 ∧ pre = upto f k) ∧ Jx pre W')) := by
  refine callsIn_of_wp Try.func112 rfl trivial ?_ rfl
  simp only [Try.ntmps112, List.size_toArray, List.length_cons, List.length_nil, Nat.reduceAdd, Nat.reduceSub, Array.replicate_succ, Array.replicate_zero, List.push_toArray, List.append_toArray, List.nil_append, List.cons_append]
  gi_wp2
  gi_loopw [4] (fun i wr => ∃ k : Nat, 1 ≤ k ∧ (k ≤ zs.length ∨ k = 1) ∧ i = .int .i64 k ∧ J (upto f (k - 1)) wr ∧ G wr)
    (fun i _ => zs.length - (intOf i).toNat)
  case atStart => exact ⟨1, by omega, by omega, rfl, h0, hG0⟩
  case round =>
    obtain ⟨k, hk1, hk, rfl, hJs, hGs⟩ := hrel
    obtain ⟨⟨c0, c1, c2⟩, P0, A0, I0⟩ := hG _ hGs
    by_cases hlt : k < zs.length
    · obtain ⟨j, hjk⟩ : ∃ j, j + 1 = k := ⟨k - 1, by omega⟩
      have HJK := Lib.hid hjk
      obtain ⟨b, off, rfl, -, z0⟩ := I0.at_ (show j < zs.length by omega)
      obtain ⟨b', off', e', -, z1⟩ := I0.at_ hlt
      cases e'
      have hwr : IntKind.i64.wrap ((k : Int) - 1) = j := by rw [show (k : Int) - 1 = j by omega]; exact IntWalk.i64_in _ (by omega)
      have hd : decide ((k : Int) < zs.length) = true := decide_eq_true (by omega)
      have hd' : decide (k < zs.length) = true := decide_eq_true (by omega)
      have hj1 : j < zs.length := by omega
      have hj2 : (j : Int) < zs.length := by omega
      have HG := Lib.hid hGb
      have HY := Lib.hid hY
      have HJ := Lib.hid hJ
      have HENC := Lib.hid (show enc (f j) = arcAt ps rs (zg zs j) (zg zs k) by rw [← hjk]; exact henc j (by omega))
      have hmix : Try.prog.follows .mixedOrders = true := by kernel_rfl
      have hdb : Below wr.heap.size wr wr.drew := (Below.refl _ _).drew
      have HGS := Lib.hid (hGb _ _ hGs hdb)
      have HJS := Lib.hid (show J (upto f j) wr.drew by rw [show j = k - 1 by omega]; exact abides_below hJ hJs hdb)
      have P0d := P0.below hdb
      have A0d := A0.below hdb
      clear hGb hY hJ henc hGs hJs hjk hdb
      gi_wp2
      gi_region_with_o (first
        | (refine ⟨trivial, wideD _, ?_⟩; gi_at_call 113; refine (callsIn_wide.2 (implArcAt_any _ _ _ _ ps rs _ _ _ hn hm P0d A0d)).mono ?_; rintro e w5 ⟨rfl, b5⟩; have G5 := Lib.hid (HG.out _ _ HGS.out b5); obtain ⟨fn, tmps, assign, body, hy, hR⟩ := HY.out _ (f j) w5 (abides_below HJ.out HJS.out b5) (by rw [upto_len]; have := HJK.out; omega); rw [HENC.out] at hy)
        | ((first | refine ⟨trivial, wideD _, ?_⟩ | refine ⟨wideD _, ?_⟩ | skip); refine (hR.mono (R' := fun e W' => ∃ bo, e = .returned (.bool bo) ∧ Hid ((bo = true ∧ J (upto f j ++ [f j]) W' ∧ Kp w5 W') ∨ (bo = false ∧ Jx (upto f j ++ [f j]) W'))) (fun e W' h => h.elim (fun h => ⟨true, h.1, Lib.hid (.inl ⟨rfl, h.2⟩)⟩) (fun h => ⟨false, h.1, Lib.hid (.inr ⟨rfl, h.2⟩)⟩))).mono ?_; rintro e W3 ⟨bo, rfl, HB⟩))
      all_goals (
        rcases HB.out with ⟨rfl, hJ3, hk3⟩ | ⟨rfl, hx3⟩
        · gi_wp2
          go_roundw
          case rel => exact ⟨k + 1, by omega, by omega, by go_num, by have := HJK.out; rw [show k + 1 - 1 = j + 1 by omega, upto_succ]; exact hJ3, hGk _ _ G5.out hk3⟩
          case measure => simp [intOf]; omega
        · gi_wp2
          refine bodyPost_ret (results_none rfl _ _ _) rfl ?_
          exact ⟨⟨_, rfl⟩, .inr ⟨_, ⟨j + 1, by have := HJK.out; omega, (upto_succ _ _).symm⟩, hx3⟩⟩)
    · have hd : decide ((k : Int) < zs.length) = false := decide_eq_false (by omega)
      have hd' : decide (k < zs.length) = false := decide_eq_false (by omega)
      gi_wp2
      go_end0
      refine ⟨⟨_, rfl⟩, .inl ⟨_, rfl, ?_⟩⟩
      have : zs.length - 1 = k - 1 := by omega
      rw [this]; exact hJs

end Go.Proofs.Ytdobiapnkdgjoaa
