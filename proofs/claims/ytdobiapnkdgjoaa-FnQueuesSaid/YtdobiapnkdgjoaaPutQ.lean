/-
  What spec.QueuePut and impl.queueOf compute.
-/
import Derived.Test.YtdobiapnkdgjoaaPutWalk
namespace Go.Proofs.Ytdobiapnkdgjoaa
open Go.RowKit Go.Deep Go.Maps

noncomputable def putR (q : List (Int × Int)) (x : Int × Int) : List (Int × Int) := if qB q = true then putL q x else []
/-- What QueuePut answers. -/
def PutRes (w : World) (q : List (Int × Int)) (x : Int × Int) (e : Ending) (w' : World) : Prop :=
  ∃ A cap, e = .returned (.tuple #[.slice A (putR q x).length cap, .bool (qB q)]) ∧ (putR q x).length ≤ cap ∧ OwnSl w' w.heap.size 45 A ((putR q x).length * 2) (flatP (putR q x)) ∧ Below w.heap.size w w'
theorem putRes_no {w w' : World} {q : List (Int × Int)} {x : Int × Int} (h : qB q = false) (A : Option Addr) (c : Nat) (K : Below w.heap.size w w') : PutRes w q x (.returned (.tuple #[.slice A 0 c, .bool false])) w' := by
  have e2 : putR q x = [] := by unfold putR; rw [h]; simp
  unfold PutRes
  rw [e2, h]
  exact ⟨A, c, rfl, Nat.zero_le _, fun hp => by simp at hp, K⟩
theorem putRes_yes {w w' : World} {q zs : List (Int × Int)} {x : Int × Int} {v : Value} (h : qB q = true) (hz : zs = putL q x) (own : w'.ownsRow w.heap.size 45 2 v zs.length (cellsP zs)) (K : Below w.heap.size w w') : PutRes w q x (.returned (.tuple #[v, .bool true])) w' := by
  have e2 : putR q x = zs := by unfold putR; rw [if_pos h, hz]
  unfold PutRes
  rw [e2, h]
  obtain ⟨A, cap, rfl, h1, h2⟩ := ownI_is own
  exact ⟨A, cap, rfl, h1, fun hp => by obtain ⟨g, e, hg, ho⟩ := h2 (by omega); exact ⟨g, 0, e, hg, ho⟩, K⟩

set_option maxRecDepth 100000 in
set_option maxHeartbeats 4000000 in
theorem specQueuePut_any (A : Option Addr) (ca : Nat) (q : List (Int × Int)) (x y : Int) (w : World) (hn : q.length ≤ 1048576) (h : IsPts w A q) :
    Calls Try.prog 32 #[.slice A q.length ca, .agg #[.int .i64 x, .int .i64 y]] w (PutRes w q (x, y)) := by
  have P := Pair.new w 45 (.int .i64 x) (.int .i64 y)
  have KB := below1 w (.cells #[.int .i64 x, .int .i64 y] 45)
  have HQ := Lib.hid (specQueueOk_any A ca q _ (by omega) (h.below KB))
  cases hq : qB q with
  | false =>
    rw [hq] at HQ
    have HP := Lib.hid hq
    clear hq
    go_enter Try.func32, Try.ntmps32
    go_wp2_with fail
    refine HQ.out.mono ?_; rintro e w1 ⟨rfl, b1⟩
    replace KB := KB.trans (b1.mono KB.size)
    clear b1 HQ P
    go_wp2
    go_ret2
    exact putRes_no HP.out _ _ (KB.alloc KB.size _)
  | true =>
    rw [hq] at HQ
    have HP := Lib.hid hq
    clear hq
    go_enter Try.func32, Try.ntmps32
    go_wp2_with fail
    refine HQ.out.mono ?_; rintro e w1 ⟨rfl, b1⟩
    replace KB := KB.trans (b1.mono KB.size)
    obtain ⟨p0, p1, -, -⟩ := (P.below b1).cells
    clear b1 HQ P
    go_wp2_with fail
    refine (l06Put_any A ca q x y _ hn (h.below KB)).mono ?_; rintro e w2 ⟨v, rfl, own, b2⟩
    replace own := ownsRow_base own KB.size
    replace KB := KB.trans (b2.mono KB.size)
    obtain ⟨A2, c2, rfl, -, -⟩ := ownI_is own
    clear p0 p1 b2
    go_wp2
    go_ret2
    exact putRes_yes HP.out rfl own KB

set_option maxRecDepth 100000 in
set_option maxHeartbeats 4000000 in
theorem queueOf_any (A : Option Addr) (ca : Nat) (q : List (Int × Int)) (w : World) (hn : q.length ≤ 1048576) (h : IsPts w A q) (hi64 : ∀ i, i < q.length → In64 (idg q i)) (hap : ∀ i, i < q.length → ∀ j, j < i → idg q j ≠ idg q i) :
    Calls Try.prog 77 #[.slice A q.length ca] w fun e w' => ∃ qa, e = .returned (.pointer (some ⟨qa, 0, none⟩)) ∧ QSt w' w.heap.size qa q ∧ Below w.heap.size w w' := by
  have HAP := Lib.hid hap
  have HI := Lib.hid hi64
  clear hap hi64
  go_enter Try.func77, Try.ntmps77
  go_wp2_with fail
  refine (cloneIts_any A q.length ca q _ rfl (by omega) h).mono ?_; rintro e w1 ⟨v, rfl, own, b1⟩
  go_wp2_with fail
  refine (placesOf_any A ca q _ (by omega) (h.below b1) HI.out).mono ?_; rintro e w2 ⟨B, D, rfl, hB, hm, hu, b2⟩
  replace own := ownsRow_below own b2
  have K := b1.trans (b2.mono b1.size)
  have kb := below1 w2 (.cells #[v, .map (some B)] 107)
  have X := Pair.new w2 107 v (.map (some B))
  replace own := ownsRow_below own kb
  replace hm := ownsMap_below hm kb
  have hk := K.size
  have hb1 := b1.size
  have HK := Lib.hid (K.trans (kb.mono K.size))
  have HQ : Hid (QSt (w2.alloc (.cells #[v, .map (some B)] 107)) w.heap.size w2.heap.size q) := Lib.hid ⟨v, B, D, X, own, hm, plOf_up hu HAP.out, hk, by omega, HI.out⟩
  obtain ⟨A1, c1, rfl, -, -⟩ := ownI_is own
  clear own hm hu X K kb b1 b2 h
  go_wp2
  go_ret
  exact ⟨_, rfl, HQ.out, HK.out⟩

end Go.Proofs.Ytdobiapnkdgjoaa
