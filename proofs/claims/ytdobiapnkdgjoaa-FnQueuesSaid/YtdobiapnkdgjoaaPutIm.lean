/-
  What impl.QueuePut computes.
-/
import Derived.Test.YtdobiapnkdgjoaaPutQ
import Derived.Test.YtdobiapnkdgjoaaPutPerm
namespace Go.Proofs.Ytdobiapnkdgjoaa
open Go.RowKit Go.Deep Go.Maps

set_option maxRecDepth 1000000 in
set_option maxHeartbeats 4000000 in
theorem implQueuePut_any (A : Option Addr) (ca : Nat) (q : List (Int × Int)) (x y : Int) (w : World) (hn : q.length ≤ 1048576) (h : IsPts w A q) (hi64 : ∀ i, i < q.length → In64 (idg q i)) (hy : In64 y) :
    Calls Try.prog 31 #[.slice A q.length ca, .agg #[.int .i64 x, .int .i64 y]] w (PutRes w q (x, y)) := by
  have P := Pair.new w 45 (.int .i64 x) (.int .i64 y)
  have KB := below1 w (.cells #[.int .i64 x, .int .i64 y] 45)
  have HQ := Lib.hid (implQueueOk_any A ca q _ (by omega) (h.below KB) hi64)
  cases hq : qB q with
  | false =>
    rw [hq] at HQ
    have HP := Lib.hid hq
    clear hq
    go_enter Try.func31, Try.ntmps31
    go_wp2_with fail
    refine HQ.out.mono ?_; rintro e w1 ⟨rfl, b1⟩
    replace KB := KB.trans (b1.mono KB.size)
    clear b1 HQ P
    go_wp2
    go_ret2
    exact putRes_no HP.out _ _ KB
  | true =>
    rw [hq] at HQ
    have hok := qB_iff.1 hq
    have HP := Lib.hid hq
    have HOK := Lib.hid hok
    have HAP := Lib.hid (fun i hi => (hok i hi).2)
    have HH := Lib.hid (qOk_heap hok)
    have HI := Lib.hid hi64
    have HY := Lib.hid hy
    clear hq hok hi64 hy
    go_enter Try.func31, Try.ntmps31
    go_wp2_with fail
    refine HQ.out.mono ?_; rintro e w1 ⟨rfl, b1⟩
    replace KB := KB.trans (b1.mono KB.size)
    replace P := P.below b1
    clear b1 HQ
    go_wp2_with fail
    refine (queueOf_any A ca q _ hn (h.below KB) HI.out HAP.out).mono ?_; rintro e w2 ⟨qa, rfl, hs, b2⟩
    replace P := P.below b2
    have hb := KB.size
    have hbl := hs.base_le
    obtain ⟨p0, p1, -, -⟩ := P.cells
    have HS := Lib.hid hs
    replace KB := KB.trans (b2.mono KB.size)
    clear hs b2 P
    go_wp2_with fail
    refine (queuePut_any w2 w1.heap.size qa q x y HY.out hn HH.out HS.out).mono ?_; rintro e w3 ⟨rfl, q', hrel, -, hs3, b3⟩
    clear p0 p1 HS
    replace KB := KB.trans (b3.mono hb)
    obtain ⟨hpos, hlen⟩ := putRel_pos hrel
    obtain ⟨v, B, D, X, own, -, -, hqa, -, -⟩ := hs3
    obtain ⟨A3, cap, rfl, hcap, hA⟩ := ownI_is own
    obtain ⟨g, rfl, hg, hog⟩ := hA hpos
    have hgq : g ≠ qa := fun e => by
      subst e
      rcases own.2 with ⟨h1, -⟩ | ⟨g', cap', cur, h1, -, h3, -⟩
      · cases h1
      · injection h1 with h1 _ _
        injection h1 with h1
        injection h1 with h1
        subst h1
        have := X.symm.trans h3
        simp at this
    obtain ⟨x0, x1, -, -⟩ := X.cells
    have HX := Lib.hid X
    have HR := Lib.hid hrel
    clear X hrel hA hog b3
    go_wp2_with fail
    refine (sortIts_any w3 w1.heap.size g cap q' (by omega) own).mono ?_; rintro e w4 ⟨rfl, q2, hl2, hp2, ha2, own2, g2⟩
    have X := HX.out.grown' g2 (fun g' e => by simp at e; omega)
    have K4 : Below w.heap.size w w4 := KB.grown g2 (by have := KB.size; omega) (fun g' e => by simp at e; omega)
    have HZ := Lib.hid (put_is HOK.out HR.out hp2 ha2)
    have own3 : w4.ownsRow w.heap.size 45 2 (.slice (some ⟨g, 0, none⟩) q'.length cap) q2.length (cellsP q2) := by rw [hl2]; exact ownsRow_base own2 hb
    clear own own2 x0 x1 HX g2 KB
    obtain ⟨x0, x1, -, -⟩ := X.cells
    clear X
    go_wp2
    go_ret2
    exact putRes_yes HP.out HZ.out own3 K4

end Go.Proofs.Ytdobiapnkdgjoaa
