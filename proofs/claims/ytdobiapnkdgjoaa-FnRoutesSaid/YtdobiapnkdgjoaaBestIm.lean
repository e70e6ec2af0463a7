/-
  What impl.BestRoute computes.
-/
import Derived.Test.YtdobiapnkdgjoaaNodesSeq
import Derived.Test.YtdobiapnkdgjoaaDistBet
namespace Go.Proofs.Ytdobiapnkdgjoaa
open Go.RowKit Go.Deep

def brt (ps : List (Int × Int)) (rs : List A3) (s t : Int) : List Int := if dB ps rs s t = -1 then [] else brF rs (dst ps.length (turnL rs) t.toNat) 200001 s
theorem dB_nodes {ps : List (Int × Int)} {rs : List A3} {s t : Int} (h : dB ps rs s t ≠ -1) : netB ps rs = true ∧ ∃ S T : Nat, s = S ∧ t = T ∧ S < ps.length ∧ T < ps.length := by
  unfold dB at h
  split at h
  · rename_i k
    obtain ⟨S, rfl, hS⟩ := node_is k.2.1
    obtain ⟨T, rfl, hT⟩ := node_is k.2.2
    exact ⟨k.1, S, T, rfl, rfl, hS, hT⟩
  · exact absurd rfl h
theorem dB_back {ps : List (Int × Int)} {rs : List A3} {S T : Nat} (hok : netB ps rs = true) (hS : S < ps.length) (hT : T < ps.length) : dB ps rs S T = zg (dst ps.length (turnL rs) T) S := by
  obtain ⟨h20, -, -, -⟩ := netB_iff.1 hok
  obtain ⟨h1, h2, h3⟩ := turn_arcs hok
  rw [dB_yes hok hS hT]
  exact (dst_back h20 (arcsIn_net hok) h1 h2 h3 hS hT).symm

set_option maxRecDepth 100000 in
set_option maxHeartbeats 4000000 in
theorem implBestRoute_any (ad : Addr) (B : Option Addr) (ca cb : Nat) (ps : List (Int × Int)) (rs : List A3) (s t : Int) (w : World) (hn : ps.length ≤ 1048576) (hm : rs.length ≤ 1048576) (ha : IsPts w (some ad) ps) (hb : IsArcs w B rs) :
    Calls Try.prog 15 #[.agg #[.slice (some ad) ps.length ca, .slice B rs.length cb], .int .i64 s, .int .i64 t] w (IntsMade w (brt ps rs s t)) := by
  have X := Pair.new w 27 (.slice (some ad) ps.length ca) (.slice B rs.length cb)
  have K := below1 w (.cells #[.slice (some ad) ps.length ca, .slice B rs.length cb] 27)
  have HBt := Lib.hid (fun W hb' => implBetween_any (some ad) B ca cb ps rs s t W hn hm (ha.below hb') (hb.below hb'))
  by_cases hq : dB ps rs s t = -1
  · rw [hq] at HBt
    have HQ := Lib.hid (show brt ps rs s t = [] by unfold brt; rw [if_pos hq])
    go_enter Try.func15, Try.ntmps15
    go_wp2_with fail
    refine (HBt.out _ K).mono ?_; rintro e w1 ⟨rfl, b1⟩
    replace K := K.trans (b1.mono K.size)
    clear b1 X
    go_wp2
    go_ret
    exact intsMade_nil HQ.out _ _ K
  · obtain ⟨hok, S, T, rfl, rfl, hS, hT⟩ := dB_nodes hq
    have HQ := Lib.hid (show brt ps rs S T = brF rs (dst ps.length (turnL rs) T) 200001 S by unfold brt; rw [if_neg hq]; rfl)
    obtain ⟨h20, -, -, -⟩ := netB_iff.1 hok
    have hst : 0 ≤ zg (dst ps.length (turnL rs) T) S := by
      rcases dst_val h20 hT (turn_arcs hok).1 hS with h | h
      · rw [dB_back hok hS hT] at hq; exact absurd h hq
      · exact h.1
    have hq' : (dB ps rs S T == -1) = false := beq_eq_false_iff_ne.2 hq
    obtain ⟨q, HQV⟩ : ∃ q, Hid (dB ps rs S T = q) := ⟨_, Lib.hid rfl⟩
    rw [HQV.out] at HBt hq'
    clear hq
    go_enter Try.func15, Try.ntmps15
    go_wp2_with fail
    refine (HBt.out _ K).mono ?_; rintro e w1 ⟨rfl, b1⟩
    replace K := K.trans (b1.mono K.size)
    replace X := X.below b1
    clear b1 HBt
    obtain ⟨x0, x1, -, -⟩ := X.cells
    go_wp2_with fail
    clear x0 x1
    refine (nodesTo_any (some ad) B ps.length rs.length ca cb S T _).mono ?_; rintro e w3 ⟨rfl, hw3⟩
    obtain ⟨y0, y1, -, -⟩ := (((Pair.new w1 27 (.slice (some ad) ps.length ca) (.slice B rs.length cb)).alloc (.cells #[.int .i64 (S : Int)] 3)).alloc (.cells #[.int .i64 (T : Int)] 3)).cells
    have y2 := ((Boxed.new (w1.alloc (.cells #[.slice (some ad) ps.length ca, .slice B rs.length cb] 27)) 3 (.int .i64 (S : Int))).alloc (.cells #[.int .i64 (T : Int)] 3)).cell
    have y3 := (Boxed.new ((w1.alloc (.cells #[.slice (some ad) ps.length ca, .slice B rs.length cb] 27)).alloc (.cells #[.int .i64 (S : Int)] 3)) 3 (.int .i64 (T : Int))).cell
    have K3 := K.trans ((below3 w1 (.cells #[.slice (some ad) ps.length ca, .slice B rs.length cb] 27) (.cells #[.int .i64 (S : Int)] 3) (.cells #[.int .i64 (T : Int)] 3)).mono K.size)
    have hs3 : w1.heap.size + 2 < w3.heap.size := by rw [hw3]; simp
    simp only [World.size_alloc] at y2 y3
    rw [← hw3] at y0 y1 y2 y3 K3
    clear hw3 X
    have b4 := below1 w3 (.cells #[.slice none 0 0] 30)
    have F := Boxed.new w3 30 (.slice none 0 0)
    have HC := Lib.hid (collect_any (N := 200001) 105 #[.pointer (some ⟨w1.heap.size, 0, none⟩), .pointer (some ⟨w1.heap.size + 1 + 1, 0, none⟩), .pointer (some ⟨w1.heap.size + 1, 0, none⟩)] w3 (enters_of Try.func105 (by kernel_rfl) rfl) (by omega)
      (nodes_stops w1.heap.size (w1.heap.size + 1) (w1.heap.size + 1 + 1) ad B ca cb ps rs S T hn hm hok hS hT hst w3.heap.size w _ (K3.trans (b4.mono K3.size)) K3.size F.lt (fun u v e => by have := F.symm.trans e; simp at this; rw [← this.1]; rfl) (by omega) (cell_under b4 y0) (cell_under b4 y1) (cell_under b4 y2) (cell_under b4 y3) ha hb))
    clear y0 y1 y2 y3 b4 F
    go_wp2_with fail
    refine HC.out.mono ?_; rintro e w5 ⟨xs, rfl, A5, c5, rfl, h1, h2, h3⟩
    go_wp2
    go_ret
    rw [HQ.out]
    exact intsMade_elder K3 ⟨A5, c5, rfl, h1, h2, h3⟩

end Go.Proofs.Ytdobiapnkdgjoaa
