/-
  What laws.sameNet answers of two networks that read alike: true.
-/
import Derived.Test.YtjaifbbkfgfdeaaDoorNetLaws
namespace Go.Proofs.YtjaifbbkfgfdeaaDoor
open Go.RowKit Go.Deep

theorem Pair.drewN {w : World} {b : Nat} {t : TypeId} {u v : Value} (h : Pair w b t u v) (n : Nat) : Pair (w.drewN n) b t u v := h

set_option maxHeartbeats 2000000 in
theorem sameNet_same (A B C D : Option Addr) (ca cb cc cd : Nat) (ps : List (Int × Int)) (rs : List (Int × Int × Int)) (w : World) (hn : ps.length ≤ 1048576) (hm : rs.length ≤ 1048576)
    (ha : IsPts w A ps) (hb : IsArcs w B rs) (hc : IsPts w C ps) (hd : IsArcs w D rs) :
    Calls Tryd.prog 11 #[.agg #[.slice A ps.length ca, .slice B rs.length cb], .agg #[.slice C ps.length cc, .slice D rs.length cd]] w fun e w' => e = .returned (.bool true) ∧ Below w.heap.size w w' := by
  have K := below2 w (.cells #[.slice A ps.length ca, .slice B rs.length cb] 27) (.cells #[.slice C ps.length cc, .slice D rs.length cd] 27)
  have X := (Pair.new w 27 (.slice A ps.length ca) (.slice B rs.length cb)).alloc (.cells #[.slice C ps.length cc, .slice D rs.length cd] 27)
  have Y : Pair ((w.alloc (.cells #[.slice A ps.length ca, .slice B rs.length cb] 27)).alloc (.cells #[.slice C ps.length cc, .slice D rs.length cd] 27)) (w.heap.size + 1) 27 (.slice C ps.length cc) (.slice D rs.length cd) := by
    have := Pair.new (w.alloc (.cells #[.slice A ps.length ca, .slice B rs.length cb] 27)) 27 (.slice C ps.length cc) (.slice D rs.length cd); simpa using this
  go_enter Tryd.func11, Tryd.ntmps11
  go_wp2
  go_loopw [5] (fun i wr => ∃ k : Nat, k ≤ ps.length ∧ i = .int .i64 k ∧ Pair wr w.heap.size 27 (.slice A ps.length ca) (.slice B rs.length cb) ∧ Pair wr (w.heap.size + 1) 27 (.slice C ps.length cc) (.slice D rs.length cd) ∧ Below w.heap.size w wr) (fun i _ => ps.length - (intOf i).toNat)
  case atStart => exact ⟨0, by omega, rfl, X, Y, K⟩
  case round =>
    clear X Y K
    obtain ⟨k, hk, rfl, X, Y, K⟩ := hrel
    obtain ⟨x0, x1, -, -⟩ := X.cells
    obtain ⟨y0, y1, -, -⟩ := Y.cells
    by_cases hlt : k < ps.length
    · obtain ⟨b1, o1, rfl, -, c0, c1⟩ := (ha.below K).at_ hlt
      obtain ⟨b2, o2, rfl, -, d0, d1⟩ := (hc.below K).at_ hlt
      go_wp2
      go_quiet (fail)
      clear x0 x1 y0 y1 c0 c1 d0 d1
      go_wp2
      go_roundw
      case rel => exact ⟨k + 1, by omega, by go_num, X, Y, below_drewN K _⟩
      case measure => simp [intOf]; omega
    · go_wp2
      clear x0 x1 y0 y1
      go_loopw [6] (fun i wr => ∃ k : Nat, k ≤ rs.length ∧ i = .int .i64 k ∧ Pair wr w.heap.size 27 (.slice A ps.length ca) (.slice B rs.length cb) ∧ Pair wr (w.heap.size + 1) 27 (.slice C ps.length cc) (.slice D rs.length cd) ∧ Below w.heap.size w wr) (fun i _ => rs.length - (intOf i).toNat)
      case atStart => exact ⟨0, by omega, rfl, X, Y, K⟩
      case round =>
        clear X Y K hk hlt
        obtain ⟨k2, hk, rfl, X, Y, K⟩ := hrel
        obtain ⟨x0, x1, -, -⟩ := X.cells
        obtain ⟨y0, y1, -, -⟩ := Y.cells
        by_cases hlt : k2 < rs.length
        · obtain ⟨b1, o1, rfl, -, c0, c1, c2⟩ := (hb.below K).at_ hlt
          obtain ⟨b2, o2, rfl, -, d0, d1, d2⟩ := (hd.below K).at_ hlt
          go_wp2
          go_quiet (fail)
          clear x0 x1 y0 y1 c0 c1 c2 d0 d1 d2
          go_wp2
          go_roundw
          case rel => exact ⟨k2 + 1, by omega, by go_num, X, Y, below_drewN K _⟩
          case measure => simp [intOf]; omega
        · go_wp2
          go_ret
          exact ⟨rfl, K⟩

end Go.Proofs.YtjaifbbkfgfdeaaDoor
