/-
  What spec.l05Arc and spec.RouteOk compute.
-/
import Derived.Test.YtagaildnfbegkaaRouteMath
import Derived.Test.YtagaildnfbegkaaDistSpec
import Derived.Test.YtagaildnfbegkaaNetImpl
namespace Go.Proofs.Ytagaildnfbegkaa
open Go.RowKit Go.Deep

/-- A network's box and what was there ahead of it. -/
abbrev NtS (base : World) (xb : Nat) (u v : Value) (w : World) : Prop := w.cell? ⟨xb, 0, none⟩ = some u ∧ w.cell? ⟨xb, 1, none⟩ = some v ∧ Below base.heap.size base w
/-- .. and two cells beside. -/
abbrev RtS (base : World) (xb : Nat) (u v : Value) (b i0 : Nat) (z0 : Int) (i1 : Nat) (z1 : Int) (w : World) : Prop :=
  w.cell? ⟨xb, 0, none⟩ = some u ∧ w.cell? ⟨xb, 1, none⟩ = some v ∧ w.cell? ⟨b, i0, none⟩ = some (.int .i64 z0) ∧ w.cell? ⟨b, i1, none⟩ = some (.int .i64 z1) ∧ Below base.heap.size base w
section
variable {base w w' : World} {xb : Nat} {u v : Value} {b i0 i1 : Nat} {z0 z1 : Int}
theorem NtS.under (hb : Below w.heap.size w w') (h : NtS base xb u v w) : NtS base xb u v w' := ⟨cell_under hb h.1, cell_under hb h.2.1, h.2.2.trans (hb.mono h.2.2.size)⟩
theorem NtS.drew (h : NtS base xb u v w) : NtS base xb u v w.drew := ⟨h.1, h.2.1, h.2.2.drew⟩
theorem NtS.bel (h : NtS base xb u v w) : Below base.heap.size base w := h.2.2
theorem RtS.under (hb : Below w.heap.size w w') (h : RtS base xb u v b i0 z0 i1 z1 w) : RtS base xb u v b i0 z0 i1 z1 w' := ⟨cell_under hb h.1, cell_under hb h.2.1, cell_under hb h.2.2.1, cell_under hb h.2.2.2.1, h.2.2.2.2.trans (hb.mono h.2.2.2.2.size)⟩
theorem RtS.drew (h : RtS base xb u v b i0 z0 i1 z1 w) : RtS base xb u v b i0 z0 i1 z1 w.drew := ⟨h.1, h.2.1, h.2.2.1, h.2.2.2.1, h.2.2.2.2.drew⟩
theorem RtS.bel (h : RtS base xb u v b i0 z0 i1 z1 w) : Below base.heap.size base w := h.2.2.2.2
theorem RtS.net (h : RtS base xb u v b i0 z0 i1 z1 w) : NtS base xb u v w := ⟨h.1, h.2.1, h.2.2.2.2⟩
end

set_option maxHeartbeats 1000000 in
theorem l05Arc_any (A B : Option Addr) (ca cb : Nat) (ps : List (Int × Int)) (rs : List (Int × Int × Int)) (u v : Int) (w : World) (hm : rs.length ≤ 1048576) (hb : IsArcs w B rs) :
    Calls Try.prog 45 #[.agg #[.slice A ps.length ca, .slice B rs.length cb], .int .i64 u, .int .i64 v] w fun e w' => e = .returned (.int .i64 (findA rs u v)) ∧ Below w.heap.size w w' := by
  have X := Pair.new w 49 (.slice A ps.length ca) (.slice B rs.length cb)
  have K := below1 w (.cells #[.slice A ps.length ca, .slice B rs.length cb] 49)
  go_enter Try.func45, Try.ntmps45
  go_wp2
  go_loopw [7] (fun i wr => ∃ k : Nat, k ≤ rs.length ∧ i = .int .i64 k ∧ Pair wr w.heap.size 49 (.slice A ps.length ca) (.slice B rs.length cb) ∧ Below w.heap.size w wr ∧ ∀ j, j < k → hit rs u v j = false) (fun i _ => rs.length - (intOf i).toNat)
  case atStart => exact ⟨0, by omega, rfl, X, K, fun j hj => by omega⟩
  case round =>
    clear X K
    obtain ⟨k, hk, rfl, X, K, hall⟩ := hrel
    obtain ⟨x0, x1, -, -⟩ := X.cells
    have HALL := Lib.hid hall
    clear hall
    by_cases hlt : k < rs.length
    · obtain ⟨b, off, rfl, -, c0, c1, c2⟩ := (hb.below K).at_ hlt
      cases h1 : (arg rs k).1 == u with
      | false =>
        have HH := Lib.hid (show hit rs u v k = false by unfold hit; rw [h1]; rfl)
        go_wp2
        go_roundw
        case rel => exact ⟨k + 1, by omega, by go_num, X, K, fun j hj => by
          rcases Nat.lt_or_ge j k with h | h
          · exact HALL.out j h
          · obtain rfl : j = k := by omega
            exact HH.out⟩
        case measure => simp [intOf]; omega
      | true =>
        cases h2 : (arg rs k).2.1 == v with
        | false =>
          have HH := Lib.hid (show hit rs u v k = false by unfold hit; rw [h1, h2]; rfl)
          go_wp2
          go_roundw
          case rel => exact ⟨k + 1, by omega, by go_num, X, K, fun j hj => by
            rcases Nat.lt_or_ge j k with h | h
            · exact HALL.out j h
            · obtain rfl : j = k := by omega
              exact HH.out⟩
          case measure => simp [intOf]; omega
        | true =>
          have HH := Lib.hid (findA_hit hlt (show hit rs u v k = true by unfold hit; rw [h1, h2]; rfl) HALL.out)
          go_wp2
          go_ret
          exact ⟨retI HH.out.symm, K⟩
    · obtain rfl : k = rs.length := by omega
      have HH := Lib.hid (findA_none HALL.out)
      clear hk hlt
      go_wp2
      go_ret
      exact ⟨retI HH.out.symm, K⟩

end Go.Proofs.Ytagaildnfbegkaa
