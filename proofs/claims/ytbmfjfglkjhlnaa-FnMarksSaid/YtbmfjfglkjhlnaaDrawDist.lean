/-
  What (*l01Cur).node, spec.DrawDistFrom and spec.DrawParts leave: some number; some network and a number; some network.
-/
import Derived.Test.YtbmfjfglkjhlnaaDrawTurn
namespace Go.Proofs.Ytbmfjfglkjhlnaa
open Go.RowKit Go.Deep

theorem max_bd (n : Nat) (hn : n ≤ 1000) : (if (n : Int) > 1 then (n : Int) else 1) ≤ 1000 := by split <;> omega

theorem node_any (w : World) (c : Nat) (C : Option Addr) (len cap m : Nat) (A B : Option Addr) (n ca k cb : Nat) (hm : m ≤ 500000) (h1 : 2 ≤ n) (hn : n ≤ 1000) (h : CurAt w c C len cap m) :
    Calls Try.prog 73 #[.pointer (some ⟨c, 0, none⟩), .agg #[.slice A n ca, .slice B k cb]] w (Drawn w c C len cap (m + 3)) := by
  have hcl := h.lt
  have X := Pair.new w 34 (.slice A n ca) (.slice B k cb)
  have k0 := h.alloc (.cells #[.slice A n ca, .slice B k cb] 34)
  have G := only_alloc (World.grownBy.refl w (some c)) (.cells #[.slice A n ca, .slice B k cb] 34)
  go_enter Try.func73, Try.ntmps73
  go_wp2_with fail
  refine (once_any _ c C len cap m 14 (by omega) k0 (by omega) (by omega)).mono ?_
  rintro e w1 ⟨b, rfl, k1, g1⟩
  replace X := X.grown' g1 (fun g e => by injection e with e; omega)
  replace G := only_trans G g1
  clear g1 k0
  cases b with
  | true =>
    go_wp2_with fail
    refine (raw_any _ c C len cap (m + 1) (by omega) k1).mono ?_
    rintro e w2 ⟨v, rfl, hv0, hv1, k2, g2⟩
    replace G := only_trans G g2
    clear g2
    go_wp2
    go_ret
    exact ⟨v, rfl, hv0, hv1, k2, G⟩
  | false =>
    obtain ⟨x0, x1, -, -⟩ := X.cells
    go_wp2_with fail
    refine (pick_any _ c C len cap (m + 1) _ (by omega) k1 (by omega)).mono ?_
    rintro e w2 ⟨v, rfl, hv0, hv1, -, k2, g2, -⟩
    have hv2 := hv1 (by omega)
    replace G := only_trans G g2
    clear g2 x0 x1 X hv1
    go_wp2
    go_ret
    exact ⟨v, rfl, by omega, by omega, k2.more (by omega), G⟩

/-- Some network and a number; nothing that was there has turned. -/
def SomeNetInt (w : World) (e : Ending) (w' : World) : Prop :=
  ∃ (ad : Addr) (B : Option Addr) (ca cb : Nat) (ps : List (Int × Int)) (rs : List A3) (s : Int), e = .returned (.tuple #[.agg #[.slice (some ad) ps.length ca, .slice B rs.length cb], .int .i64 s]) ∧ 2 ≤ ps.length ∧ ps.length ≤ 21 ∧ rs.length ≤ 100 ∧ In64 s ∧ IsPts w' (some ad) ps ∧ IsArcs w' B rs ∧ Below w.heap.size w w'

end Go.Proofs.Ytbmfjfglkjhlnaa
