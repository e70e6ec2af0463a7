/-
  What the law of HierOk needs of the laws' own functions: what is left of the room behind a hierarchy.
-/
import Derived.Test.YtagaildnfbegkaaNetFrame
import Derived.Test.YtagaildnfbegkaaHierFrame
namespace Go.Proofs.Ytagaildnfbegkaa
open Go.RowKit Go.Deep

theorem szHierL_no (A B : Option Addr) (n m ca cb : Nat) (l : Int) (hn : n ≤ maxLen) (hm : m ≤ maxLen) (h0 : 0 ≤ l) (h1 : l ≤ 1048576) (h : l < (n : Int) + m) (w : World) :
    Calls Try.prog 14 #[.agg #[.slice A n ca, .slice B m cb], .int .i64 l] w fun e w' => e = .returned (.int .i64 (-1)) ∧ Below w.heap.size w w' := by
  by_cases hx : l < n
  · have H := Lib.hid (szn_no hx)
    go_enter Try.func14, Try.ntmps14
    go_wp2_with fail
    refine (szIntS_anyH A n ca l hn h0 h1 _).mono ?_; rintro e w' ⟨rfl, rfl⟩
    rw [H.out]
    go_wp2
    go_ret
    exact ⟨rfl, below1 _ _⟩
  · have H := Lib.hid (szn_yes hx)
    have H2 := Lib.hid (szn_no (show l - n < m by omega))
    obtain ⟨l2, hl2⟩ : ∃ l2 : Int, l2 = l - n := ⟨_, rfl⟩
    rw [← hl2] at H H2
    have hd : ¬ (l2 < 0) := by omega
    have hd2 : decide (l2 < 0) = false := decide_eq_false hd
    have hb2 : 0 ≤ l2 ∧ l2 ≤ 1048576 := by omega
    clear hl2 h
    go_enter Try.func14, Try.ntmps14
    go_wp2_with fail
    refine (szIntS_anyH A n ca l hn h0 h1 _).mono ?_; rintro e w' ⟨rfl, rfl⟩
    rw [H.out]
    go_wp2_with fail
    refine (szHArcS_any B m cb _ hm hb2.1 hb2.2 _).mono ?_; rintro e w' ⟨rfl, rfl⟩
    rw [H2.out]
    go_wp2
    go_ret
    exact ⟨rfl, below1 _ _⟩
theorem szHierL_yes (A B : Option Addr) (n m ca cb : Nat) (l : Int) (hn : n ≤ maxLen) (hm : m ≤ maxLen) (h0 : 0 ≤ l) (h1 : l ≤ 1048576) (h : ¬ l < (n : Int) + m) (w : World) :
    Calls Try.prog 14 #[.agg #[.slice A n ca, .slice B m cb], .int .i64 l] w fun e w' => ∃ z : Int, 0 ≤ z ∧ e = .returned (.int .i64 z) ∧ Below w.heap.size w w' := by
  have H := Lib.hid (szn_yes (show ¬ l < n by omega))
  have H2 := Lib.hid (szn_yes (show ¬ l - n < m by omega))
  obtain ⟨l2, hl2⟩ : ∃ l2 : Int, l2 = l - n := ⟨_, rfl⟩
  rw [← hl2] at H H2
  obtain ⟨l3, hl3⟩ : ∃ l3 : Int, l3 = l2 - m := ⟨_, rfl⟩
  rw [← hl3] at H2
  have hd : ¬ (l2 < 0) := by omega
  have hd2 : decide (l2 < 0) = false := decide_eq_false hd
  have he : ¬ (l3 < 0) := by omega
  have he2 : decide (l3 < 0) = false := decide_eq_false he
  have hz3 : 0 ≤ l3 := by omega
  have hb2 : 0 ≤ l2 ∧ l2 ≤ 1048576 := by omega
  clear hl2 hl3
  go_enter Try.func14, Try.ntmps14
  go_wp2_with fail
  refine (szIntS_anyH A n ca l hn h0 h1 _).mono ?_; rintro e w' ⟨rfl, rfl⟩
  rw [H.out]
  go_wp2_with fail
  refine (szHArcS_any B m cb _ hm hb2.1 hb2.2 _).mono ?_; rintro e w' ⟨rfl, rfl⟩
  rw [H2.out]
  go_wp2
  go_ret
  exact ⟨l3, hz3, rfl, below1 _ _⟩
/-- The two boxes of a law over a network and a hierarchy. -/
abbrev TwoS (base : World) (xb yb : Nat) (u v s t : Value) (w : World) : Prop :=
  w.cell? ⟨xb, 0, none⟩ = some u ∧ w.cell? ⟨xb, 1, none⟩ = some v ∧ w.cell? ⟨yb, 0, none⟩ = some s ∧ w.cell? ⟨yb, 1, none⟩ = some t ∧ Below base.heap.size base w
theorem TwoS.under {base w w' : World} {xb yb : Nat} {u v s t : Value} (q : Below w.heap.size w w') (h : TwoS base xb yb u v s t w) : TwoS base xb yb u v s t w' :=
  ⟨cell_under q h.1, cell_under q h.2.1, cell_under q h.2.2.1, cell_under q h.2.2.2.1, h.2.2.2.2.trans (q.mono h.2.2.2.2.size)⟩
theorem TwoS.drew {base w : World} {xb yb : Nat} {u v s t : Value} (h : TwoS base xb yb u v s t w) : TwoS base xb yb u v s t w.drew := TwoS.under (Below.refl _ _).drew h
theorem TwoS.bel {base w : World} {xb yb : Nat} {u v s t : Value} (h : TwoS base xb yb u v s t w) : Below base.heap.size base w := h.2.2.2.2

end Go.Proofs.Ytagaildnfbegkaa
