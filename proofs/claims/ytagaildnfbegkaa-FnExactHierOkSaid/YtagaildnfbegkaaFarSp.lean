/-
  What spec.FarMarks computes.
-/
import Derived.Test.YtagaildnfbegkaaFarIm
import Derived.Deep.RegionHeld3
namespace Go.Proofs.Ytagaildnfbegkaa
open Go.RowKit Go.Deep Go.Maps

theorem farM_zero {ps : List (Int × Int)} {rs : List A3} {many : Int} (h : ps.length = 0) : farM ps rs many = [] := by
  unfold farM; split
  · rw [h, Nat.min_zero]; rfl
  · rfl
theorem farM_bt {ps : List (Int × Int)} {rs : List A3} {many : Int} (h : btB many 1 8 = false) : farM ps rs many = [] := farM_no (.inr (by
  refine Classical.byContradiction fun hc => ?_
  have : btB many 1 8 = true := btB_true (by omega) (by omega)
  rw [h] at this; cases this))
def lenOf : Value → Nat
  | .slice _ n _ => n
  | _ => 0
/-- What is read in the innermost round. -/
abbrev FaS (W0 : World) (b : Nat) (u v : Value) (og i : Nat) (z : Int) (w : World) : Prop := (w.cell? ⟨b, 0, none⟩ = some u ∧ w.cell? ⟨b, 1, none⟩ = some v) ∧ w.cell? ⟨og, i, none⟩ = some (.int .i64 z) ∧ Below W0.heap.size W0 w
theorem FaS.under {W0 : World} {b : Nat} {u v : Value} {og i : Nat} {z : Int} {w w' : World} (hb : Below w.heap.size w w') (h : FaS W0 b u v og i z w) : FaS W0 b u v og i z w' := ⟨⟨cell_under hb h.1.1, cell_under hb h.1.2⟩, cell_under hb h.2.1, h.2.2.trans (hb.mono h.2.2.size)⟩
theorem FaS.bel {W0 : World} {b : Nat} {u v : Value} {og i : Nat} {z : Int} {w : World} (h : FaS W0 b u v og i z w) : Below W0.heap.size W0 w := h.2.2
theorem anyH_monoF {P : Program} {ops : Array Oper} {Q : Exit → Act → World → Prop} {md : Region.Mode} {S S' : World → Prop} (h : ∀ w, S' w → S w) :
    ∀ (fuel : Nat) (listed : Array Bool) (a : Act) (w : World), wpAnyH P md ops Q S' fuel listed a w → wpAnyH P md ops Q S fuel listed a w
  | 0, _, _, _, k => k
  | fuel + 1, _, _, _, k => ⟨k.1, fun i hi => wpOp_mono (fun a' w' k' => ⟨h w' k'.1, anyH_monoF h fuel _ a' w' k'.2⟩) (k.2 i hi)⟩
theorem gap_take {n : Nat} {rs : List A3} {L : List Nat} {i : Nat} (hi : i < L.length) (v : Nat) : gap n rs (L.take (i + 1)) v = gap1 (gap n rs (L.take i) v) (zg (dst n rs (L.getD i 0)) v) := by
  rw [List.take_succ_eq_append_getElem hi, gap_snoc, List.getD_eq_getElem?_getD, List.getElem?_eq_getElem hi]; rfl
theorem in_take {L : List Nat} {i : Nat} (hi : i < L.length) (v : Nat) : decide (v ∈ L.take (i + 1)) = (decide (v ∈ L.take i) || ((L.getD i 0 : Nat) : Int) == (v : Int)) := by
  have e : L.getD i 0 = L[i] := by rw [List.getD_eq_getElem?_getD, List.getElem?_eq_getElem hi]; rfl
  rw [e, Bool.eq_iff_iff, Bool.or_eq_true, decide_eq_true_iff, decide_eq_true_iff, beq_iff_eq, List.take_succ_eq_append_getElem hi, List.mem_append, List.mem_singleton]
  constructor
  · rintro (h | h)
    · exact .inl h
    · exact .inr (by omega)
  · rintro (h | h)
    · exact .inl h
    · exact .inr (by omega)
theorem natZ_get {L : List Nat} {i : Nat} (hi : i < L.length) : zg (natZ L) i = ((L.getD i 0 : Nat) : Int) := by
  unfold zg natZ; simp [List.getD_eq_getElem?_getD, hi]
theorem natZ_len (L : List Nat) : (natZ L).length = L.length := by unfold natZ; simp

end Go.Proofs.Ytagaildnfbegkaa
