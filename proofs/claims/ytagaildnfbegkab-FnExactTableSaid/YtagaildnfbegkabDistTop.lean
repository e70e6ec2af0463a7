/-
  What DistFrom, DistTo and Between compute, in the program and in the specification.
-/
import Derived.Test.YtagaildnfbegkabDistImpl
namespace Go.Proofs.Ytagaildnfbegkab
open Go.RowKit Go.Deep

theorem dF_no {ps : List (Int × Int)} {rs : List A3} {s : Int} (h : netB ps rs = false ∨ btB s 0 ((ps.length : Int) - 1) = false) : dF ps rs s = [] := by
  unfold dF; rw [if_neg]; rintro ⟨h1, h2⟩; rcases h with h | h
  · rw [h1] at h; cases h
  · rw [h2] at h; cases h
theorem dF_yes {ps : List (Int × Int)} {rs : List A3} {s : Nat} (h : netB ps rs = true) (hs : s < ps.length) : dF ps rs s = dst ps.length rs s := by
  unfold dF; rw [if_pos ⟨h, btB_true (by omega) (by omega)⟩, Int.toNat_natCast]
theorem dT_no {ps : List (Int × Int)} {rs : List A3} {s : Int} (h : netB ps rs = false ∨ btB s 0 ((ps.length : Int) - 1) = false) : dT ps rs s = [] := by
  unfold dT; rw [if_neg]; rintro ⟨h1, h2⟩; rcases h with h | h
  · rw [h1] at h; cases h
  · rw [h2] at h; cases h
theorem dT_yes {ps : List (Int × Int)} {rs : List A3} {s : Nat} (h : netB ps rs = true) (hs : s < ps.length) : dT ps rs s = dst ps.length (turnL rs) s := by
  unfold dT; rw [if_pos ⟨h, btB_true (by omega) (by omega)⟩, Int.toNat_natCast]
theorem dB_no {ps : List (Int × Int)} {rs : List A3} {s t : Int} (h : netB ps rs = false ∨ btB s 0 ((ps.length : Int) - 1) = false ∨ btB t 0 ((ps.length : Int) - 1) = false) : dB ps rs s t = -1 := by
  unfold dB; rw [if_neg]; rintro ⟨h1, h2, h3⟩; rcases h with h | h | h
  · rw [h1] at h; cases h
  · rw [h2] at h; cases h
  · rw [h3] at h; cases h
theorem dB_yes {ps : List (Int × Int)} {rs : List A3} {s t : Nat} (h : netB ps rs = true) (hs : s < ps.length) (ht : t < ps.length) : dB ps rs s t = zg (dst ps.length rs s) t := by
  unfold dB; rw [if_pos ⟨h, btB_true (by omega) (by omega), btB_true (by omega) (by omega)⟩, Int.toNat_natCast, Int.toNat_natCast]
theorem dF_len (ps : List (Int × Int)) (rs : List A3) (s : Int) : (dF ps rs s).length ≤ ps.length := by
  unfold dF; split
  · rw [dst_len]; exact Nat.le_refl _
  · simp
theorem dT_len (ps : List (Int × Int)) (rs : List A3) (s : Int) : (dT ps rs s).length ≤ ps.length := by
  unfold dT; split
  · rw [dst_len]; exact Nat.le_refl _
  · simp
theorem node_is {n : Nat} {s : Int} (h : btB s 0 ((n : Int) - 1) = true) : ∃ S : Nat, s = (S : Int) ∧ S < n := by
  have := btB_iff.1 h
  exact ⟨s.toNat, by omega, by omega⟩
theorem intsMade_nil {w w' : World} {zs : List Int} (hz : zs = []) (A : Option Addr) (c : Nat) (K : Below w.heap.size w w') : IntsMade w zs (.returned (.slice A 0 c)) w' := by
  subst hz; exact ⟨A, c, rfl, Nat.zero_le _, fun h => absurd h (by simp), K⟩
theorem intsMade_row {w w' : World} {zs : List Int} {n g : Nat} (hn : zs.length = n) (hg : w.heap.size ≤ g) (I : IRow w' g n (zg zs)) (K : Below w.heap.size w w') : IntsMade w zs (.returned (.slice (some ⟨g, 0, none⟩) n n)) w' := irow_made hn I hg K
/-- A list made by a call stays, seen from an elder world. -/
theorem intsMade_elder {w0 w w' : World} {zs : List Int} {e : Ending} (K : Below w0.heap.size w0 w) (h : IntsMade w zs e w') : IntsMade w0 zs e w' := by
  obtain ⟨A, c, h1, h2, h3, h4⟩ := h
  exact ⟨A, c, h1, h2, fun hp => by obtain ⟨g, off, g1, g2, g3⟩ := h3 hp; exact ⟨g, off, g1, Nat.le_trans K.size g2, g3⟩, K.trans (h4.mono K.size)⟩

theorem own_arcs {w : World} {base : Nat} {B : Option Addr} {rs : List A3} (h : OwnSl w base 161 B (rs.length * 3) (flatA rs)) : IsArcs w B rs := fun hp => by
  obtain ⟨g, off, rfl, -, ho⟩ := h (by omega)
  exact ⟨g, off, rfl, ho.lt, fun i hi => ⟨by rw [ho.cell (i := i * 3) (by omega), flatA_0], by rw [show off + i * 3 + 1 = off + (i * 3 + 1) by omega, ho.cell (i := i * 3 + 1) (by omega), flatA_1], by rw [show off + i * 3 + 2 = off + (i * 3 + 2) by omega, ho.cell (i := i * 3 + 2) (by omega), flatA_2]⟩⟩
theorem dF_turn {ps : List (Int × Int)} {rs : List A3} (h : netB ps rs = true) (s : Int) : dF ps (turnL rs) s = dT ps rs s := by
  unfold dF dT; rw [h, turn_valid h]
theorem dF_none (s : Int) : dF [] [] s = [] := dF_no (.inr (by
  cases e : btB s 0 ((([] : List (Int × Int)).length : Int) - 1) with
  | false => rfl
  | true => have := btB_iff.1 e; simp at this; omega))

end Go.Proofs.Ytagaildnfbegkab
