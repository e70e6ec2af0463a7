/-
  A potential of landmarks: what MarkPot gives; what impl.lead computes.
-/
import Derived.Test.YtagaildnfbegkaaFarSp
namespace Go.Proofs.Ytagaildnfbegkaa
open Go.RowKit Go.Deep Go.Maps

theorem max3_eq (m a b : Int) : (if (if m < a then a else m) < b then b else (if m < a then a else m)) = max (max m a) b := by
  by_cases h : m < a
  · rw [if_pos h]
    by_cases h2 : a < b
    · rw [if_pos h2]; omega
    · rw [if_neg h2]; omega
  · rw [if_neg h]
    by_cases h2 : m < b
    · rw [if_pos h2]; omega
    · rw [if_neg h2]; omega
/-- A distance less another one, or 0 where one of them is none. -/
def ld (x y : Int) : Int := if x = -1 ∨ y = -1 then 0 else x - y
theorem ld_no1 {x y : Int} (h : x = -1) : ld x y = 0 := if_pos (.inl h)
theorem ld_no2 {x y : Int} (h : y = -1) : ld x y = 0 := if_pos (.inr h)
theorem ld_yes {x y : Int} (h1 : x ≠ -1) (h2 : y ≠ -1) : ld x y = x - y := if_neg (by rintro (h | h); exact h1 h; exact h2 h)
def mkZ (n : Nat) (rs ts : List A3) (t : Nat) (zs : List Int) : Nat → Nat → Int
  | 0, _ => 0
  | i + 1, v => max (max (mkZ n rs ts t zs i v) (ld (zg (dst n ts (zg zs i).toNat) v) (zg (dst n ts (zg zs i).toNat) t))) (ld (zg (dst n rs (zg zs i).toNat) t) (zg (dst n rs (zg zs i).toNat) v))
theorem mkZ_pos (n : Nat) (rs ts : List A3) (t : Nat) (zs : List Int) : ∀ i v, 0 ≤ mkZ n rs ts t zs i v
  | 0, _ => Int.le_refl _
  | i + 1, v => by have := mkZ_pos n rs ts t zs i v; unfold mkZ; omega
/-- Whether all landmarks are nodes; what MarkPot gives. -/
def marksIn (n : Nat) (zs : List Int) : Bool := decide (∀ i, i < zs.length → btB (zg zs i) 0 ((n : Int) - 1) = true)
def markP (ps : List (Int × Int)) (rs : List A3) (t : Int) (zs : List Int) : List Int := if netB ps rs = true ∧ btB t 0 ((ps.length : Int) - 1) = true ∧ zs.length ≤ 8 ∧ marksIn ps.length zs = true then rowZ ps.length (mkZ ps.length rs (turnL rs) t.toNat zs zs.length) else []
theorem markP_no {ps : List (Int × Int)} {rs : List A3} {t : Int} {zs : List Int} (h : netB ps rs = false ∨ btB t 0 ((ps.length : Int) - 1) = false ∨ 8 < zs.length ∨ marksIn ps.length zs = false) : markP ps rs t zs = [] := by
  unfold markP; rw [if_neg]; rintro ⟨h1, h2, h3, h4⟩; rcases h with h | h | h | h
  · rw [h1] at h; cases h
  · rw [h2] at h; cases h
  · omega
  · rw [h4] at h; cases h
theorem marksIn_no {n : Nat} {zs : List Int} {i : Nat} (hi : i < zs.length) (h : btB (zg zs i) 0 ((n : Int) - 1) = false) : marksIn n zs = false := decide_eq_false fun k => by rw [k i hi] at h; cases h
theorem marksIn_yes {n : Nat} {zs : List Int} {k : Nat} (hk : zs.length ≤ k) (h : ∀ i, i < k → i < zs.length → btB (zg zs i) 0 ((n : Int) - 1) = true) : marksIn n zs = true := decide_eq_true fun i hi => h i (by omega) hi
theorem markP_yes {ps : List (Int × Int)} {rs : List A3} {t : Nat} {zs : List Int} (h1 : netB ps rs = true) (ht : t < ps.length) (h3 : zs.length ≤ 8) (h4 : marksIn ps.length zs = true) : markP ps rs t zs = rowZ ps.length (mkZ ps.length rs (turnL rs) t zs zs.length) := by
  unfold markP; rw [if_pos ⟨h1, btB_true (by omega) (by omega), h3, h4⟩, Int.toNat_natCast]
theorem markP_len (ps : List (Int × Int)) (rs : List A3) (t : Int) (zs : List Int) (hn : ps.length ≤ 1048576) : (markP ps rs t zs).length ≤ 1048576 := by
  unfold markP; split
  · rw [rowZ_len]; exact hn
  · simp
theorem ld_bd {x y : Int} (hx : x = -1 ∨ 0 ≤ x ∧ x ≤ 200000) (hy : y = -1 ∨ 0 ≤ y ∧ y ≤ 200000) : -200000 ≤ ld x y ∧ ld x y ≤ 200000 := by
  unfold ld; split
  · omega
  · rename_i h
    have h1 : x ≠ -1 := fun e => h (.inl e)
    have h2 : y ≠ -1 := fun e => h (.inr e)
    omega
theorem irow_intsMade {w w' : World} {n g : Nat} {f : Nat → Int} (hg : w.heap.size ≤ g) (I : IRow w' g n f) (K : Below w.heap.size w w') : IntsMade w (rowZ n f) (.returned (.slice (some ⟨g, 0, none⟩) n n)) w' :=
  irow_made (rowZ_len n f) (I.congr fun _i hi => (rowZ_get hi).symm) hg K

/-- A list made by a call in a row of its own, with no room to spare. -/
def IntsFit (w : World) (zs : List Int) (e : Ending) (w' : World) : Prop :=
  ∃ A, e = .returned (.slice A zs.length zs.length) ∧ (0 < zs.length → ∃ g, A = some ⟨g, 0, none⟩ ∧ w.heap.size ≤ g ∧ IRow w' g zs.length (zg zs)) ∧ Below w.heap.size w w'
theorem IntsFit.made {w : World} {zs : List Int} {e : Ending} {w' : World} (h : IntsFit w zs e w') : IntsMade w zs e w' := by
  obtain ⟨A, rfl, h, K⟩ := h
  exact ⟨A, _, rfl, Nat.le_refl _, fun hp => by obtain ⟨g, rfl, h1, h2⟩ := h hp; exact ⟨g, 0, rfl, h1, h2⟩, K⟩
theorem intsFit_nil {w w' : World} {zs : List Int} (hz : zs = []) (A : Option Addr) (K : Below w.heap.size w w') : IntsFit w zs (.returned (.slice A 0 0)) w' := by
  subst hz; exact ⟨A, rfl, fun h => absurd h (by simp), K⟩
theorem irow_intsFit {w w' : World} {n g : Nat} {f : Nat → Int} (hg : w.heap.size ≤ g) (I : IRow w' g n f) (K : Below w.heap.size w w') : IntsFit w (rowZ n f) (.returned (.slice (some ⟨g, 0, none⟩) n n)) w' :=
  ⟨some ⟨g, 0, none⟩, by rw [rowZ_len], fun _ => ⟨g, rfl, hg, by rw [rowZ_len]; exact I.congr fun i hi => (rowZ_get hi).symm⟩, K⟩

end Go.Proofs.Ytagaildnfbegkaa
