/-
  What spec.Turned and impl.Turned compute.
-/
import Derived.Test.YtagaildnfbegkabPutArc
import Derived.Test.YtagaildnfbegkabNetImpl
import Derived.StillTailTactics
import Derived.Deep.AppendLies
import Derived.Deep.RegionLaw
namespace Go.Proofs.Ytagaildnfbegkab
open Go.RowKit Go.Deep

def cellsP (l : List (Int × Int)) : List Value := l.flatMap fun a => [.int .i64 a.1, .int .i64 a.2]
theorem cellsP_len (l : List (Int × Int)) : (cellsP l).length = l.length * 2 := by
  induction l with
  | nil => rfl
  | cons a r ih => unfold cellsP at *; simp only [List.flatMap_cons, List.length_append, List.length_cons, List.length_nil, ih]; omega
theorem ptg_succ (a : Int × Int) (r : List (Int × Int)) (i : Nat) : ptg (a :: r) (i + 1) = ptg r i := by simp [ptg]
theorem flatP_succ (a : Int × Int) (r : List (Int × Int)) (j : Nat) : flatP (a :: r) (j + 2) = flatP r j := by
  unfold flatP
  rw [show (j + 2) % 2 = j % 2 by omega, show (j + 2) / 2 = j / 2 + 1 by omega, ptg_succ]
theorem cellsP_get : ∀ (l : List (Int × Int)) (j : Nat), j < l.length * 2 → (cellsP l)[j]? = some (.int .i64 (flatP l j))
  | [], j, h => by simp at h
  | a :: r, 0, _ => by simp [cellsP, flatP, ptg]
  | a :: r, 1, _ => by simp [cellsP, flatP, ptg]
  | a :: r, j + 2, h => by
    rw [flatP_succ, ← cellsP_get r j (by simp at h; omega)]
    simp [cellsP]
theorem cellsP_one (l : List (Int × Int)) : ∀ u ∈ cellsP l, u.oneCell' = true := by
  intro u hu
  unfold cellsP at hu
  obtain ⟨a, -, h⟩ := List.mem_flatMap.1 hu
  rcases List.mem_cons.1 h with rfl | h
  · rfl
  · rcases List.mem_cons.1 h with rfl | h
    · rfl
    · cases h
theorem IsPts.news {w : World} {b off : Nat} {ps : List (Int × Int)} (h : IsPts w (some ⟨b, off, none⟩) ps) : ∀ j u, (cellsP ps)[j]? = some u → w.cell? ((⟨b, off, none⟩ : Addr).add j) = some u := by
  intro j u hj
  have hjn : j < ps.length * 2 := by have := (List.getElem?_eq_some_iff.1 hj).1; rwa [cellsP_len] at this
  rw [cellsP_get _ _ hjn] at hj
  obtain ⟨b', off', hA, -, hc⟩ := h (by omega)
  injection hA with hA
  injection hA with hA1 hA2
  subst hA1 hA2
  obtain ⟨c0, c1⟩ := hc (j / 2) (by omega)
  rw [← hj, Addr.add_lit]
  unfold flatP
  rcases (show j % 2 = 0 ∨ j % 2 = 1 by omega) with r | r
  · rw [if_pos r, ← c0, show off + j = off + j / 2 * 2 by omega]
  · rw [if_neg (by omega), ← c1, show off + j = off + j / 2 * 2 + 1 by omega]
theorem IsPts.news' {w : World} {ad : Addr} {ps : List (Int × Int)} (h : IsPts w (some ad) ps) : ∀ j u, (cellsP ps)[j]? = some u → w.cell? (ad.add j) = some u := by
  intro j u hj
  have hjn : j < ps.length * 2 := by have := (List.getElem?_eq_some_iff.1 hj).1; rwa [cellsP_len] at this
  obtain ⟨b, off, hA, -, -⟩ := h (by omega)
  injection hA with hA
  subst hA
  exact h.news j u hj
theorem ownsRow_far {w : World} {base : Nat} {e : TypeId} {size : Nat} {v : Value} {n : Nat} {xs : List Value} (h : w.ownsRow base e size v n xs) {c : Nat} (hc : c < base) (i : Nat) (x : Value) : (w.setCell ⟨c, i, none⟩ x).ownsRow base e size v n xs := ownsRow_only (c := c) h (grown_set (World.grownBy.refl w _) i x) hc
theorem ownsRow_len {w : World} {base : Nat} {e : TypeId} {size : Nat} {v : Value} {n n' : Nat} {xs : List Value} (h : w.ownsRow base e size v n xs) (he : n = n') : w.ownsRow base e size v n' xs := he ▸ h
/-- What Turned answers: nothing where the network is not valid. -/
def turnP (ps : List (Int × Int)) (rs : List A3) : List (Int × Int) := if netB ps rs = true then ps else []
def turnR (ps : List (Int × Int)) (rs : List A3) : List A3 := if netB ps rs = true then turnL rs else []

theorem turn_len {rs : List A3} (h : rs.Pairwise Less) : (turnL rs).length = rs.length := by
  suffices ∀ n (rs : List A3), rs.length = n → rs.Pairwise Less → (turnL rs).length = n from this _ rs rfl h
  intro n
  induction n with
  | zero => intro rs hl _; have := List.length_eq_zero_iff.1 hl; subst this; rfl
  | succ n ih =>
    intro rs hl hp
    have hne : rs ≠ [] := by intro e; subst e; simp at hl
    have hs := List.dropLast_concat_getLast hne
    rw [← hs] at hp ⊢
    obtain ⟨h1, -, h3⟩ := List.pairwise_append.1 hp
    have hd := ih rs.dropLast (by simp [hl]) h1
    obtain ⟨-, g2⟩ := turnL_spec h1
    rw [turnL_snoc]
    have hput : ∀ (l : List A3) (a : A3), (∀ y ∈ l, cmpA y a ≠ 0) → (putA l a).length = l.length + 1 := by
      intro l a
      induction l with
      | nil => intro _; rfl
      | cons y r ih2 =>
        intro hno
        rw [putA]
        by_cases hc : cmpA y a < 0
        · rw [if_pos hc, List.length_cons, ih2 (fun z hz => hno z (List.mem_cons_of_mem _ hz))]; rfl
        · rw [if_neg hc, if_neg (hno y (by simp))]; rfl
    rw [hput _ _ (fun y hy e => by
      have := h3 _ ((g2 y).1 hy) (rs.getLast hne) (by simp)
      obtain ⟨e1, e2⟩ := cmpA_zero e
      unfold revA at *; unfold Less at this
      simp only at *; omega), hd]
/-- A part of the arcs of a valid network. -/
theorem rise_take {rs : List A3} (h : rs.Pairwise Less) (k : Nat) : (rs.take k).Pairwise Less := List.Pairwise.sublist (List.take_sublist k rs) h
theorem take_snoc3 {rs : List A3} {k : Nat} (h : k < rs.length) : rs.take (k + 1) = rs.take k ++ [arg rs k] := by
  rw [List.take_succ_eq_append_getElem h]; simp [arg, h]
theorem turn_small {rs : List A3} {n : Nat} (hn : n ≤ 1000) (h : rs.Pairwise Less) (hb : ∀ x ∈ rs, (0 ≤ x.1 ∧ x.1 < (n : Int)) ∧ (0 ≤ x.2.1 ∧ x.2.1 < (n : Int))) : ∀ x ∈ turnL rs, Small x := fun x hx => by
  have := hb _ (((turnL_spec h).2 x).1 hx)
  unfold revA at this
  unfold Small
  simp only at this
  omega
theorem netB_mem {ps : List (Int × Int)} {rs : List A3} (h : netB ps rs = true) : ∀ x ∈ rs, (0 ≤ x.1 ∧ x.1 < (ps.length : Int)) ∧ (0 ≤ x.2.1 ∧ x.2.1 < (ps.length : Int)) := fun x hx => by
  obtain ⟨i, hi, rfl⟩ := mem_arg hx
  have := netB_arc h hi
  exact ⟨this.1, this.2.1⟩

theorem rowTurn_len (rs : List A3) : (rowTurn rs).length = rs.length := by simp [rowTurn]
theorem rowTurn_at {rs : List A3} {k : Nat} (hk : k < rs.length) : arg (rowTurn rs) k = revA (arg rs (placed (kfT rs) rs.length rs.length k).toNat) := by
  unfold rowTurn arg; simp [hk]; rfl
theorem take_row {rs : List A3} {k : Nat} (hk : k < rs.length) : (rowTurn rs).take (k + 1) = (rowTurn rs).take k ++ [revA (arg rs (placed (kfT rs) rs.length rs.length k).toNat)] := by
  rw [take_snoc3 (by rw [rowTurn_len]; exact hk), rowTurn_at hk]

end Go.Proofs.Ytagaildnfbegkab
