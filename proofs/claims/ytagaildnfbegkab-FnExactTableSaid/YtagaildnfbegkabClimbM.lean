/-
  Ways that lead to ever greater ranks (mathematics): what is closed under them and reached by them is one list alone.
-/
import Derived.Test.YtagaildnfbegkabHierRow
import Derived.Test.YtagaildnfbegkabDistMath
namespace Go.Proofs.Ytagaildnfbegkab
open Go.RowKit Go.Deep Go.Maps

def lwZ (rs : List A4) (up : Bool) (i : Nat) : Int := if up then (hcg rs i).1 else (hcg rs i).2.1
def hgZ (rs : List A4) (up : Bool) (i : Nat) : Int := if up then (hcg rs i).2.1 else (hcg rs i).1
def lnZ (rs : List A4) (i : Nat) : Int := (hcg rs i).2.2.1
def hok (n : Nat) (rs : List A4) : Prop := ∀ i, i < rs.length → (0 ≤ (hcg rs i).1 ∧ (hcg rs i).1 < (n : Int)) ∧ (0 ≤ (hcg rs i).2.1 ∧ (hcg rs i).2.1 < (n : Int)) ∧ 1 ≤ (hcg rs i).2.2.1 ∧ (hcg rs i).2.2.1 ≤ 1000000
def lw (rs : List A4) (up : Bool) (i : Nat) : Nat := (lwZ rs up i).toNat
def hg (rs : List A4) (up : Bool) (i : Nat) : Nat := (hgZ rs up i).toNat
def useA (zs : List Int) (rs : List A4) (up : Bool) (i : Nat) : Prop := zg zs (lw rs up i) < zg zs (hg rs up i)
theorem hok_at {n : Nat} {rs : List A4} (h : hok n rs) (up : Bool) {i : Nat} (hi : i < rs.length) : lwZ rs up i = (lw rs up i : Nat) ∧ lw rs up i < n ∧ hgZ rs up i = (hg rs up i : Nat) ∧ hg rs up i < n ∧ 1 ≤ lnZ rs i ∧ lnZ rs i ≤ 1000000 := by
  obtain ⟨a, b, c⟩ := h i hi
  unfold lw hg lwZ hgZ lnZ
  cases up <;> simp <;> omega
inductive Cw (zs : List Int) (rs : List A4) (up : Bool) (s : Nat) : Nat → Int → Prop
  | here : Cw zs rs up s s 0
  | on {i : Nat} {L : Int} : i < rs.length → useA zs rs up i → Cw zs rs up s (lw rs up i) L → Cw zs rs up s (hg rs up i) (L + lnZ rs i)
/-- The smallest lengths of such ways. -/
structure Cl (zs : List Int) (rs : List A4) (up : Bool) (s : Nat) (d : List Int) : Prop where
  len : d.length = zs.length
  start : zg d s = 0
  sound : ∀ v, v < zs.length → zg d v ≠ -1 → Cw zs rs up s v (zg d v)
  closed : ∀ i, i < rs.length → useA zs rs up i → zg d (lw rs up i) ≠ -1 → zg d (hg rs up i) ≠ -1 ∧ zg d (hg rs up i) ≤ zg d (lw rs up i) + lnZ rs i
  bound : ∀ v, v < zs.length → -1 ≤ zg d v ∧ zg d v ≤ (zs.length : Int) * 1000000
section
variable {zs : List Int} {rs : List A4} {up : Bool} {s : Nat}
theorem Cl.reach {d : List Int} (h : Cl zs rs up s d) {v : Nat} {L : Int} (w : Cw zs rs up s v L) : zg d v ≠ -1 ∧ zg d v ≤ L := by
  induction w with
  | here => rw [h.start]; omega
  | on hi hu _ ih => have := h.closed _ hi hu ih.1; omega
theorem Cl.one {d e : List Int} (h : Cl zs rs up s d) (k : Cl zs rs up s e) : d = e := by
  apply List.ext_getElem (by rw [h.len, k.len])
  intro v h1 h2
  have hv : v < zs.length := by rw [← h.len]; exact h1
  have e1 : zg d v = d[v] := by unfold zg; rw [List.getD_eq_getElem?_getD, List.getElem?_eq_getElem h1]; rfl
  have e2 : zg e v = e[v] := by unfold zg; rw [List.getD_eq_getElem?_getD, List.getElem?_eq_getElem h2]; rfl
  rw [← e1, ← e2]
  by_cases a : zg d v = -1
  · by_cases b : zg e v = -1
    · rw [a, b]
    · exact absurd a (h.reach (k.sound v hv b)).1
  · have q := k.reach (h.sound v hv a)
    have r := h.reach (k.sound v hv q.1)
    omega
end
/-- How many have been reached. -/
def cntR (d : List Int) : Nat := d.countP (fun x => x != -1)
def mvB (B : Nat) (x : Int) : Nat := if x = -1 then B else x.toNat
def mesB (B : Nat) (d : List Int) : Nat := (d.map (mvB B)).sum
theorem mesB_set (B : Nat) : ∀ (d : List Int) (i : Nat) (x : Int), i < d.length → mesB B (d.set i x) + mvB B (zg d i) = mesB B d + mvB B x
  | [], i, x, h => by simp at h
  | a :: d, 0, x, h => by simp [mesB, zg]; omega
  | a :: d, i + 1, x, h => by
    have ih := mesB_set B d i x (by simpa using h)
    have e : zg (a :: d) (i + 1) = zg d i := by simp [zg]
    rw [e]; simp [mesB] at ih ⊢; omega
theorem cntR_set : ∀ (d : List Int) (i : Nat) (x : Int), i < d.length → x ≠ -1 → (zg d i = -1 → cntR (d.set i x) = cntR d + 1) ∧ (zg d i ≠ -1 → cntR (d.set i x) = cntR d)
  | [], i, x, h, _ => by simp at h
  | a :: d, 0, x, h, hx => by
    have e : zg (a :: d) 0 = a := by simp [zg]
    rw [e]
    have q : (x != -1) = true := by simpa using hx
    refine ⟨fun h0 => ?_, fun h0 => ?_⟩
    · subst h0; simp [cntR, List.countP_cons, q]
    · have q2 : (a != -1) = true := by simpa using h0
      simp [cntR, List.countP_cons, q, q2]
  | a :: d, i + 1, x, h, hx => by
    have ih := cntR_set d i x (by simpa using h) hx
    have e : zg (a :: d) (i + 1) = zg d i := by simp [zg]
    rw [e]
    simp only [cntR, List.set_cons_succ, List.countP_cons] at ih ⊢
    exact ⟨fun h0 => by have := ih.1 h0; omega, fun h0 => by have := ih.2 h0; omega⟩
theorem cntR_le (d : List Int) : cntR d ≤ d.length := List.countP_le_length
/-- What every step keeps. -/
structure Ci (zs : List Int) (rs : List A4) (up : Bool) (s : Nat) (d : List Int) : Prop where
  len : d.length = zs.length
  start : zg d s = 0
  sound : ∀ v, v < zs.length → zg d v ≠ -1 → Cw zs rs up s v (zg d v)
  low : ∀ v, v < zs.length → -1 ≤ zg d v
  high : ∀ v, v < zs.length → zg d v ≤ (cntR d : Int) * 1000000
/-- The i-th arc makes a way shorter. -/
def rlxA (zs : List Int) (rs : List A4) (up : Bool) (d : List Int) (i : Nat) : Prop :=
  useA zs rs up i ∧ zg d (lw rs up i) ≠ -1 ∧ (zg d (hg rs up i) = -1 ∨ zg d (lw rs up i) + lnZ rs i < zg d (hg rs up i))
def dC (n s : Nat) : List Int := (List.replicate n (-1)).set s 0
section
variable {zs : List Int} {rs : List A4} {up : Bool} {s : Nat}
theorem zg_dC {n s : Nat} (hs : s < n) (v : Nat) (hv : v < n) : zg (dC n s) v = if v = s then 0 else -1 := by
  unfold dC
  rw [zg_set _ _ _ _ (by simpa using hs)]
  by_cases e : s = v
  · rw [if_pos e, if_pos e.symm]
  · rw [if_neg e, if_neg (fun h => e h.symm)]; unfold zg; simp [hv]
theorem Ci.begin (hs : s < zs.length) : Ci zs rs up s (dC zs.length s) := by
  have hl : (dC zs.length s).length = zs.length := by simp [dC]
  refine ⟨hl, by rw [zg_dC hs s hs, if_pos rfl], fun v hv h => ?_, fun v hv => ?_, fun v hv => ?_⟩
  · rw [zg_dC hs v hv] at h ⊢
    by_cases e : v = s
    · rw [if_pos e, e]; exact Cw.here
    · rw [if_neg e] at h; exact absurd rfl h
  · rw [zg_dC hs v hv]; split <;> omega
  · rw [zg_dC hs v hv]
    have : (0 : Int) ≤ (cntR (dC zs.length s) : Int) * 1000000 := by omega
    split <;> omega
theorem Ci.room {d : List Int} (h : Ci zs rs up s d) (hn : zs.length ≤ 1048576) {v : Nat} (hv : v < zs.length) : zg d v ≤ 1048576000000 ∧ -1 ≤ zg d v := by
  have a := h.high v hv
  have b := cntR_le d
  rw [h.len] at b
  exact ⟨by omega, h.low v hv⟩
theorem Ci.put {d : List Int} (h : Ci zs rs up s d) (hr : hok zs.length rs) {i : Nat} (hi : i < rs.length) (r : rlxA zs rs up d i) :
    Ci zs rs up s (d.set (hg rs up i) (zg d (lw rs up i) + lnZ rs i)) ∧ mesB (zs.length * 1000000 + 1) (d.set (hg rs up i) (zg d (lw rs up i) + lnZ rs i)) < mesB (zs.length * 1000000 + 1) d := by
  obtain ⟨-, l1, -, l2, l3, l4⟩ := hok_at hr up hi
  obtain ⟨r1, r2, r3⟩ := r
  have hl : hg rs up i < d.length := by rw [h.len]; exact l2
  have c := cntR_set d (hg rs up i) (zg d (lw rs up i) + lnZ rs i) hl (by have := h.low _ l1; omega)
  have hlow := h.low _ l1
  have hhi := h.high _ l1
  have hth := h.low _ l2
  have hsz : d.set (hg rs up i) (zg d (lw rs up i) + lnZ rs i) = d.set (hg rs up i) (zg d (lw rs up i) + lnZ rs i) := rfl
  have hcm : cntR d ≤ cntR (d.set (hg rs up i) (zg d (lw rs up i) + lnZ rs i)) := by
    by_cases e : zg d (hg rs up i) = -1
    · rw [c.1 e]; omega
    · rw [c.2 e]; omega
  have hnew : zg d (lw rs up i) + lnZ rs i ≤ (cntR (d.set (hg rs up i) (zg d (lw rs up i) + lnZ rs i)) : Int) * 1000000 := by
    by_cases e : zg d (hg rs up i) = -1
    · rw [c.1 e]; push_cast; omega
    · rw [c.2 e]
      have := h.high _ l2
      rcases r3 with r3 | r3
      · exact absurd r3 e
      · omega
  have hcl := cntR_le (d.set (hg rs up i) (zg d (lw rs up i) + lnZ rs i))
  rw [List.length_set, h.len] at hcl
  refine ⟨⟨by rw [List.length_set, h.len], ?_, fun v hv hne => ?_, fun v hv => ?_, fun v hv => ?_⟩, ?_⟩
  · rw [zg_set _ _ _ _ hl]
    split
    · rename_i e
      rw [e, h.start] at r3
      omega
    · exact h.start
  · rw [zg_set _ _ _ _ hl] at hne ⊢
    split
    · rename_i e
      subst e
      exact Cw.on hi r1 (h.sound _ l1 r2)
    · rename_i e
      rw [if_neg e] at hne
      exact h.sound v hv hne
  · rw [zg_set _ _ _ _ hl]
    split
    · omega
    · exact h.low v hv
  · rw [zg_set _ _ _ _ hl]
    split
    · exact hnew
    · have := h.high v hv; omega
  · have m := mesB_set (zs.length * 1000000 + 1) d (hg rs up i) (zg d (lw rs up i) + lnZ rs i) hl
    have q : mvB (zs.length * 1000000 + 1) (zg d (lw rs up i) + lnZ rs i) < mvB (zs.length * 1000000 + 1) (zg d (hg rs up i)) := by
      unfold mvB
      rw [if_neg (by omega)]
      split
      · omega
      · rename_i e
        rcases r3 with r3 | r3
        · exact absurd r3 e
        · omega
    omega
theorem Ci.done {d : List Int} (h : Ci zs rs up s d) (hc : ∀ i, i < rs.length → ¬ rlxA zs rs up d i) : Cl zs rs up s d :=
  ⟨h.len, h.start, h.sound, fun i hi hu hl => by
    have := hc i hi
    unfold rlxA at this
    constructor
    · exact fun e => this ⟨hu, hl, .inl e⟩
    · have q : ¬ (zg d (lw rs up i) + lnZ rs i < zg d (hg rs up i)) := fun e => this ⟨hu, hl, .inr e⟩
      omega, fun v hv => by
    have a := h.high v hv
    have b := cntR_le d
    rw [h.len] at b
    exact ⟨h.low v hv, by omega⟩⟩
end
end Go.Proofs.Ytagaildnfbegkab
