/-
  One round over the arcs in the order of the rank at which they are entered is enough (mathematics).
-/
import Derived.Test.YtagaildnfbegkabRungsIm2
namespace Go.Proofs.Ytagaildnfbegkab
open Go.RowKit Go.Deep Go.Maps

section
variable {zs : List Int} {rs : List A4} {up : Bool} {s : Nat}
theorem Ci.next {d : List Int} (h : Ci zs rs up s d) (hr : hok zs.length rs) {a c : Nat} (ha : a < rs.length) (hc : c < rs.length) (hac : zg zs (lw rs up a) ≤ zg zs (lw rs up c)) (r : rlxA zs rs up d c)
    (hcl : a = c ∨ ¬ rlxA zs rs up d a) : ¬ rlxA zs rs up (d.set (hg rs up c) (zg d (lw rs up c) + lnZ rs c)) a := by
  obtain ⟨-, l1, -, l2, l3, -⟩ := hok_at hr up hc
  obtain ⟨-, m1, -, m2, m3, -⟩ := hok_at hr up ha
  have hl : hg rs up c < d.length := by rw [h.len]; exact l2
  have hlow := h.low _ l1
  obtain ⟨r1, r2, r3⟩ := r
  unfold useA at r1
  have hne : hg rs up c ≠ lw rs up a := fun e => by rw [e] at r1; omega
  rintro ⟨u1, u2, u3⟩
  rw [zg_set _ _ _ _ hl, if_neg hne] at u2
  rw [zg_set d _ (hg rs up a) _ hl, zg_set d _ (lw rs up a) _ hl, if_neg hne] at u3
  by_cases e : hg rs up c = hg rs up a
  · rw [if_pos e] at u3
    rcases hcl with rfl | hcl
    · omega
    · have q : ¬ (zg d (hg rs up a) = -1 ∨ zg d (lw rs up a) + lnZ rs a < zg d (hg rs up a)) := fun k => hcl ⟨u1, u2, k⟩
      rw [e] at r3
      omega
  · rw [if_neg e] at u3
    rcases hcl with rfl | hcl
    · exact e rfl
    · exact hcl ⟨u1, u2, u3⟩
theorem luse_at {L : List Nat} (hp : L.Perm (luse zs rs up rs.length)) {k : Nat} (hk : k < L.length) : L.getD k 0 < rs.length ∧ useA zs rs up (L.getD k 0) := by
  have : L.getD k 0 ∈ L := by rw [List.getD_eq_getElem?_getD, List.getElem?_eq_getElem hk]; exact List.getElem_mem _
  exact luse_in.1 (hp.mem_iff.1 this)
theorem Ci.all {d : List Int} (h : Ci zs rs up s d) {L : List Nat} (hp : L.Perm (luse zs rs up rs.length)) (hcl : ∀ j, j < L.length → ¬ rlxA zs rs up d (L.getD j 0)) : Cl zs rs up s d :=
  h.done fun i hi r => by
    have hm : i ∈ L := hp.mem_iff.2 (luse_in.2 ⟨hi, r.1⟩)
    obtain ⟨j, hj, e⟩ := List.getElem_of_mem hm
    refine hcl j hj ?_
    rw [List.getD_eq_getElem?_getD, List.getElem?_eq_getElem hj]
    show rlxA zs rs up d L[j]
    rw [e]; exact r
end
theorem nrB_iff (d o : Int) : nrB d o = true ↔ o = -1 ∨ d < o := by unfold nrB; simp
end Go.Proofs.Ytagaildnfbegkab
