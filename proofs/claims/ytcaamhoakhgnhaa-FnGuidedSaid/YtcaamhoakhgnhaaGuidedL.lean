/-
  What the law of guided searches wants of them (mathematics).
-/
import Derived.Test.YtcaamhoakhgnhaaFoundAll
import Derived.Test.YtcaamhoakhgnhaaGuidedSp
namespace Go.Proofs.Ytcaamhoakhgnhaa
open Go.RowKit Go.Deep Go.Maps

theorem gdL_found {ps : List (Int × Int)} {rs : List A3} {zs : List Int} {s t : Int} (h : 0 < (gdL ps rs zs s t).length) : potB ps rs zs = true ∧ ∃ S T : Nat, s = S ∧ t = T ∧ S < ps.length ∧ T < ps.length ∧ Found ps.length rs zs S T (gdL ps rs zs S T) := by
  by_cases g : potB ps rs zs = true ∧ btB s 0 ((ps.length : Int) - 1) = true ∧ btB t 0 ((ps.length : Int) - 1) = true
  · obtain ⟨g1, g2, g3⟩ := g
    obtain ⟨S, rfl, hS⟩ := node_is g2
    obtain ⟨T, rfl, hT⟩ := node_is g3
    refine ⟨g1, S, T, rfl, rfl, hS, hT, ?_⟩
    rw [gdL_yes g1 hS hT]
    exact took_found (netZ_of g1) hS hT
  · unfold gdL at h; rw [if_neg g] at h; simp at h
theorem dists_at {zs : List Int} {R : List (Int × Int)} {k : Nat} (hk : k < R.length) : zg (dsL zs R) k = R[k].1 - zg zs R[k].2.toNat := by unfold zg dsL; rw [List.getD_eq_getElem?_getD, List.getElem?_map, List.getElem?_eq_getElem hk]; rfl
section
variable {n : Nat} {rs : List A3} {zs : List Int} {S T : Nat} {R : List (Int × Int)}
theorem Found.at_keyG (F : Found n rs zs S T R) {k : Nat} (hk : k < R.length) : 0 ≤ zg (idsL R) k ∧ zg (idsL R) k < n ∧ zg (dsL zs R) k = zg (dst n rs S) (zg (idsL R) k).toNat ∧ zg (dst n rs S) (zg (idsL R) k).toNat ≠ -1 := by
  rw [ids_at hk, dists_at hk]
  have h := F.rin _ (List.getElem_mem hk)
  have d := F.dist _ (List.getElem_mem hk)
  exact ⟨h.1, h.2, d.2, d.1⟩
theorem Found.at_lastG (F : Found n rs zs S T R) (h : 0 < R.length) : zg (idsL R) (R.length - 1) = T ↔ zg (dst n rs S) T ≠ -1 := by
  rw [ids_at (by omega)]
  rcases F.last with ⟨h1, h2, -⟩ | ⟨R0, x, rfl, hx, -, -⟩
  · exact ⟨fun e => absurd e (h2 _ (List.getElem_mem _)), fun e => absurd h1 e⟩
  · have e : (R0 ++ [x])[(R0 ++ [x]).length - 1]'(by simp) = x := by simp
    have k := F.dist x (by simp)
    rw [hx, Int.toNat_natCast] at k
    exact ⟨fun _ => k.1, fun _ => by rw [e]; exact hx⟩
/-- Where the potential of the goal is 0, nothing that is settled is farther than the goal. -/
theorem Found.at_near (F : Found n rs zs S T R) (hz : NetZ n rs zs) (h0 : zg zs T = 0) (hT : zg (dst n rs S) T ≠ -1) {k : Nat} (hk : k < R.length) : zg (dst n rs S) (zg (idsL R) k).toNat ≤ zg (dst n rs S) T := by
  rw [ids_at hk]
  have d := F.dist _ (List.getElem_mem hk)
  have r := F.rin _ (List.getElem_mem hk)
  have p := pot_bd hz.pin (i := (R[k].2).toNat) (by have := hz.len; omega)
  rcases F.last with ⟨h1, -, -⟩ | ⟨R0, x, hR, hx, -, -⟩
  · exact absurd h1 hT
  · have e : R[R.length - 1]'(by omega) = x := by subst hR; simp
    have kx := F.dist x (by rw [hR]; simp)
    rw [hx, Int.toNat_natCast, h0] at kx
    have a : (R[k]).1 ≤ x.1 := by
      rcases Nat.lt_or_ge k (R.length - 1) with hlt | hge
      · have := List.pairwise_iff_getElem.1 F.asc k (R.length - 1) hk (by omega) hlt
        rw [e] at this; exact this
      · obtain rfl : k = R.length - 1 := by omega
        rw [e]; exact Int.le_refl _
    omega
end
end Go.Proofs.Ytcaamhoakhgnhaa
