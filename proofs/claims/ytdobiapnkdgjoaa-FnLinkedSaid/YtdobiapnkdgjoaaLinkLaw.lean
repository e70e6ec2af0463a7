/-
  A route cut in two at one of its nodes: both parts are routes, together as long; linked they are the route.
-/
import Derived.Test.YtdobiapnkdgjoaaRouteMath
import Derived.Test.YtdobiapnkdgjoaaLinked
namespace Go.Proofs.Ytdobiapnkdgjoaa
open Go.RowKit

theorem zg_take (zs : List Int) {k j : Nat} (h : j < k) : zg (zs.take k) j = zg zs j := by unfold zg; simp [List.getElem?_take, h]
theorem zg_drop (zs : List Int) (k j : Nat) : zg (zs.drop k) j = zg zs (k + j) := by unfold zg; simp [List.getElem?_drop]
theorem arcK_take (rs : List A3) (zs : List Int) {k j : Nat} (h : j < k) : arcK rs (zs.take (k + 1)) j = arcK rs zs j := by
  unfold arcK; rw [zg_take zs (by omega), zg_take zs (by omega)]
theorem arcK_drop (rs : List A3) (zs : List Int) (k j : Nat) : arcK rs (zs.drop k) j = arcK rs zs (k + j) := by
  unfold arcK; rw [zg_drop, zg_drop]; rfl
theorem lenK_take (rs : List A3) (zs : List Int) (k : Nat) : ∀ j, j ≤ k → lenK rs (zs.take (k + 1)) j = lenK rs zs j
  | 0, _ => rfl
  | j + 1, h => by rw [lenK, lenK, lenK_take rs zs k j (by omega), arcK_take rs zs (by omega)]
theorem lenK_drop (rs : List A3) (zs : List Int) (k : Nat) : ∀ j, lenK rs zs k + lenK rs (zs.drop k) j = lenK rs zs (k + j)
  | 0 => by simp [lenK]
  | j + 1 => by
    have e : lenK rs zs (k + (j + 1)) = lenK rs zs (k + j) + (arg rs (arcK rs zs (k + j)).toNat).2.2 := rfl
    rw [lenK, arcK_drop, e, ← lenK_drop rs zs k j]; omega

theorem rt_node {ps : List (Int × Int)} {rs : List A3} {zs : List Int} (h : rtB ps rs zs = true) {k : Nat} (hk : k < zs.length) : btB (zg zs k) 0 ((ps.length : Int) - 1) = true := by
  obtain ⟨h1, h2, h3, h4⟩ := rtB_iff.1 h
  cases k with
  | zero => exact h3
  | succ k =>
    rcases findA_cases rs (zg zs k) (zg zs (k + 1)) with e | ⟨i, -, hi, -, e⟩
    · exact absurd e (h4 k hk)
    · have hm : arg rs i ∈ rs := by unfold arg; rw [List.getD_eq_getElem?_getD, List.getElem?_eq_getElem hi]; exact List.getElem_mem hi
      obtain ⟨-, ⟨t0, t1⟩, -⟩ := arcsIn_net h1 _ hm
      rw [← e]
      exact btB_true (by omega) (by omega)

theorem rtB_take {ps : List (Int × Int)} {rs : List A3} {zs : List Int} (h : rtB ps rs zs = true) {k : Nat} (hk : k < zs.length) : rtB ps rs (zs.take (k + 1)) = true := by
  obtain ⟨h1, h2, h3, h4⟩ := rtB_iff.1 h
  refine rtB_iff.2 ⟨h1, by rw [List.length_take]; omega, by rw [zg_take zs (by omega)]; exact h3, fun j hj => ?_⟩
  rw [List.length_take] at hj
  rw [arcK_take rs zs (by omega)]; exact h4 j (by omega)
theorem rtB_drop {ps : List (Int × Int)} {rs : List A3} {zs : List Int} (h : rtB ps rs zs = true) {k : Nat} (hk : k < zs.length) : rtB ps rs (zs.drop k) = true := by
  obtain ⟨h1, h2, h3, h4⟩ := rtB_iff.1 h
  refine rtB_iff.2 ⟨h1, by rw [List.length_drop]; omega, by rw [zg_drop]; exact rt_node h hk, fun j hj => ?_⟩
  rw [List.length_drop] at hj
  rw [arcK_drop]; exact h4 (k + j) (by omega)
theorem rtLen_cut {ps : List (Int × Int)} {rs : List A3} {zs : List Int} (h : rtB ps rs zs = true) {k : Nat} (hk : k < zs.length) : rtLen ps rs (zs.take (k + 1)) + rtLen ps rs (zs.drop k) = rtLen ps rs zs := by
  rw [rtLen_yes h, rtLen_yes (rtB_take h hk), rtLen_yes (rtB_drop h hk), List.length_take, List.length_drop, show min (k + 1) zs.length - 1 = k by omega, lenK_take rs zs k k (Nat.le_refl _), lenK_drop, show k + (zs.length - k - 1) = zs.length - 1 by omega]
theorem rtLen_bd {ps : List (Int × Int)} {rs : List A3} {zs : List Int} (h : rtB ps rs zs = true) : 0 ≤ rtLen ps rs zs ∧ rtLen ps rs zs ≤ 10000 * zs.length := by
  obtain ⟨-, h2, -, -⟩ := rtB_iff.1 h
  rw [rtLen_yes h]
  have := lenK_bd h (zs.length - 1) (by omega)
  omega

theorem lnk_cut {zs : List Int} {k : Nat} (hk : k < zs.length) : lnkB (zs.take (k + 1)) (zs.drop k) = true ∧ lnk (zs.take (k + 1)) (zs.drop k) = zs := by
  have hb : lnkB (zs.take (k + 1)) (zs.drop k) = true := by
    unfold lnkB
    rw [List.length_take, List.length_drop, zg_take zs (by omega), zg_drop, show min (k + 1) zs.length - 1 = k + 0 by omega]
    simp; omega
  refine ⟨hb, ?_⟩
  unfold lnk
  rw [if_pos hb, List.drop_drop, List.take_append_drop]
theorem lnk_none (zs : List Int) : lnkB zs [] = false ∧ lnk zs [] = [] := by
  have hb : lnkB zs [] = false := by unfold lnkB; simp
  exact ⟨hb, by unfold lnk; rw [hb]; rfl⟩

end Go.Proofs.Ytdobiapnkdgjoaa
