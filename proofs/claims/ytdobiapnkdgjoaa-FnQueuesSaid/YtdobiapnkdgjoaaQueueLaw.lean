/-
  What the law of queues asks of a put: the queue is right, the item is there, the first is the least.
-/
import Derived.Test.YtdobiapnkdgjoaaPutPerm
namespace Go.Proofs.Ytdobiapnkdgjoaa

theorem qOk_ids {q : List (Int × Int)} (h : QOk q) : (q.map Prod.snd).Nodup := by
  rw [List.Nodup, List.pairwise_map, List.pairwise_iff_getElem]
  intro i j hi hj hij g
  rw [← ptg_get hi, ← ptg_get hj] at g
  exact (h j hj).2 i hij g
theorem qOk_of {q : List (Int × Int)} (hs : q.Pairwise leI) (hd : (q.map Prod.snd).Nodup) : QOk q := fun i hi => by
  rw [List.Nodup, List.pairwise_map, List.pairwise_iff_getElem] at hd
  rw [List.pairwise_iff_getElem] at hs
  refine ⟨fun h0 => ?_, fun j hj g => ?_⟩
  · have h1 := hs (i - 1) i (by omega) hi (by omega)
    have h2 := hd (i - 1) i (by omega) hi (by omega)
    rw [← ptg_get (by omega), ← ptg_get hi] at h1 h2
    exact ltI_tri h1 (fun e => h2 (by rw [e]))
  · have := hd j i (by omega) hi hj
    rw [← ptg_get (by omega), ← ptg_get hi] at this
    exact this g
theorem restL_no {q : List (Int × Int)} {x : Int × Int} : x.2 ∉ (restL q x).map Prod.snd := fun h => by
  obtain ⟨p, hp, e⟩ := List.mem_map.1 h
  have := of_decide_eq_true (List.mem_filter.1 hp).2
  exact this e
theorem putL_ok {q : List (Int × Int)} (x : Int × Int) (h : QOk q) : QOk (putL q x) := by
  refine qOk_of (putL_pair h) ?_
  unfold putL
  split
  · exact qOk_ids h
  · rw [((insL_perm (restL q x) x).map Prod.snd).nodup_iff, List.map_cons, List.nodup_cons]
    exact ⟨restL_no, (qOk_ids h).sublist (List.Sublist.map _ List.filter_sublist)⟩
theorem putL_has {q : List (Int × Int)} (x : Int × Int) : ∃ i, i < (putL q x).length ∧ (ptg (putL q x) i).2 = x.2 ∧ (ptg (putL q x) i).1 ≤ x.1 := by
  have hm : ∃ p ∈ putL q x, p.2 = x.2 ∧ p.1 ≤ x.1 := by
    unfold putL
    split
    · rename_i hs
      unfold stopB at hs
      rw [List.any_eq_true] at hs
      obtain ⟨p, hp, hd⟩ := hs
      exact ⟨p, hp, of_decide_eq_true hd⟩
    · exact ⟨x, (insL_perm _ x).mem_iff.2 (by simp), rfl, Int.le_refl _⟩
  obtain ⟨p, hp, h1, h2⟩ := hm
  obtain ⟨i, hi, rfl⟩ := List.getElem_of_mem hp
  exact ⟨i, hi, by rw [ptg_get hi]; exact h1, by rw [ptg_get hi]; exact h2⟩
theorem qOk_first {q : List (Int × Int)} (h : QOk q) {i : Nat} (hi : i < (q.drop 1).length) : ¬ (ptg (q.drop 1) i).1 < (ptg q 0).1 ∧ (ptg (q.drop 1) i).2 ≠ (ptg q 0).2 := by
  rw [List.length_drop] at hi
  have e : ptg (q.drop 1) i = ptg q (1 + i) := by unfold ptg; simp [List.getElem?_drop, Nat.add_comm]
  rw [e]
  have h1 := qOk_lt h (1 + i) 0 (by omega) (by omega)
  have h2 := (h (1 + i) (by omega)).2 0 (by omega)
  refine ⟨fun g => ?_, fun g => h2 g.symm⟩
  unfold ltI at h1; omega

end Go.Proofs.Ytdobiapnkdgjoaa
