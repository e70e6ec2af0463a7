/-
  A queue behind a put, in order, is what spec.l06Put computes.
-/
import Derived.Test.YtdobiapnkdgjoaaPutSp
import Derived.Test.YtdobiapnkdgjoaaSortQ
namespace Go.Proofs.Ytdobiapnkdgjoaa
open Go.RowKit Go.Deep Go.Maps

/-- Not greater. -/
def leI (a b : Int × Int) : Prop := ¬ ltI b a
theorem leI_anti {a b : Int × Int} (h1 : leI a b) (h2 : leI b a) : a = b := by
  unfold leI ltI at *
  exact Prod.ext (by omega) (by omega)
theorem qOk_lt {q : List (Int × Int)} (h : QOk q) : ∀ j i, i < j → j < q.length → ltI (ptg q i) (ptg q j) := fun j => by
  induction j with
  | zero => intro i hi; omega
  | succ j ih =>
    intro i hi hj
    have h1 := (h (j + 1) hj).1 (by omega)
    rw [Nat.add_sub_cancel] at h1
    rcases Nat.lt_or_ge i j with g | g
    · exact ltI_trans (ih i g (by omega)) h1
    · obtain rfl : i = j := by omega
      exact h1
theorem qOk_heap {q : List (Int × Int)} (h : QOk q) : HeapN q q.length := fun c c0 hc => ltI_asymm (qOk_lt h c _ (by omega) hc)
theorem qOk_pair {q : List (Int × Int)} (h : QOk q) : q.Pairwise ltI := by
  rw [List.pairwise_iff_getElem]
  intro i j hi hj hij
  rw [← ptg_get hi, ← ptg_get hj]; exact qOk_lt h j i hij hj
theorem asc_pair {q : List (Int × Int)} (h : Asc q) : q.Pairwise leI := by
  rw [List.pairwise_iff_getElem]
  intro i j hi hj hij
  rw [← ptg_get hi, ← ptg_get hj]; exact h i j hij hj
theorem pair_le {q : List (Int × Int)} (h : q.Pairwise ltI) : q.Pairwise leI := h.imp (fun g => ltI_asymm g)

theorem insL_perm (r : List (Int × Int)) (x : Int × Int) : (insL r x).Perm (x :: r) := by
  unfold insL
  have := @List.perm_middle _ x (r.take (place r x)) (r.drop (place r x))
  rw [List.take_append_drop] at this
  simpa using this
theorem insL_pair {r : List (Int × Int)} {x : Int × Int} (h : r.Pairwise ltI) : (insL r x).Pairwise leI := by
  unfold insL
  have h1 : ∀ a ∈ r.take (place r x), ltI a x := fun a ha => by
    obtain ⟨i, hi, rfl⟩ := List.getElem_of_mem ha
    rw [List.length_take] at hi
    rw [List.getElem_take]
    have hp := List.not_of_lt_findIdx (p := fun p => !ltB p x) (xs := r) (i := i) (by unfold place at hi; omega)
    have hp' : ltB (r[i]'(by omega)) x = true := by simpa using hp
    exact ltB_iff.1 hp'
  have h2 : ∀ b ∈ r.drop (place r x), leI x b := fun b hb => by
    obtain ⟨i, hi, rfl⟩ := List.getElem_of_mem hb
    rw [List.length_drop] at hi
    rw [List.getElem_drop]
    have hw : place r x < r.length := by omega
    have hp := List.findIdx_getElem (p := fun p => !ltB p x) (xs := r) (w := hw)
    have hp' : ¬ ltI (r[place r x]'hw) x := fun g => by
      have := ltB_iff.2 g
      unfold place at this
      simp [this] at hp
    intro g
    rcases Nat.eq_zero_or_pos i with h0 | h0
    · subst h0; exact hp' g
    · exact hp' (ltI_trans ((List.pairwise_iff_getElem.1 h) _ _ hw (by omega) (by omega)) g)
  have hl := pair_le h
  rw [← List.take_append_drop (place r x) r, List.pairwise_append] at hl
  obtain ⟨l1, l2, l3⟩ := hl
  rw [List.append_assoc, List.pairwise_append]
  refine ⟨l1, ?_, fun a ha b hb => ?_⟩
  · simp only [List.singleton_append, List.pairwise_cons]
    exact ⟨h2, l2⟩
  · simp only [List.singleton_append, List.mem_cons] at hb
    rcases hb with rfl | hb
    · exact ltI_asymm (h1 a ha)
    · exact l3 a ha b hb
theorem putL_pair {q : List (Int × Int)} {x : Int × Int} (h : QOk q) : (putL q x).Pairwise leI := by
  unfold putL
  split
  · exact pair_le (qOk_pair h)
  · exact insL_pair ((qOk_pair h).filter _)

theorem restL_at {q : List (Int × Int)} {x : Int × Int} {i : Nat} (h : QOk q) (hi : i < q.length) (he : idg q i = x.2) : restL q x = q.take i ++ q.drop (i + 1) := by
  have e : q = q.take i ++ (ptg q i :: q.drop (i + 1)) := by
    rw [ptg_get hi, ← List.drop_eq_getElem_cons hi, List.take_append_drop]
  have ha : ∀ j, j < q.length → j ≠ i → idg q j ≠ x.2 := fun j hj hne g => by
    rw [← he] at g
    rcases Nat.lt_or_ge j i with h' | h'
    · exact (h i hi).2 j h' g
    · exact (h j hj).2 i (by omega) g.symm
  unfold restL
  conv => lhs; rw [e]
  rw [List.filter_append, List.filter_cons_of_neg (by unfold idg at he; simp [he])]
  congr 1
  · rw [List.filter_eq_self]
    intro a hm
    obtain ⟨j, hj, rfl⟩ := List.getElem_of_mem hm
    rw [List.length_take] at hj
    have := ha j (by omega) (by omega)
    unfold idg at this; rw [ptg_get (by omega)] at this
    rw [List.getElem_take]; exact decide_eq_true this
  · rw [List.filter_eq_self]
    intro a hm
    obtain ⟨j, hj, rfl⟩ := List.getElem_of_mem hm
    rw [List.length_drop] at hj
    have := ha (i + 1 + j) (by omega) (by omega)
    unfold idg at this; rw [ptg_get (by omega)] at this
    rw [List.getElem_drop]; exact decide_eq_true this
theorem putL_perm {q q' : List (Int × Int)} {x : Int × Int} (h : QOk q) (hr : PutRel q x q') : q'.Perm (putL q x) := by
  rcases hr with ⟨hno, hp⟩ | ⟨i, hi, he, ⟨hlt, hp⟩ | ⟨hlt, hp⟩⟩
  · have h1 : stopB q x = false := stopB_no fun j hj g => absurd g (hno j hj)
    have h2 : restL q x = q := by
      unfold restL; rw [List.filter_eq_self]
      intro a hm
      obtain ⟨j, hj, rfl⟩ := List.getElem_of_mem hm
      have := hno j hj
      unfold idg at this; rw [ptg_get hj] at this
      exact decide_eq_true this
    unfold putL; rw [h1, h2, if_neg (by simp)]
    refine hp.trans ?_
    refine List.Perm.trans ?_ (insL_perm q x).symm
    simp
  · have h1 : stopB q x = false := stopB_no fun j hj g => by
      have : j = i := by
        have g' : idg q j = idg q i := by rw [he]; exact g
        rcases Nat.lt_trichotomy j i with h' | h' | h'
        · exact absurd g' ((h i hi).2 j h')
        · exact h'
        · exact absurd g'.symm ((h j hj).2 i h')
      subst this; omega
    unfold putL; rw [h1, restL_at h hi he, if_neg (by simp)]
    refine hp.trans ?_
    refine List.Perm.trans ?_ (insL_perm _ x).symm
    rw [List.set_eq_take_append_cons_drop, if_pos hi]
    exact List.perm_middle
  · have h1 : stopB q x = true := stopB_yes hi he (by omega)
    unfold putL; rw [h1, if_pos rfl]; exact hp
/-- A queue behind a put, in order. -/
theorem put_is {q q' q2 : List (Int × Int)} {x : Int × Int} (h : QOk q) (hr : PutRel q x q') (hp : q2.Perm q') (ha : Asc q2) : q2 = putL q x :=
  List.Perm.eq_of_pairwise (fun _ _ _ _ h1 h2 => leI_anti h1 h2) (asc_pair ha) (putL_pair h) (hp.trans (putL_perm h hr))
theorem putL_len {q : List (Int × Int)} {x : Int × Int} : (putL q x).length ≤ q.length + 1 := by
  unfold putL; split
  · omega
  · rw [(insL_perm _ x).length_eq, List.length_cons]; have := restL_len q x; omega
theorem putRel_pos {q q' : List (Int × Int)} {x : Int × Int} (hr : PutRel q x q') : 0 < q'.length ∧ q'.length ≤ q.length + 1 := by
  rcases hr with ⟨-, hp⟩ | ⟨i, hi, -, ⟨-, hp⟩ | ⟨-, hp⟩⟩
  · rw [hp.length_eq]; simp
  · rw [hp.length_eq, List.length_set]; omega
  · rw [hp.length_eq]; omega

end Go.Proofs.Ytdobiapnkdgjoaa
