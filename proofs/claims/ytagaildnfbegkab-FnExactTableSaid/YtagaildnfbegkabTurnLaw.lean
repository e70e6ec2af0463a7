/-
  Reversed networks: valid, reversed twice as they were; outgoing arcs become incoming ones.
-/
import Derived.Test.YtagaildnfbegkabTurn
namespace Go.Proofs.Ytagaildnfbegkab
open Go.RowKit

theorem arcB_rev (n : Nat) (a : A3) : arcB n (revA a) = arcB n a := by
  unfold arcB revA
  simp only
  have : (a.2.1 == a.1) = (a.1 == a.2.1) := by rw [Bool.eq_iff_iff, beq_iff_eq, beq_iff_eq]; exact eq_comm
  rw [this]
  cases btB a.1 0 ((n : Int) - 1) <;> cases btB a.2.1 0 ((n : Int) - 1) <;> simp
theorem turn_valid {ps : List (Int × Int)} {rs : List A3} (h : netB ps rs = true) : netB ps (turnL rs) = true := by
  have hr := netB_rise h
  obtain ⟨t1, t2⟩ := turnL_spec hr
  have hl := turn_len hr
  obtain ⟨h1, h2, h3, h4⟩ := netB_iff.1 h
  refine netB_iff.2 ⟨h1, by omega, h3, fun i hi => ⟨?_, ?_⟩⟩
  · have hm := (t2 _).1 (arg_mem hi)
    obtain ⟨j, hj, e⟩ := mem_arg hm
    have := (h4 j hj).1
    rw [e, arcB_rev] at this
    exact this
  · rcases Nat.eq_zero_or_pos i with h0 | h0
    · exact .inl h0
    · exact .inr (less_iff.1 (rise_arg t1 (show i - 1 < i by omega) hi))
theorem list_map_arg (l : List A3) : l = (List.range l.length).map (arg l) := by
  apply List.ext_getElem
  · simp
  · intro i h1 h2
    simp [arg, h1]
theorem filter_len (l : List A3) (p : A3 → Bool) : ((List.range l.length).filter (fun i => p (arg l i))).length = (l.filter p).length := by
  have e : (l.filter p).length = (((List.range l.length).map (arg l)).filter p).length := by rw [← list_map_arg]
  rw [e, List.filter_map, List.length_map]
  rfl
theorem out_in {rs : List A3} (h : rs.Pairwise Less) (u : Int) : (outL rs u rs.length).length = (inL (turnL rs) u (turnL rs).length).length := by
  obtain ⟨t1, t2⟩ := turnL_spec h
  unfold outL inL
  rw [List.length_map, List.length_map, filter_len rs (fun a => a.1 == u), filter_len (turnL rs) (fun a => a.2.1 == u)]
  have e : (rs.filter (fun a => a.1 == u)).map revA = (turnL rs).filter (fun a => a.2.1 == u) := by
    refine rise_ext ?_ (List.Pairwise.filter _ t1) fun x => ?_
    · rw [List.pairwise_map]
      refine List.Pairwise.imp_of_mem ?_ (List.Pairwise.filter (fun a => a.1 == u) h)
      intro a b ha hb hab
      have h1 := (List.mem_filter.1 ha).2
      have h2 := (List.mem_filter.1 hb).2
      simp only [beq_iff_eq] at h1 h2
      unfold Less revA at *
      simp only at *
      omega
    · rw [List.mem_map, List.mem_filter, t2]
      constructor
      · rintro ⟨a, ha, rfl⟩
        obtain ⟨h1, h2⟩ := List.mem_filter.1 ha
        exact ⟨by rw [revA_rev]; exact h1, h2⟩
      · rintro ⟨h1, h2⟩
        exact ⟨revA x, List.mem_filter.2 ⟨h1, h2⟩, rfl⟩
  rw [← e, List.length_map]
/-- An outgoing arc, found in the reversed network. -/
theorem out_found {rs : List A3} (h : rs.Pairwise Less) {i : Nat} (hi : i < rs.length) : ∃ k : Nat, k < (turnL rs).length ∧ findA (turnL rs) (arg rs i).2.1 (arg rs i).1 = k ∧ (k : Int) ∈ inL (turnL rs) (arg rs i).1 (turnL rs).length ∧ (arg (turnL rs) k).2.2 = (arg rs i).2.2 := by
  obtain ⟨t1, t2⟩ := turnL_spec h
  have hm : revA (arg rs i) ∈ turnL rs := (t2 _).2 (by rw [revA_rev]; exact arg_mem hi)
  obtain ⟨k, hk, e⟩ := mem_arg hm
  have hit1 : hit (turnL rs) (arg rs i).2.1 (arg rs i).1 k = true := by unfold hit; rw [e]; simp [revA]
  refine ⟨k, hk, findA_hit hk hit1 (fun j hj => ?_), ?_, by rw [e]; rfl⟩
  · cases hh : hit (turnL rs) (arg rs i).2.1 (arg rs i).1 j with
    | false => rfl
    | true =>
      exfalso
      have hl := rise_arg t1 hj hk
      unfold hit at hh
      rw [Bool.and_eq_true, beq_iff_eq, beq_iff_eq] at hh
      rw [e] at hl
      unfold Less revA at hl
      simp only at hl
      omega
  · unfold inL
    refine List.mem_map.2 ⟨k, List.mem_filter.2 ⟨List.mem_range.2 hk, ?_⟩, rfl⟩
    rw [e]; simp [revA]
/-- The elements of outL. -/
theorem outL_at {rs : List A3} {u : Int} {j : Nat} (hj : j < (outL rs u rs.length).length) : ∃ i : Nat, i < rs.length ∧ zg (outL rs u rs.length) j = i ∧ (arg rs i).1 = u := by
  have hm : zg (outL rs u rs.length) j ∈ outL rs u rs.length := getD_mem j hj
  unfold outL at hm
  obtain ⟨i, hi, e⟩ := List.mem_map.1 hm
  obtain ⟨h1, h2⟩ := List.mem_filter.1 hi
  exact ⟨i, List.mem_range.1 h1, by unfold outL; rw [← e]; rfl, by simpa using h2⟩

end Go.Proofs.Ytagaildnfbegkab
