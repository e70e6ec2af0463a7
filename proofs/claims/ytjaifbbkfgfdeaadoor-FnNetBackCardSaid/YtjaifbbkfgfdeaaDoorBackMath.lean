/-
  A network is recovered from its text, and a text that is read is the text of what is read: mathematics alone.
-/
import Derived.Test.YtjaifbbkfgfdeaaDoorNetTxt
import Derived.Test.YtjaifbbkfgfdeaaDoorReadSp
import Derived.Test.YtjaifbbkfgfdeaaDoorConvRead
namespace Go.Proofs.YtjaifbbkfgfdeaaDoor
open Go.RowKit Go.Deep

/-- The pieces of a text, joined, are the text. -/
theorem split_join (c : UInt8) : ∀ s : List UInt8, (splitL c s).headD [] ++ (splitL c s).tail.flatMap (fun x => c :: x) = s
  | [] => rfl
  | b :: r => by
    have ih := split_join c r
    rw [splitL]
    by_cases h : b = c
    · rw [if_pos h]
      cases hs : splitL c r with
      | nil => have := splitL_len c r; rw [hs] at this; simp at this
      | cons p q =>
        rw [hs] at ih
        simp only [List.headD_cons, List.tail_cons] at ih
        simp [ih, h]
    · rw [if_neg h]
      cases hs : splitL c r with
      | nil => have := splitL_len c r; rw [hs] at this; simp at this
      | cons p q =>
        rw [hs] at ih
        simp only [List.headD_cons, List.tail_cons] at ih
        simp [ih]
theorem readNs_is : ∀ {ws : List (List UInt8)} {zs : List Int}, readNs ws = some zs → ws = zs.map Lib.itoa
  | [], zs, h => by cases h; rfl
  | w :: r, zs, h => by
    rw [readNs] at h
    cases hw : readN w with
    | none => rw [hw] at h; cases h
    | some z =>
      cases hr : readNs r with
      | none => rw [hw, hr] at h; cases h
      | some t =>
        rw [hw, hr] at h
        cases h
        rw [List.map_cons, ← readNs_is hr, (readN_in hw).2.2]
theorem numsB_map (zs : List Int) : numsB zs = (zs.map Lib.itoa).flatMap (fun x => 32 :: x) := by unfold numsB; rw [List.flatMap_map]
/-- A line that is read is the line of its numbers. -/
theorem line_back {word : List UInt8} {many : Nat} {l : List UInt8} {zs : List Int} (h : lineIs word many l = some zs) : l = word ++ numsB zs := by
  unfold lineIs at h
  split at h
  · rename_i hc
    have hj := split_join 32 l
    rw [split_ht, List.headD_cons, List.tail_cons, hc.1, readNs_is h, ← numsB_map] at hj
    exact hj.symm
  · cases h
theorem itoa_bytes (z : Int) : ∀ b ∈ Lib.itoa z, b ≠ 32 ∧ b ≠ 10 := by
  intro b hb
  rcases Int.lt_or_le z 0 with hz | hz
  · rw [itoa_neg hz] at hb
    rcases List.mem_cons.1 hb with rfl | hb
    · decide
    · have := (decDigits_all z.natAbs).1 b hb
      obtain ⟨h1, h2⟩ := this
      constructor <;> (rintro rfl; revert h1; decide)
  · rw [itoa_pos (by omega)] at hb
    have := (decDigits_all z.natAbs).1 b hb
    obtain ⟨h1, h2⟩ := this
    constructor <;> (rintro rfl; revert h1; decide)
theorem split_nums : ∀ (zs : List Int) (p : List UInt8), (∀ b ∈ p, b ≠ 32) → splitL 32 (p ++ numsB zs) = p :: zs.map Lib.itoa
  | [], p, h => by show splitL 32 (p ++ []) = [p]; rw [List.append_nil]; exact splitL_none 32 p h
  | z :: zs, p, h => by
    have e : p ++ numsB (z :: zs) = p ++ 32 :: (Lib.itoa z ++ numsB zs) := by unfold numsB; rw [List.flatMap_cons]; rfl
    rw [e, splitL_sep 32 p _ h, split_nums zs (Lib.itoa z) (fun b hb => (itoa_bytes z b hb).1)]; rfl
theorem readNs_back : ∀ (zs : List Int), (∀ z ∈ zs, -1000000000000 ≤ z ∧ z ≤ 1000000000000) → readNs (zs.map Lib.itoa) = some zs
  | [], _ => rfl
  | z :: zs, h => by
    rw [List.map_cons, readNs, readN_some ⟨(h z (by simp)).1, (h z (by simp)).2, rfl⟩, readNs_back zs (fun x hx => h x (by simp [hx]))]
theorem line_of {word : List UInt8} {zs : List Int} (hw : ∀ b ∈ word, b ≠ 32) (hz : ∀ z ∈ zs, -1000000000000 ≤ z ∧ z ≤ 1000000000000) : lineIs word zs.length (word ++ numsB zs) = some zs := by
  have h := split_nums zs word hw
  have e1 : headW (word ++ numsB zs) = word := by unfold headW; rw [h]; rfl
  have e2 : tailW (word ++ numsB zs) = zs.map Lib.itoa := by unfold tailW; rw [h]; rfl
  unfold lineIs
  rw [e1, e2, if_pos ⟨rfl, by simp⟩]
  exact readNs_back zs hz
theorem nums_no10 (zs : List Int) : ∀ b ∈ numsB zs, b ≠ 10 := by
  intro b hb
  unfold numsB at hb
  obtain ⟨z, -, hz⟩ := List.mem_flatMap.1 hb
  rcases List.mem_cons.1 hz with rfl | hz
  · decide
  · exact (itoa_bytes z b hz).2
theorem line_no10 {word : List UInt8} (hw : ∀ b ∈ word, b ≠ 10) (zs : List Int) : ∀ b ∈ word ++ numsB zs, b ≠ 10 := fun b hb => by
  rcases List.mem_append.1 hb with h | h
  · exact hw b h
  · exact nums_no10 zs b h

/-- What is read so far has, with what is left, the text. -/
theorem read_text : ∀ (n : Nat) (t : List UInt8) (k : Nat) (ps : List (Int × Int)) (rs : List A3) (st : List (Int × Int) × List A3), t.length ≤ n → readL k ps rs (splitL 10 t) = .inr st → netL st.1 st.2 = netL ps rs ++ t
  | n, t, k, ps, rs, st, hn, h => by
    rcases cut_one 10 t with ⟨h1, -⟩ | ⟨a, r, h1, h2, -⟩
    · by_cases ht : t = []
      · subst ht
        rw [readL_end] at h
        cases h
        rw [List.append_nil]
      · rw [readL_miss k ps rs t h1 ht] at h; cases h
    · match n with
      | 0 => rw [h1] at hn; simp at hn
      | n + 1 =>
        rw [h1, readL_line k ps rs a r h2] at h
        cases hadd : addL ps rs a with
        | none => rw [hadd] at h; cases h
        | some s1 =>
          rw [hadd] at h
          have ih := read_text n r (k + 1) s1.1 s1.2 st (by rw [h1] at hn; simp at hn; omega) h
          rw [ih, h1]
          have hs : netL s1.1 s1.2 = netL ps rs ++ (a ++ [10]) := by
            unfold addL at hadd
            split at hadd
            · rename_i zs hz
              split at hz
              · rename_i hrs
                cases hadd
                obtain rfl := List.eq_nil_of_length_eq_zero hrs
                have hl := lineIs_len hz
                obtain ⟨x, y, rfl⟩ : ∃ x y, zs = [x, y] := by
                  match zs, hl with
                  | [x, y], _ => exact ⟨x, y, rfl⟩
                rw [line_back hz]
                unfold netL nodeL lineB
                simp [nodeW]
              · cases hz
            · split at hadd
              · rename_i zs hz
                cases hadd
                have hl := lineIs_len hz
                obtain ⟨x, y, u, rfl⟩ : ∃ x y u, zs = [x, y, u] := by
                  match zs, hl with
                  | [x, y, u], _ => exact ⟨x, y, u, rfl⟩
                rw [line_back hz]
                unfold netL arcL lineB
                simp [arcW]
              · cases hadd
          rw [hs]; simp

/-- The text of a network is read to the network. -/
theorem read_arcs : ∀ (rs bs : List A3) (ps : List (Int × Int)) (k : Nat), (∀ a ∈ rs, (-1000000000000 ≤ a.1 ∧ a.1 ≤ 1000000000000) ∧ (-1000000000000 ≤ a.2.1 ∧ a.2.1 ≤ 1000000000000) ∧ -1000000000000 ≤ a.2.2 ∧ a.2.2 ≤ 1000000000000) →
    readL k ps bs (splitL 10 (rs.flatMap arcL)) = .inr (ps, bs ++ rs)
  | [], bs, ps, k, _ => by rw [List.flatMap_nil, readL_end, List.append_nil]
  | a :: rs, bs, ps, k, h => by
    obtain ⟨h1, h2, h3⟩ := h a (by simp)
    have e : (a :: rs).flatMap arcL = (arcW ++ numsB [a.1, a.2.1, a.2.2]) ++ 10 :: rs.flatMap arcL := by rw [List.flatMap_cons]; unfold arcL lineB; simp [arcW]
    have hl : lineIs arcW 3 (arcW ++ numsB [a.1, a.2.1, a.2.2]) = some [a.1, a.2.1, a.2.2] := line_of (zs := [a.1, a.2.1, a.2.2]) (by decide) (by simp; exact ⟨h1, h2, h3⟩)
    have hn : lineIs nodeW 2 (arcW ++ numsB [a.1, a.2.1, a.2.2]) = none := by
      cases hx : lineIs nodeW 2 (arcW ++ numsB [a.1, a.2.1, a.2.2]) with
      | none => rfl
      | some zs => rw [node_not_arc hx] at hl; cases hl
    have hadd : addL ps bs (arcW ++ numsB [a.1, a.2.1, a.2.2]) = some (ps, bs ++ [a]) := by
      unfold addL; rw [hn, ite_self, hl]; rfl
    rw [e, readL_line k ps bs _ _ (line_no10 (by decide) _), hadd]
    show readL (k + 1) ps (bs ++ [a]) (splitL 10 (rs.flatMap arcL)) = _
    rw [read_arcs rs (bs ++ [a]) ps (k + 1) (fun x hx => h x (by simp [hx]))]
    simp
theorem read_nodes : ∀ (qs ps : List (Int × Int)) (rs : List A3) (k : Nat), (∀ p ∈ qs, (-1000000000000 ≤ p.1 ∧ p.1 ≤ 1000000000000) ∧ -1000000000000 ≤ p.2 ∧ p.2 ≤ 1000000000000) → (∀ a ∈ rs, (-1000000000000 ≤ a.1 ∧ a.1 ≤ 1000000000000) ∧ (-1000000000000 ≤ a.2.1 ∧ a.2.1 ≤ 1000000000000) ∧ -1000000000000 ≤ a.2.2 ∧ a.2.2 ≤ 1000000000000) →
    readL k ps [] (splitL 10 (qs.flatMap nodeL ++ rs.flatMap arcL)) = .inr (ps ++ qs, rs)
  | [], ps, rs, k, _, hr => by rw [List.flatMap_nil, List.nil_append, read_arcs rs [] ps k hr, List.append_nil, List.nil_append]
  | p :: qs, ps, rs, k, h, hr => by
    obtain ⟨h1, h2⟩ := h p (by simp)
    have e : (p :: qs).flatMap nodeL ++ rs.flatMap arcL = (nodeW ++ numsB [p.1, p.2]) ++ 10 :: (qs.flatMap nodeL ++ rs.flatMap arcL) := by rw [List.flatMap_cons]; unfold nodeL lineB; simp [nodeW]
    have hl : lineIs nodeW 2 (nodeW ++ numsB [p.1, p.2]) = some [p.1, p.2] := line_of (zs := [p.1, p.2]) (by decide) (by simp; exact ⟨h1, h2⟩)
    have hadd : addL ps [] (nodeW ++ numsB [p.1, p.2]) = some (ps ++ [p], []) := by
      unfold addL; rw [if_pos (List.length_nil), hl]; rfl
    rw [e, readL_line k ps [] _ _ (line_no10 (by decide) _), hadd]
    show readL (k + 1) (ps ++ [p]) [] (splitL 10 (qs.flatMap nodeL ++ rs.flatMap arcL)) = _
    rw [read_nodes qs (ps ++ [p]) rs (k + 1) (fun x hx => h x (by simp [hx])) hr]
    simp
theorem rd_back {ps : List (Int × Int)} {rs : List A3} (h : netB ps rs = true) (hl : (netL ps rs).length ≤ 4000) : rdNet (netL ps rs) = (ps, rs, 0) := by
  obtain ⟨h20, -, hp, -⟩ := netB_iff.1 h
  refine rd_yes (by omega) ?_ h
  have := read_nodes ps [] rs 1 (fun p hpm => by
    obtain ⟨i, hi, rfl⟩ := List.mem_iff_getElem.1 hpm
    have h1 := ptB_true (hp i hi)
    have e : ptg ps i = ps[i] := by unfold ptg; simp [hi]
    rw [e] at h1
    omega) (fun a ha => by
    obtain ⟨i, hi, rfl⟩ := mem_arg ha
    obtain ⟨h1, h2, h3⟩ := netB_arc h hi
    omega)
  unfold netL; rw [this]; rfl
theorem readL_least : ∀ (ls : List (List UInt8)) (num : Nat) (ps : List (Int × Int)) (rs : List A3) (k : Nat), readL num ps rs ls = .inl k → num ≤ k
  | [], num, ps, rs, k, h => by cases h
  | [l], num, ps, rs, k, h => by
    rw [readL] at h
    split at h
    · cases h
    · cases h; exact Nat.le_refl _
  | l :: m :: r, num, ps, rs, k, h => by
    rw [readL] at h
    split at h
    · cases h; exact Nat.le_refl _
    · have := readL_least (m :: r) (num + 1) _ _ k h
      omega
theorem rd_text {t : List UInt8} {ps : List (Int × Int)} {rs : List A3} (h : rdNet t = (ps, rs, 0)) : netB ps rs = true ∧ netL ps rs = t := by
  unfold rdNet at h
  split at h
  · simp at h
  · split at h
    · rename_i k hk
      have := readL_least _ _ _ _ _ hk
      simp at h
      omega
    · rename_i st hst
      split at h
      · rename_i hok
        simp only [Prod.mk.injEq] at h
        obtain ⟨h1, h2, -⟩ := h
        subst h1 h2
        have := read_text t.length t 1 [] [] st (Nat.le_refl _) hst
        exact ⟨hok, by rw [this]; rfl⟩
      · simp at h
theorem rd_code {t : List UInt8} {ps : List (Int × Int)} {rs : List A3} {c : Int} (h : rdNet t = (ps, rs, c)) (hc : c ≠ 0) : ps = [] ∧ rs = [] := by
  unfold rdNet at h
  split at h
  · simp at h; exact ⟨h.1, h.2.1⟩
  · split at h
    · simp at h; exact ⟨h.1, h.2.1⟩
    · split at h
      · simp at h; exact absurd h.2.2.symm hc
      · simp at h; exact ⟨h.1, h.2.1⟩

end Go.Proofs.YtjaifbbkfgfdeaaDoor
