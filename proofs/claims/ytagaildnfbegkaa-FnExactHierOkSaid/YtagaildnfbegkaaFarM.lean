/-
  Landmarks far from one another: the first node, then again and again the first of the farthest nodes.
-/
import Derived.Test.YtagaildnfbegkaaDistTop
namespace Go.Proofs.Ytagaildnfbegkaa
open Go.RowKit Go.Deep

/-- The distance to the nearest of some nodes: 2000000 where none reaches it. -/
def gap1 (g d : Int) : Int := if d = -1 then g else min g d
def gap (n : Nat) (rs : List A3) (L : List Nat) (v : Nat) : Int := L.foldl (fun g m => gap1 g (zg (dst n rs m) v)) 2000000
theorem gap_snoc (n : Nat) (rs : List A3) (L : List Nat) (m v : Nat) : gap n rs (L ++ [m]) v = gap1 (gap n rs L v) (zg (dst n rs m) v) := by unfold gap; rw [List.foldl_append]; rfl
theorem gap_nil (n : Nat) (rs : List A3) (v : Nat) : gap n rs [] v = 2000000 := rfl

/-- The farthest of the first k nodes that are not chosen, and how far it is: -1, -1 where all are chosen. -/
def pick1 (g : Nat → Int) (L : List Nat) : Nat → Int × Int
  | 0 => (-1, -1)
  | k + 1 => if k ∉ L ∧ (pick1 g L k).2 < g k then ((k : Int), g k) else pick1 g L k
theorem pick1_inv (g : Nat → Int) (L : List Nat) (hg : ∀ j, j ∉ L → 1 ≤ g j) : ∀ k,
    (pick1 g L k = (-1, -1) ∧ ∀ j, j < k → j ∈ L) ∨ ∃ b : Nat, b < k ∧ b ∉ L ∧ pick1 g L k = ((b : Int), g b) ∧ (∀ j, j < k → j ∉ L → g j ≤ g b) ∧ ∀ j, j < b → j ∉ L → g j < g b
  | 0 => .inl ⟨rfl, fun j hj => by omega⟩
  | k + 1 => by
    have ih := pick1_inv g L hg k
    unfold pick1
    by_cases h : k ∉ L ∧ (pick1 g L k).2 < g k
    · rw [if_pos h]
      refine .inr ⟨k, by omega, h.1, rfl, fun j hj hL => ?_, fun j hj hL => ?_⟩
      · rcases Nat.lt_or_ge j k with hjk | hjk
        · rcases ih with ⟨-, h2⟩ | ⟨b, hb, hbL, e, h3, h4⟩
          · exact absurd (h2 j hjk) hL
          · have := h3 j hjk hL; have h5 := h.2; rw [e] at h5; simp only at h5; omega
        · obtain rfl : j = k := by omega
          exact Int.le_refl _
      · rcases ih with ⟨-, h2⟩ | ⟨b, hb, hbL, e, h3, h4⟩
        · exact absurd (h2 j hj) hL
        · have := h3 j hj hL; have h5 := h.2; rw [e] at h5; simp only at h5; omega
    · rw [if_neg h]
      rcases ih with ⟨e, h2⟩ | ⟨b, hb, hbL, e, h3, h4⟩
      · refine .inl ⟨e, fun j hj => ?_⟩
        rcases Nat.lt_or_ge j k with hjk | hjk
        · exact h2 j hjk
        · obtain rfl : j = k := by omega
          refine Classical.byContradiction fun hL => h ⟨hL, ?_⟩
          rw [e]; have := hg j hL; simp only; omega
      · refine .inr ⟨b, by omega, hbL, e, fun j hj hL => ?_, h4⟩
        rcases Nat.lt_or_ge j k with hjk | hjk
        · exact h3 j hjk hL
        · obtain rfl : j = k := by omega
          refine Int.not_lt.1 fun hlt => h ⟨hL, ?_⟩
          rw [e]; exact hlt

/-- The node that is chosen next; the first k landmarks. -/
def nextM (n : Nat) (rs : List A3) (L : List Nat) : Nat := (pick1 (gap n rs L) L n).1.toNat
def farL (n : Nat) (rs : List A3) : Nat → List Nat
  | 0 => []
  | k + 1 => farL n rs k ++ [nextM n rs (farL n rs k)]
theorem farL_len (n : Nat) (rs : List A3) : ∀ k, (farL n rs k).length = k
  | 0 => rfl
  | k + 1 => by unfold farL; rw [List.length_append, farL_len]; rfl
/-- What FarMarks gives. -/
def farM (ps : List (Int × Int)) (rs : List A3) (many : Int) : List Int := if netB ps rs = true ∧ 1 ≤ many ∧ many ≤ 8 then (farL ps.length rs (min many.toNat ps.length)).map (fun (m : Nat) => (m : Int)) else []
theorem farM_no {ps : List (Int × Int)} {rs : List A3} {many : Int} (h : netB ps rs = false ∨ many < 1 ∨ 8 < many) : farM ps rs many = [] := by
  unfold farM; rw [if_neg]; rintro ⟨h1, h2, h3⟩; rcases h with h | h | h
  · rw [h1] at h; cases h
  · omega
  · omega
theorem farM_len (ps : List (Int × Int)) (rs : List A3) (many : Int) : (farM ps rs many).length ≤ 1048576 := by
  unfold farM; split
  · rw [List.length_map, farL_len]; omega
  · simp

theorem gap_pos {n : Nat} {rs : List A3} (hn : n ≤ 20) (hr : ArcsIn n rs) {v : Nat} (hv : v < n) : ∀ (L : List Nat), (∀ m ∈ L, m < n) → v ∉ L → 1 ≤ L.foldl (fun g m => gap1 g (zg (dst n rs m) v)) 2000000 ∧ ∀ g0 : Int, 1 ≤ g0 → 1 ≤ L.foldl (fun g m => gap1 g (zg (dst n rs m) v)) g0 := by
  have key : ∀ (L : List Nat), (∀ m ∈ L, m < n) → v ∉ L → ∀ g0 : Int, 1 ≤ g0 → 1 ≤ L.foldl (fun g m => gap1 g (zg (dst n rs m) v)) g0 := by
    intro L
    induction L with
    | nil => intro _ _ g0 h; exact h
    | cons m L ih =>
      intro hL hvL g0 h
      rw [List.foldl_cons]
      refine ih (fun x hx => hL x (List.mem_cons_of_mem _ hx)) (fun hx => hvL (List.mem_cons_of_mem _ hx)) _ ?_
      unfold gap1
      split
      · exact h
      · rename_i h1
        have hm := hL m (by simp)
        obtain ⟨a, ha, -, e1, e2⟩ := dst_along hn hm hr hv (fun e => hvL (by rw [e]; simp)) h1
        obtain ⟨⟨f0, f1⟩, -, -, l0, -⟩ := hr a ha
        have hval := dst_val hn hm hr (v := a.1.toNat) (by omega)
        rcases hval with hval | hval
        · exact absurd hval e1
        · have : (1 : Int) ≤ zg (dst n rs m) v := by omega
          omega
  exact fun L h1 h2 => ⟨key L h1 h2 _ (by omega), key L h1 h2⟩
theorem gap_le (n : Nat) (rs : List A3) (v : Nat) : ∀ (L : List Nat) (g0 : Int), L.foldl (fun g m => gap1 g (zg (dst n rs m) v)) g0 ≤ g0 := by
  intro L
  induction L with
  | nil => intro g0; exact Int.le_refl _
  | cons m L ih => intro g0; rw [List.foldl_cons]; refine Int.le_trans (ih _) ?_; unfold gap1; split <;> omega
theorem gap_in {n : Nat} {rs : List A3} (hn : n ≤ 20) (hr : ArcsIn n rs) {v : Nat} (hv : v < n) : ∀ (L : List Nat) (g0 : Int), (∀ m ∈ L, m < n) → 0 ≤ g0 → (v ∈ L → L.foldl (fun g m => gap1 g (zg (dst n rs m) v)) g0 = 0) ∧ 0 ≤ L.foldl (fun g m => gap1 g (zg (dst n rs m) v)) g0 := by
  have h1 : ∀ m, m < n → ∀ g0 : Int, 0 ≤ g0 → 0 ≤ gap1 g0 (zg (dst n rs m) v) := fun m hm g0 h => by
    unfold gap1; split
    · exact h
    · rename_i h1; rcases dst_val hn hm hr hv with h2 | h2
      · exact absurd h2 h1
      · omega
  have h2 : ∀ (L : List Nat) (g0 : Int), (∀ m ∈ L, m < n) → 0 ≤ g0 → 0 ≤ L.foldl (fun g m => gap1 g (zg (dst n rs m) v)) g0 := by
    intro L
    induction L with
    | nil => intro g0 _ h; exact h
    | cons m L ih => intro g0 hL h; rw [List.foldl_cons]; exact ih _ (fun x hx => hL x (List.mem_cons_of_mem _ hx)) (h1 m (hL m (by simp)) g0 h)
  intro L
  induction L with
  | nil => intro g0 _ h; exact ⟨fun h => by simp at h, h⟩
  | cons m L ih =>
    intro g0 hL h
    refine ⟨fun hm => ?_, h2 _ g0 hL h⟩
    rw [List.foldl_cons]
    have hL' := fun x hx => hL x (List.mem_cons_of_mem _ hx)
    have hg := h1 m (hL m (by simp)) g0 h
    by_cases e : v = m
    · subst e
      have e0 : gap1 g0 (zg (dst n rs v) v) = 0 := by
        have := (dst_di hn hv hr).src
        unfold gap1; rw [if_neg (by omega), this]; omega
      rw [e0]
      have := h2 L 0 hL' (Int.le_refl _)
      have := gap_le n rs v L 0
      omega
    · refine (ih _ hL' hg).1 ?_
      rcases List.mem_cons.1 hm with h | h
      · exact absurd h e
      · exact h

/-- What a choice is: the first of the farthest nodes, and the first whose gap is the greatest. -/
theorem nextM_is {n : Nat} {rs : List A3} (hn : n ≤ 20) (hr : ArcsIn n rs) {L : List Nat} (hL : ∀ m ∈ L, m < n) {u : Nat} (hu : u < n) (huL : u ∉ L) :
    nextM n rs L < n ∧ nextM n rs L ∉ L ∧ pick1 (gap n rs L) L n = ((nextM n rs L : Int), gap n rs L (nextM n rs L)) ∧ (∀ j, j < n → gap n rs L j ≤ gap n rs L (nextM n rs L)) ∧ ∀ j, j < nextM n rs L → gap n rs L j < gap n rs L (nextM n rs L) := by
  have hg : ∀ j, j < n → j ∉ L → 1 ≤ gap n rs L j := fun j hj h => (gap_pos hn hr hj L hL h).1
  -- the numbers beyond n play no part
  have hpk : ∀ k, k ≤ n → pick1 (gap n rs L) L k = pick1 (fun j => if j < n then gap n rs L j else 1) L k := by
    intro k
    induction k with
    | zero => intro _; rfl
    | succ k ih => intro h; unfold pick1; rw [ih (by omega), if_pos (show k < n by omega)]
  have e := hpk n (Nat.le_refl _)
  rcases pick1_inv (fun j => if j < n then gap n rs L j else 1) L (fun j h => by
    show 1 ≤ (if j < n then gap n rs L j else 1)
    split
    · exact hg j ‹_› h
    · omega) n with ⟨-, h2⟩ | ⟨b, hb, hbL, e2, h3, h4⟩
  · exact absurd (h2 u hu) huL
  · simp only [if_pos hb] at e2 h3 h4
    have e3 : nextM n rs L = b := by unfold nextM; rw [e, e2]; simp
    rw [e3]
    have hb1 := hg b hb hbL
    refine ⟨hb, hbL, by rw [e, e2], fun j hj => ?_, fun j hj => ?_⟩
    · by_cases hjL : j ∈ L
      · have := (gap_in hn hr hj L 2000000 hL (by omega)).1 hjL
        have e5 : gap n rs L j = 0 := this
        omega
      · have := h3 j hj hjL; rw [if_pos hj] at this; exact this
    · by_cases hjL : j ∈ L
      · have := (gap_in hn hr (show j < n by omega) L 2000000 hL (by omega)).1 hjL
        have e5 : gap n rs L j = 0 := this
        omega
      · have := h4 j hj hjL; rw [if_pos (show j < n by omega)] at this; exact this
/-- The landmarks are different nodes. -/
theorem farL_in {n : Nat} {rs : List A3} (hn : n ≤ 20) (hr : ArcsIn n rs) : ∀ k, k ≤ n → (∀ m ∈ farL n rs k, m < n) ∧ (farL n rs k).Nodup
  | 0, _ => ⟨fun m hm => by simp [farL] at hm, by simp [farL]⟩
  | k + 1, hk => by
    obtain ⟨h1, h2⟩ := farL_in hn hr k (by omega)
    have hl := farL_len n rs k
    have : ∃ u, u < n ∧ u ∉ farL n rs k := by
      refine Classical.byContradiction fun h => ?_
      have hall : ∀ u, u < n → u ∈ farL n rs k := fun u hu => Classical.byContradiction fun h' => h ⟨u, hu, h'⟩
      have := List.Nodup.length_le_of_subset (l₁ := List.range n) (l₂ := farL n rs k) List.nodup_range (fun x hx => hall x (List.mem_range.1 hx))
      rw [List.length_range, hl] at this; omega
    obtain ⟨u, hu, huL⟩ := this
    obtain ⟨q1, q2, -⟩ := nextM_is hn hr h1 hu huL
    unfold farL
    refine ⟨fun m hm => ?_, ?_⟩
    · rcases List.mem_append.1 hm with g | g
      · exact h1 m g
      · obtain rfl := List.mem_singleton.1 g; exact q1
    · rw [List.nodup_append]
      refine ⟨h2, by simp, fun a ha b hb e => ?_⟩
      obtain rfl := List.mem_singleton.1 hb
      exact q2 (e ▸ ha)
theorem farL_free {n : Nat} {rs : List A3} (_hn : n ≤ 20) (_hr : ArcsIn n rs) {k : Nat} (hk : k < n) : ∃ u, u < n ∧ u ∉ farL n rs k := by
  refine Classical.byContradiction fun h => ?_
  have hall : ∀ u, u < n → u ∈ farL n rs k := fun u hu => Classical.byContradiction fun h' => h ⟨u, hu, h'⟩
  have := List.Nodup.length_le_of_subset (l₁ := List.range n) (l₂ := farL n rs k) List.nodup_range (fun x hx => hall x (List.mem_range.1 hx))
  rw [List.length_range, farL_len] at this; omega
theorem farL_one {n : Nat} {rs : List A3} (hn : 0 < n) : farL n rs 1 = [0] := by
  have e : ∀ k, 0 < k → pick1 (gap n rs []) [] k = ((0 : Int), 2000000) := by
    intro k
    induction k with
    | zero => intro h; omega
    | succ k ih =>
      intro _
      unfold pick1
      rcases Nat.eq_zero_or_pos k with rfl | hk
      · simp [pick1, gap_nil]
      · rw [ih hk, gap_nil]; simp
  show farL n rs 0 ++ [nextM n rs (farL n rs 0)] = [0]
  have : farL n rs 0 = [] := rfl
  rw [this]
  unfold nextM
  rw [e n hn]; rfl

end Go.Proofs.Ytagaildnfbegkaa
