/-
  A table's entries (mathematics): what the program's way and the specification's way give is one.
-/
import Derived.Test.YtagaildnfbegkabShortest
import Derived.Test.YtagaildnfbegkabMeet
namespace Go.Proofs.Ytagaildnfbegkab
open Go.RowKit Go.Deep

theorem arg_left {L M : List A3} {k : Nat} (h : k < L.length) : arg (L ++ M) k = arg L k := by
  unfold arg; rw [List.getD_eq_getElem?_getD, List.getD_eq_getElem?_getD, List.getElem?_append_left h]
theorem arg_last (L : List A3) (a : A3) : arg (L ++ [a]) L.length = a := by
  unfold arg; rw [List.getD_eq_getElem?_getD, List.getElem?_append_right (Nat.le_refl _)]; simp
theorem leastK_left {L : List A3} (a : A3) : ∀ {n : Nat}, n ≤ L.length → leastK (L ++ [a]) n = leastK L n
  | 0, _ => rfl
  | n + 1, h => by
    have e := leastK_left (L := L) a (n := n) (by omega)
    show (if n = 0 ∨ (arg (L ++ [a]) n).2.2 < (leastK (L ++ [a]) n).2.2 then arg (L ++ [a]) n else leastK (L ++ [a]) n) = (if n = 0 ∨ (arg L n).2.2 < (leastK L n).2.2 then arg L n else leastK L n)
    rw [e, arg_left (by omega)]
theorem leastK_snoc (L : List A3) (a : A3) : (leastK (L ++ [a]) (L ++ [a]).length).2.2 = if L.length = 0 ∨ a.2.2 < (leastK L L.length).2.2 then a.2.2 else (leastK L L.length).2.2 := by
  have hl : (L ++ [a]).length = L.length + 1 := by simp
  rw [hl]
  show (if L.length = 0 ∨ (arg (L ++ [a]) L.length).2.2 < (leastK (L ++ [a]) L.length).2.2 then arg (L ++ [a]) L.length else leastK (L ++ [a]) L.length).2.2 = _
  rw [leastK_left a (Nat.le_refl _), arg_last]
  split
  · rfl
  · rfl
/-- The least length to a goal among the first j ways. -/
def stW (ws : List A3) : Nat → Nat → Int
  | 0, _ => -1
  | j + 1, i => if (arg ws j).2.1 = (i : Int) ∧ (stW ws j i = -1 ∨ (arg ws j).2.2 < stW ws j i) then (arg ws j).2.2 else stW ws j i
theorem stW_left {L : List A3} (a : A3) (i : Nat) : ∀ {n : Nat}, n ≤ L.length → stW (L ++ [a]) n i = stW L n i
  | 0, _ => rfl
  | n + 1, h => by
    have e := stW_left (L := L) a i (n := n) (by omega)
    show (if (arg (L ++ [a]) n).2.1 = (i : Int) ∧ (stW (L ++ [a]) n i = -1 ∨ (arg (L ++ [a]) n).2.2 < stW (L ++ [a]) n i) then (arg (L ++ [a]) n).2.2 else stW (L ++ [a]) n i) = (if (arg L n).2.1 = (i : Int) ∧ (stW L n i = -1 ∨ (arg L n).2.2 < stW L n i) then (arg L n).2.2 else stW L n i)
    rw [e, arg_left (by omega)]
theorem grp_least {ws : List A3} (h0 : ∀ k, k < ws.length → 0 ≤ (arg ws k).2.2) (i : Nat) : ∀ {j : Nat}, j ≤ ws.length →
    ((grp ws i j).length = 0 → stW ws j i = -1) ∧ (0 < (grp ws i j).length → (leastK (grp ws i j) (grp ws i j).length).2.2 = stW ws j i ∧ 0 ≤ stW ws j i)
  | 0, _ => ⟨fun _ => rfl, fun h => by simp [grp] at h⟩
  | j + 1, h => by
    obtain ⟨a, b⟩ := grp_least h0 i (j := j) (by omega)
    have hj := h0 j (by omega)
    by_cases e : (arg ws j).2.1 = (i : Int)
    · rw [grp_on e]
      refine ⟨fun h => by simp at h, fun _ => ?_⟩
      rw [leastK_snoc]
      show _ = (if (arg ws j).2.1 = (i : Int) ∧ (stW ws j i = -1 ∨ (arg ws j).2.2 < stW ws j i) then (arg ws j).2.2 else stW ws j i) ∧ 0 ≤ (if (arg ws j).2.1 = (i : Int) ∧ (stW ws j i = -1 ∨ (arg ws j).2.2 < stW ws j i) then (arg ws j).2.2 else stW ws j i)
      rcases Nat.eq_zero_or_pos (grp ws i j).length with hz | hz
      · rw [if_pos (.inl hz), if_pos ⟨e, .inl (a hz)⟩]; exact ⟨rfl, hj⟩
      · obtain ⟨b1, b2⟩ := b hz
        rw [b1]
        by_cases hlt : (arg ws j).2.2 < stW ws j i
        · rw [if_pos (.inr hlt), if_pos ⟨e, .inr hlt⟩]; exact ⟨rfl, hj⟩
        · rw [if_neg (by omega), if_neg (by rintro ⟨-, q | q⟩ <;> omega)]; exact ⟨rfl, b2⟩
    · rw [grp_off e]
      have : stW ws (j + 1) i = stW ws j i := if_neg (fun q => e q.1)
      rw [this]; exact ⟨a, b⟩
theorem stV_is {ws : List A3} (h0 : ∀ k, k < ws.length → 0 ≤ (arg ws k).2.2) (i : Nat) : stV ws i = stW ws ws.length i := by
  obtain ⟨a, b⟩ := grp_least h0 i (Nat.le_refl ws.length)
  unfold stV; split
  · rename_i h; exact (b h).1
  · rename_i h; exact (a (by omega)).symm
/-- The specification's way: bucket by bucket. -/
def spT (u : List Int) (qs : List A3) : Nat → Nat → Int
  | 0, _ => -1
  | j + 1, i => if zg u (arg qs j).1.toNat ≠ -1 ∧ (arg qs j).2.1 = (i : Int) ∧ (spT u qs j i = -1 ∨ zg u (arg qs j).1.toNat + (arg qs j).2.2 < spT u qs j i) then zg u (arg qs j).1.toNat + (arg qs j).2.2 else spT u qs j i
theorem meet_spT (u : List Int) (qs : List A3) (i : Nat) : ∀ j, stW (meetK u qs j) (meetK u qs j).length i = spT u qs j i
  | 0 => rfl
  | j + 1 => by
    have e := meet_spT u qs i j
    by_cases h : zg u (arg qs j).1.toNat = -1
    · rw [meetK_off h, e]; exact (if_neg (fun q => q.1 h)).symm
    · rw [meetK_on h]
      have hl : (meetK u qs j ++ [((arg qs j).1, (arg qs j).2.1, zg u (arg qs j).1.toNat + (arg qs j).2.2)]).length = (meetK u qs j).length + 1 := by simp
      rw [hl]
      show (if _ ∧ (_ ∨ _) then _ else _) = (if _ ∧ _ ∧ (_ ∨ _) then _ else _)
      rw [arg_last, stW_left _ i (Nat.le_refl _), e]
      simp only [ne_eq, h, not_false_eq_true, true_and]
theorem meet_mem {u : List Int} {qs : List A3} {n : Nat} (hb : bkIn n qs) (hu : ∀ v, v < n → -1 ≤ zg u v) : ∀ j, j ≤ qs.length → ∀ k, k < (meetK u qs j).length → 0 ≤ (arg (meetK u qs j) k).2.2 ∧ ∃ i, i < qs.length ∧ (arg (meetK u qs j) k).2.1 = (arg qs i).2.1
  | 0, _, k, hk => by simp [meetK] at hk
  | j + 1, hj, k, hk => by
    by_cases h : zg u (arg qs j).1.toNat = -1
    · rw [meetK_off h] at hk ⊢; exact meet_mem hb hu j (by omega) k hk
    · rw [meetK_on h] at hk ⊢
      rw [List.length_append] at hk
      by_cases e : k < (meetK u qs j).length
      · rw [arg_left e]; exact meet_mem hb hu j (by omega) k e
      · have ek : k = (meetK u qs j).length := by simp at hk; omega
        subst ek
        rw [arg_last]
        obtain ⟨⟨b1, b2⟩, b3, b4⟩ := hb j (by omega)
        have hv := hu (arg qs j).1.toNat (by omega)
        exact ⟨by show 0 ≤ zg u (arg qs j).1.toNat + (arg qs j).2.2; omega, j, by omega, rfl⟩
theorem spT_room {u : List Int} {qs : List A3} {n : Nat} (hb : bkIn n qs) (hu : ∀ v, v < n → -1 ≤ zg u v ∧ zg u v ≤ 1048576000000) (i : Nat) : ∀ j, j ≤ qs.length → -1 ≤ spT u qs j i ∧ spT u qs j i ≤ 2097152000000
  | 0, _ => by show -1 ≤ (-1 : Int) ∧ (-1 : Int) ≤ _; omega
  | j + 1, hj => by
    have e := spT_room hb hu i j (by omega)
    obtain ⟨⟨b1, b2⟩, b3, b4⟩ := hb j (by omega)
    have hv := hu (arg qs j).1.toNat (by omega)
    unfold spT
    split
    · exact ⟨by omega, by omega⟩
    · exact e
/-- What the buckets are. -/
theorem bkRow_in {d : List Int} {n k m : Nat} (hk : k < m) (hd : ∀ v, v < n → -1 ≤ zg d v ∧ zg d v ≤ 1048576000000) : ∀ v, v ≤ n → ∀ a ∈ bkRow d k v, (0 ≤ a.1 ∧ a.1 < (n : Int)) ∧ (0 ≤ a.2.1 ∧ a.2.1 < (m : Int)) ∧ 0 ≤ a.2.2 ∧ a.2.2 ≤ 1048576000000
  | 0, _, a, ha => by simp [bkRow] at ha
  | v + 1, hv, a, ha => by
    by_cases h : zg d v = -1
    · rw [bkRow_off h] at ha; exact bkRow_in hk hd v (by omega) a ha
    · rw [bkRow_on h] at ha
      rcases List.mem_append.1 ha with q | q
      · exact bkRow_in hk hd v (by omega) a q
      · simp at q; subst q
        have := hd v (by omega)
        refine ⟨⟨?_, ?_⟩, ⟨?_, ?_⟩, ?_, ?_⟩ <;> dsimp only <;> omega
theorem bkL_in {zs : List Int} {rs : List A4} {ts : List Int} (hn : zs.length ≤ 1048576) : ∀ k, k ≤ ts.length → ∀ a ∈ bkL zs rs ts k, (0 ≤ a.1 ∧ a.1 < (zs.length : Int)) ∧ (0 ≤ a.2.1 ∧ a.2.1 < (ts.length : Int)) ∧ 0 ≤ a.2.2 ∧ a.2.2 ≤ 1048576000000
  | 0, _, a, ha => by simp [bkL] at ha
  | k + 1, hk, a, ha => by
    have ha' : a ∈ bkL zs rs ts k ++ bkRow (clZ zs rs false (zg ts k)) k zs.length := ha
    rcases List.mem_append.1 ha' with q | q
    · exact bkL_in hn k (by omega) a q
    · refine bkRow_in (m := ts.length) (by omega) (fun v hv => ?_) zs.length (Nat.le_refl _) a q
      rcases clZ_nil_or zs rs false (zg ts k) with e | ⟨-, -, e⟩
      · rw [e]; unfold zg; simp
      · have := e v hv; omega
theorem bksZ_in {zs : List Int} {rs : List A4} {ts : List Int} (hn : zs.length ≤ 1048576) : ∀ i, i < (bksZ zs rs ts).length → (0 ≤ (arg (bksZ zs rs ts) i).1 ∧ (arg (bksZ zs rs ts) i).1 < (zs.length : Int)) ∧ (0 ≤ (arg (bksZ zs rs ts) i).2.1 ∧ (arg (bksZ zs rs ts) i).2.1 < (ts.length : Int)) ∧ 0 ≤ (arg (bksZ zs rs ts) i).2.2 ∧ (arg (bksZ zs rs ts) i).2.2 ≤ 1048576000000 := fun i hi => by
  have hm := arg_mem hi
  have : ∀ a ∈ bksZ zs rs ts, (0 ≤ a.1 ∧ a.1 < (zs.length : Int)) ∧ (0 ≤ a.2.1 ∧ a.2.1 < (ts.length : Int)) ∧ 0 ≤ a.2.2 ∧ a.2.2 ≤ 1048576000000 := fun a ha => by
    unfold bksZ at ha; split at ha
    · exact bkL_in hn _ (Nat.le_refl _) a ha
    · cases ha
  exact this _ hm

end Go.Proofs.Ytagaildnfbegkab
