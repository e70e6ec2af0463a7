/-
  When a hierarchy is one of a network (mathematics).
-/
import Derived.Test.YtagaildnfbegkaaClimbM
import Derived.Test.YtagaildnfbegkaaOrderM
import Derived.Test.YtagaildnfbegkaaNetArcs
import Derived.Test.YtagaildnfbegkaaTurnLaw
namespace Go.Proofs.Ytagaildnfbegkaa
open Go.RowKit Go.Deep

/-- The place of the first arc of a hierarchy with these ends, -1 where there is none. -/
def hitH (rs : List A4) (u v : Int) (i : Nat) : Bool := (hcg rs i).1 == u && (hcg rs i).2.1 == v
def findH (rs : List A4) (u v : Int) : Int := match (List.range rs.length).find? (hitH rs u v) with
  | some i => i
  | none => -1
theorem findH_hit {rs : List A4} {u v : Int} {k : Nat} (hk : k < rs.length) (h : hitH rs u v k = true) (hno : ∀ i, i < k → hitH rs u v i = false) : findH rs u v = k := by
  have e : (List.range rs.length).find? (hitH rs u v) = some k := by
    rw [List.find?_range_eq_some]
    exact ⟨h, List.mem_range.2 hk, fun i hi => by rw [hno i hi]; rfl⟩
  unfold findH; rw [e]
theorem findH_none {rs : List A4} {u v : Int} (hno : ∀ i, i < rs.length → hitH rs u v i = false) : findH rs u v = -1 := by
  have e : (List.range rs.length).find? (hitH rs u v) = none := by
    rw [List.find?_range_eq_none]
    exact fun i hi => by rw [hno i hi]; rfl
  unfold findH; rw [e]
theorem findH_or (rs : List A4) (u v : Int) : (findH rs u v = -1 ∧ ∀ i, i < rs.length → hitH rs u v i = false) ∨ ∃ k, k < rs.length ∧ findH rs u v = (k : Int) ∧ hitH rs u v k = true ∧ ∀ i, i < k → hitH rs u v i = false := by
  cases h : (List.range rs.length).find? (hitH rs u v) with
  | none =>
    have h' := List.find?_range_eq_none.1 h
    exact .inl ⟨by unfold findH; rw [h], fun i hi => by simpa using h' i hi⟩
  | some k =>
    have h' := List.find?_range_eq_some.1 h
    exact .inr ⟨k, by simpa using h'.2.1, by unfold findH; rw [h], h'.1, fun i hi => by simpa using h'.2.2 i hi⟩
/-- An arc that the network has, or that leads past a node by two arcs of the hierarchy. -/
def explP (rs : List A3) (zs : List Int) (hs : List A4) (a : A4) : Prop :=
  if a.2.2.2 = -1 then ∃ k, k < rs.length ∧ arg rs k = (a.1, a.2.1, a.2.2.1)
  else btB a.2.2.2 0 ((zs.length : Int) - 1) = true ∧ zg zs a.2.2.2.toNat < zg zs a.1.toNat ∧ zg zs a.2.2.2.toNat < zg zs a.2.1.toNat ∧
    ∃ j k, j < hs.length ∧ k < hs.length ∧ hitH hs a.1 a.2.2.2 j = true ∧ hitH hs a.2.2.2 a.2.1 k = true ∧ (hcg hs j).2.2.1 + (hcg hs k).2.2.1 = a.2.2.1
def hltB (a b : A4) : Bool := decide (a.1 < b.1 ∨ a.1 = b.1 ∧ a.2.1 < b.2.1)
/-- The i-th arc is right. -/
def harcP (rs : List A3) (zs : List Int) (hs : List A4) (i : Nat) : Prop :=
  btB (hcg hs i).1 0 ((zs.length : Int) - 1) = true ∧ btB (hcg hs i).2.1 0 ((zs.length : Int) - 1) = true ∧ (hcg hs i).1 ≠ (hcg hs i).2.1 ∧ btB (hcg hs i).2.2.1 1 1000000 = true ∧
    (i = 0 ∨ hltB (hcg hs (i - 1)) (hcg hs i) = true) ∧ explP rs zs hs (hcg hs i)
def hierP (ps : List (Int × Int)) (rs : List A3) (zs : List Int) (hs : List A4) : Prop :=
  netB ps rs = true ∧ zs.length = ps.length ∧ okZ zs ∧ hs.length ≤ 400 ∧ ∀ i, i < hs.length → harcP rs zs hs i
/-- The arcs are in strictly ascending order. -/
def hasc (hs : List A4) (n : Nat) : Prop := ∀ i, i < n → i = 0 ∨ hltB (hcg hs (i - 1)) (hcg hs i) = true
theorem hlt_trans {a b c : A4} (h : hltB a b = true) (k : hltB b c = true) : hltB a c = true := by
  unfold hltB at *; simp only [decide_eq_true_eq] at *; omega
theorem hasc_lt {hs : List A4} {n : Nat} (h : hasc hs n) : ∀ {i j : Nat}, i < j → j < n → hltB (hcg hs i) (hcg hs j) = true
  | i, 0, hi, _ => by omega
  | i, j + 1, hi, hj => by
    have s := h (j + 1) hj
    have s' : hltB (hcg hs j) (hcg hs (j + 1)) = true := by
      rcases s with s | s
      · omega
      · exact s
    by_cases e : i = j
    · subst e; exact s'
    · exact hlt_trans (hasc_lt h (by omega) (by omega)) s'
theorem hasc_one {hs : List A4} {n : Nat} (h : hasc hs n) {u v : Int} {i j : Nat} (hi : i < n) (hj : j < n) (k1 : hitH hs u v i = true) (k2 : hitH hs u v j = true) : i = j := by
  unfold hitH at k1 k2
  simp only [Bool.and_eq_true, beq_iff_eq] at k1 k2
  have q : ∀ {a b : Nat}, a < b → b < n → (hcg hs a).1 = (hcg hs b).1 → (hcg hs a).2.1 = (hcg hs b).2.1 → False := fun hab hb e1 e2 => by
    have := hasc_lt h hab hb
    unfold hltB at this
    simp only [decide_eq_true_eq] at this
    omega
  rcases Nat.lt_trichotomy i j with g | g | g
  · exact (q g hj (by omega) (by omega)).elim
  · exact g
  · exact (q g hi (by omega) (by omega)).elim

end Go.Proofs.Ytagaildnfbegkaa
