/-
  Both (mathematics): the nodes on shortest routes, and what two searches tell of them. What the law of searches wants of them (mathematics).
-/
import Derived.Test.YtcaamhoakhgnhaaSearchIm
namespace Go.Proofs.Ytcaamhoakhgnhaa
open Go.RowKit Go.Deep Go.Maps

/-- Whether a node is on some shortest route. -/
def onB (n : Nat) (rs ts : List A3) (S T v : Nat) : Bool := zg (dst n rs S) v != -1 && zg (dst n ts T) v != -1 && (zg (dst n rs S) v + zg (dst n ts T) v == zg (dst n rs S) T)
theorem onB_iff {n : Nat} {rs ts : List A3} {S T v : Nat} : onB n rs ts S T v = true ↔ zg (dst n rs S) v ≠ -1 ∧ zg (dst n ts T) v ≠ -1 ∧ zg (dst n rs S) v + zg (dst n ts T) v = zg (dst n rs S) T := by
  unfold onB; rw [Bool.and_eq_true, Bool.and_eq_true, bne_iff_ne, bne_iff_ne, beq_iff_eq, and_assoc]
/-- The first number for which a condition holds. -/
def midUp (p : Nat → Bool) : Nat → Nat → Nat
  | 0, i => i
  | f + 1, i => if p i = true then i else midUp p f (i + 1)
theorem midUp_is (p : Nat → Bool) : ∀ f i v, i ≤ v → v < i + f → p v = true → (∀ j, i ≤ j → j < v → p j = false) → midUp p f i = v
  | 0, i, v, h1, h2, _, _ => by omega
  | f + 1, i, v, h1, h2, h3, h4 => by
    unfold midUp
    by_cases e : i = v
    · subst e; rw [if_pos h3]
    · rw [if_neg (by rw [h4 i (Nat.le_refl _) (by omega)]; exact Bool.false_ne_true)]
      exact midUp_is p f (i + 1) v (by omega) (by omega) h3 (fun j a b => h4 j (by omega) b)
def midB (n : Nat) (rs ts : List A3) (S T : Nat) : Nat := midUp (onB n rs ts S T) n 0
theorem midB_is {n : Nat} {rs ts : List A3} {S T v : Nat} (hv : v < n) (h : onB n rs ts S T v = true) (hf : ∀ j, j < v → onB n rs ts S T j = false) : midB n rs ts S T = v := midUp_is _ n 0 v (Nat.zero_le _) (by omega) h (fun j _ b => hf j b)
/-- What Both gives. -/
def bothV (ps : List (Int × Int)) (rs : List A3) (s t : Int) : Value := if dB ps rs s t = -1 then .tuple #[.int .i64 0, .int .i64 0, .bool false] else .tuple #[.int .i64 (dB ps rs s t), .int .i64 (midB ps.length rs (turnL rs) s.toNat t.toNat : Nat), .bool true]
theorem bothV_no {ps : List (Int × Int)} {rs : List A3} {s t : Int} (h : dB ps rs s t = -1) : bothV ps rs s t = .tuple #[.int .i64 0, .int .i64 0, .bool false] := if_pos h
theorem bothV_yes {ps : List (Int × Int)} {rs : List A3} {S T : Nat} (h : dB ps rs S T ≠ -1) : bothV ps rs S T = .tuple #[.int .i64 (dB ps rs S T), .int .i64 (midB ps.length rs (turnL rs) S T : Nat), .bool true] := by
  unfold bothV; rw [if_neg h, Int.toNat_natCast, Int.toNat_natCast]
theorem dB_ends {ps : List (Int × Int)} {rs : List A3} {s t : Int} (h : dB ps rs s t ≠ -1) : netB ps rs = true ∧ ∃ S T : Nat, s = S ∧ t = T ∧ S < ps.length ∧ T < ps.length := by
  by_cases g : netB ps rs = true ∧ btB s 0 ((ps.length : Int) - 1) = true ∧ btB t 0 ((ps.length : Int) - 1) = true
  · obtain ⟨g1, g2, g3⟩ := g
    obtain ⟨S, rfl, hS⟩ := node_is g2
    obtain ⟨T, rfl, hT⟩ := node_is g3
    exact ⟨g1, S, T, rfl, rfl, hS, hT⟩
  · exact absurd (by unfold dB; rw [if_neg g]) h
/-- A network turned, and two of its nodes. -/
structure BothN (n : Nat) (rs ts : List A3) (S T : Nat) : Prop where
  hn : n ≤ 20
  hr : ArcsIn n rs
  ht : ArcsIn n ts
  hS : S < n
  hT : T < n
  back : ∀ {s v : Nat}, s < n → v < n → zg (dst n ts v) s = zg (dst n rs s) v
theorem bothN_of {ps : List (Int × Int)} {rs : List A3} {S T : Nat} (h : netB ps rs = true) (hS : S < ps.length) (hT : T < ps.length) : BothN ps.length rs (turnL rs) S T := by
  obtain ⟨h20, -, -, -⟩ := netB_iff.1 h
  obtain ⟨q1, q2, q3⟩ := turn_arcs h
  have hr := arcsIn_net h
  exact ⟨h20, hr, q1, hS, hT, fun hs hv => dst_back h20 hr q1 q2 q3 hs hv⟩
theorem dst_self {n : Nat} {rs : List A3} {s : Nat} (hn : n ≤ 20) (hs : s < n) (hr : ArcsIn n rs) : zg (dst n rs s) s = 0 := by
  have h := walk_le hn hs hr (Walk.here (rs := rs) (u := (s : Int)))
  rw [Int.toNat_natCast] at h
  rcases dst_val hn hs hr hs with g | g
  · exact absurd g h.2.2.1
  · omega
theorem dst_pos {n : Nat} {rs : List A3} {s v : Nat} (hn : n ≤ 20) (hs : s < n) (hr : ArcsIn n rs) (hv : v < n) (hvs : v ≠ s) (h : zg (dst n rs s) v ≠ -1) : 1 ≤ zg (dst n rs s) v := by
  obtain ⟨a, ha, -, h2, h3⟩ := dst_along hn hs hr hv hvs h
  obtain ⟨⟨f0, f1⟩, -, -, l0, -⟩ := hr a ha
  rcases dst_val hn hs hr (v := a.1.toNat) (by omega) with g | g
  · exact absurd g h2
  · omega
section
variable {n : Nat} {rs ts : List A3} {S T : Nat} (B : BothN n rs ts S T)
include B
theorem BothN.src (h : zg (dst n rs S) T ≠ -1) : onB n rs ts S T S = true := by
  rw [onB_iff, dst_self B.hn B.hS B.hr, B.back B.hS B.hT]
  exact ⟨by omega, h, by omega⟩
theorem BothN.flip : BothN n ts rs T S := ⟨B.hn, B.ht, B.hr, B.hT, B.hS, fun hs hv => (B.back hv hs).symm⟩
/-- What is on a shortest route is met by the search from its beginning. -/
theorem BothN.met {R : List (Int × Int)} (F : Found n rs (List.replicate n 0) S T R) {v : Nat} (hv : v < n) (h : onB n rs ts S T v = true) : idsIn R v = true := by
  obtain ⟨h1, h2, h3⟩ := onB_iff.1 h
  have w := dst_walk B.hn B.hS B.hr hv h1
  rcases F.last with ⟨-, -, g⟩ | ⟨R0, x, rfl, hx, -, g⟩
  · exact g _ _ w
  · by_cases e : v = T
    · subst e; rw [idsIn_iff]; exact ⟨x, by simp, hx⟩
    · have q := dst_pos B.hn B.hT B.ht hv e h2
      refine g _ _ w ?_
      have d := (F.dist x (by simp)).2
      rw [hx, Int.toNat_natCast] at d
      have z : ∀ i, zg (List.replicate n 0) i = 0 := zg_zeros n
      rw [z] at d ⊢
      omega
end
/-- The key of a node among what was taken, or -1. -/
def keyOf (R : List (Int × Int)) (u : Int) : Int := match R.find? (fun p => p.2 == u) with
  | some p => p.1
  | none => -1
theorem keyOf_in {R : List (Int × Int)} (hn : (R.map Prod.snd).Nodup) {p : Int × Int} (hp : p ∈ R) : keyOf R p.2 = p.1 := by
  induction R with
  | nil => cases hp
  | cons q R ih =>
    rw [List.map_cons, List.nodup_cons] at hn
    unfold keyOf
    rw [List.find?_cons]
    by_cases e : q.2 = p.2
    · rcases List.mem_cons.1 hp with rfl | hp'
      · simp
      · exact absurd (List.mem_map.2 ⟨p, hp', e.symm⟩) hn.1
    · rcases List.mem_cons.1 hp with rfl | hp'
      · exact absurd rfl e
      · have : (q.2 == p.2) = false := by simpa using e
        rw [this]
        exact ih hn.2 hp'
theorem keyOf_no {R : List (Int × Int)} {u : Int} (h : ∀ p ∈ R, p.2 ≠ u) : keyOf R u = -1 := by
  unfold keyOf
  rw [List.find?_eq_none.2 (fun p hp => by simpa using h p hp)]
section
variable {n : Nat} {rs : List A3} {S T : Nat} {R : List (Int × Int)}
theorem Found.key (F : Found n rs (List.replicate n 0) S T R) {p : Int × Int} (hp : p ∈ R) : keyOf R p.2 = zg (dst n rs S) p.2.toNat ∧ p.1 = zg (dst n rs S) p.2.toNat ∧ zg (dst n rs S) p.2.toNat ≠ -1 := by
  have d := F.dist p hp
  rw [zg_zeros] at d
  rw [keyOf_in F.nod hp]
  exact ⟨by omega, by omega, d.1⟩
theorem Found.goal (F : Found n rs (List.replicate n 0) S T R) : keyOf R T = zg (dst n rs S) T := by
  rcases F.last with ⟨h1, h2, -⟩ | ⟨R0, x, rfl, hx, -, -⟩
  · rw [h1, keyOf_no h2]
  · have k := F.key (p := x) (by simp)
    rw [hx, Int.toNat_natCast] at k
    exact k.1
end
theorem both_goal (ps : List (Int × Int)) (rs : List A3) (s t : Int) : keyOf (srL ps rs s t) t = dB ps rs s t := by
  by_cases g : netB ps rs = true ∧ btB s 0 ((ps.length : Int) - 1) = true ∧ btB t 0 ((ps.length : Int) - 1) = true
  · obtain ⟨g1, g2, g3⟩ := g
    obtain ⟨S, rfl, hS⟩ := node_is g2
    obtain ⟨T, rfl, hT⟩ := node_is g3
    rw [srL_yes g1 hS hT, dB_yes g1 hS hT]
    exact (took_found (netZ_zero g1) hS hT).goal
  · unfold srL dB; rw [if_neg g, if_neg g]; rfl
theorem srL_keys {ps : List (Int × Int)} {rs : List A3} {s t : Int} {p : Int × Int} (hp : p ∈ srL ps rs s t) : 0 ≤ p.1 ∧ p.1 ≤ 200000 := by
  by_cases g : netB ps rs = true ∧ btB s 0 ((ps.length : Int) - 1) = true ∧ btB t 0 ((ps.length : Int) - 1) = true
  · obtain ⟨g1, g2, g3⟩ := g
    obtain ⟨S, rfl, hS⟩ := node_is g2
    obtain ⟨T, rfl, hT⟩ := node_is g3
    rw [srL_yes g1 hS hT] at hp
    have F := took_found (netZ_zero g1) hS hT
    have k := F.key hp
    have h := F.rin p hp
    rcases dst_val (netB_iff.1 g1).1 hS (arcsIn_net g1) (v := p.2.toNat) (by omega) with e | e
    · exact absurd e k.2.2
    · omega
  · unfold srL at hp; rw [if_neg g] at hp; cases hp
theorem keyOf_bd {R : List (Int × Int)} (h : ∀ p ∈ R, 0 ≤ p.1 ∧ p.1 ≤ 200000) (u : Int) : keyOf R u = -1 ∨ 0 ≤ keyOf R u ∧ keyOf R u ≤ 200000 := by
  unfold keyOf
  cases e : R.find? (fun p => p.2 == u) with
  | none => exact .inl rfl
  | some p => exact .inr (h p (List.mem_of_find?_eq_some e))
/-- The nodes that the loop keeps. -/
def keptB (_R1 R2 : List (Int × Int)) (d : Int) (L : List (Int × Int)) : List Int := (L.filter (fun p => keyOf R2 p.2 != -1 && (p.1 + keyOf R2 p.2 == d))).map Prod.snd
theorem keptB_is {n : Nat} {rs ts : List A3} {S T : Nat} (B : BothN n rs ts S T) {R1 R2 : List (Int × Int)} (F1 : Found n rs (List.replicate n 0) S T R1) (F2 : Found n ts (List.replicate n 0) T S R2) (u : Int) :
    u ∈ keptB R1 R2 (zg (dst n rs S) T) R1 ↔ ∃ v : Nat, u = v ∧ v < n ∧ onB n rs ts S T v = true := by
  unfold keptB
  rw [List.mem_map]
  constructor
  · rintro ⟨p, hp, rfl⟩
    obtain ⟨hp, hc⟩ := List.mem_filter.1 hp
    rw [Bool.and_eq_true, bne_iff_ne, beq_iff_eq] at hc
    have hin := F1.rin p hp
    have k := F1.key hp
    refine ⟨p.2.toNat, by omega, by omega, onB_iff.2 ⟨k.2.2, ?_⟩⟩
    by_cases g : ∃ q ∈ R2, q.2 = p.2
    · obtain ⟨q, hq, e⟩ := g
      have k2 := F2.key hq
      rw [e] at k2
      rw [k2.1, k.2.1] at hc
      exact hc
    · exact absurd (keyOf_no (fun q hq e => g ⟨q, hq, e⟩)) hc.1
  · rintro ⟨v, rfl, hv, ho⟩
    obtain ⟨o1, o2, o3⟩ := onB_iff.1 ho
    obtain ⟨p, hp, e⟩ := idsIn_iff.1 (B.met F1 hv ho)
    have hof : onB n ts rs T S v = true := onB_iff.2 ⟨o2, o1, by rw [B.back B.hS B.hT]; omega⟩
    obtain ⟨q, hq, e2⟩ := idsIn_iff.1 (B.flip.met F2 hv hof)
    refine ⟨p, List.mem_filter.2 ⟨hp, ?_⟩, e⟩
    have k := F1.key hp
    have k2 := F2.key hq
    rw [e2] at k2
    rw [e] at k ⊢
    rw [k2.1, k.2.1, Int.toNat_natCast, Bool.and_eq_true, bne_iff_ne, beq_iff_eq]
    exact ⟨o2, o3⟩
theorem foldl_min_le : ∀ (r : List Int) (z : Int), r.foldl min z ≤ z ∧ ∀ x ∈ r, r.foldl min z ≤ x
  | [], z => ⟨Int.le_refl _, fun x hx => by cases hx⟩
  | y :: r, z => by
    obtain ⟨h1, h2⟩ := foldl_min_le r (min z y)
    rw [List.foldl_cons]
    refine ⟨by omega, fun x hx => ?_⟩
    rcases List.mem_cons.1 hx with rfl | hx
    · omega
    · exact h2 x hx
theorem foldl_min_in : ∀ (r : List Int) (z : Int), r.foldl min z = z ∨ r.foldl min z ∈ r
  | [], z => .inl rfl
  | y :: r, z => by
    rw [List.foldl_cons]
    rcases foldl_min_in r (min z y) with h | h
    · rw [h]
      by_cases e : z ≤ y
      · exact .inl (by omega)
      · refine .inr ?_
        rw [show min z y = y by omega]
        exact List.mem_cons_self
    · exact .inr (List.mem_cons_of_mem _ h)
theorem lst_is {zs : List Int} {x : Int} (hx : x ∈ zs) (h : ∀ y ∈ zs, x ≤ y) : lst zs = x := by
  cases zs with
  | nil => cases hx
  | cons z r =>
    show r.foldl min z = x
    obtain ⟨h1, h2⟩ := foldl_min_le r z
    have q : r.foldl min z ≤ x := by
      rcases List.mem_cons.1 hx with rfl | hx
      · exact h1
      · exact h2 x hx
    have q2 : x ≤ r.foldl min z := by
      rcases foldl_min_in r z with e | e
      · rw [e]; exact h z List.mem_cons_self
      · exact h _ (List.mem_cons_of_mem _ e)
    omega
theorem least_of (p : Nat → Bool) : ∀ v, p v = true → ∃ u, u ≤ v ∧ p u = true ∧ ∀ j, j < u → p j = false := fun v => by
  induction v using Nat.strongRecOn with
  | ind v ih =>
    intro hv
    by_cases g : ∃ j, j < v ∧ p j = true
    · obtain ⟨j, hj, e⟩ := g
      obtain ⟨u, h1, h2, h3⟩ := ih j hj e
      exact ⟨u, by omega, h2, h3⟩
    · refine ⟨v, Nat.le_refl _, hv, fun j hj => ?_⟩
      cases e : p j with
      | false => rfl
      | true => exact absurd ⟨j, hj, e⟩ g
theorem BothN.mid {n : Nat} {rs ts : List A3} {S T : Nat} (B : BothN n rs ts S T) (h : zg (dst n rs S) T ≠ -1) : midB n rs ts S T < n ∧ onB n rs ts S T (midB n rs ts S T) = true ∧ ∀ j, j < midB n rs ts S T → onB n rs ts S T j = false := by
  obtain ⟨u, h1, h2, h3⟩ := least_of _ S (B.src h)
  have hu : u < n := by have := B.hS; omega
  rw [midB_is hu h2 h3]
  exact ⟨hu, h2, h3⟩
/-- The least of what the loop keeps. -/
theorem keptB_least {n : Nat} {rs ts : List A3} {S T : Nat} (B : BothN n rs ts S T) {R1 R2 : List (Int × Int)} (F1 : Found n rs (List.replicate n 0) S T R1) (F2 : Found n ts (List.replicate n 0) T S R2) (h : zg (dst n rs S) T ≠ -1) :
    lst (keptB R1 R2 (zg (dst n rs S) T) R1) = (midB n rs ts S T : Nat) := by
  obtain ⟨h1, h2, h3⟩ := B.mid h
  refine lst_is ((keptB_is B F1 F2 _).2 ⟨_, rfl, h1, h2⟩) fun y hy => ?_
  obtain ⟨v, rfl, hv, ho⟩ := (keptB_is B F1 F2 _).1 hy
  refine Int.not_lt.1 fun hlt => ?_
  have := h3 v (by omega)
  rw [this] at ho; cases ho
theorem keptB_step {R1 R2 : List (Int × Int)} {d : Int} {k : Nat} (hk : k < R1.length) : keptB R1 R2 d (R1.take (k + 1)) = if (keyOf R2 (zg (idsL R1) k) != -1 && (zg (keysL R1) k + keyOf R2 (zg (idsL R1) k) == d)) = true then keptB R1 R2 d (R1.take k) ++ [zg (idsL R1) k] else keptB R1 R2 d (R1.take k) := by
  have e1 : zg (idsL R1) k = R1[k].2 := by unfold zg idsL; rw [List.getD_eq_getElem?_getD, List.getElem?_map, List.getElem?_eq_getElem hk]; rfl
  have e2 : zg (keysL R1) k = R1[k].1 := by unfold zg keysL; rw [List.getD_eq_getElem?_getD, List.getElem?_map, List.getElem?_eq_getElem hk]; rfl
  rw [e1, e2]
  unfold keptB
  rw [List.take_succ_eq_append_getElem hk, List.filter_append, List.map_append]
  split
  · rename_i h
    rw [List.filter_cons, if_pos h]; rfl
  · rename_i h
    rw [List.filter_cons, if_neg h]; simp
theorem keptB_few (R1 R2 : List (Int × Int)) (d : Int) (L : List (Int × Int)) : (keptB R1 R2 d L).length ≤ L.length := by unfold keptB; rw [List.length_map]; exact List.length_filter_le _ _
/-- What Both gives, as the program finds it. -/
theorem both_least {ps : List (Int × Int)} {rs : List A3} {s t : Int} (h : dB ps rs s t ≠ -1) : bothV ps rs s t = .tuple #[.int .i64 (dB ps rs s t), .int .i64 (lst (keptB (srL ps rs s t) (srL (turnP ps rs) (turnR ps rs) t s) (dB ps rs s t) (srL ps rs s t))), .bool true] := by
  obtain ⟨h1, S, T, rfl, rfl, hS, hT⟩ := dB_ends h
  have e1 : turnP ps rs = ps := by unfold turnP; rw [if_pos h1]
  have e2 : turnR ps rs = turnL rs := by unfold turnR; rw [if_pos h1]
  rw [bothV_yes h, e1, e2, srL_yes h1 hS hT, srL_yes (turn_valid h1) hT hS]
  have h' := h
  rw [dB_yes h1 hS hT] at h' ⊢
  rw [keptB_least (bothN_of h1 hS hT) (took_found (netZ_zero h1) hS hT) (took_found (netZ_zero (turn_valid h1)) hT hS) h']
end Go.Proofs.Ytcaamhoakhgnhaa

namespace Go.Proofs.Ytcaamhoakhgnhaa
open Go.RowKit Go.Deep Go.Maps

theorem srL_found {ps : List (Int × Int)} {rs : List A3} {s t : Int} (h : 0 < (srL ps rs s t).length) : netB ps rs = true ∧ ∃ S T : Nat, s = S ∧ t = T ∧ S < ps.length ∧ T < ps.length ∧ Found ps.length rs (List.replicate ps.length 0) S T (srL ps rs S T) := by
  by_cases g : netB ps rs = true ∧ btB s 0 ((ps.length : Int) - 1) = true ∧ btB t 0 ((ps.length : Int) - 1) = true
  · obtain ⟨g1, g2, g3⟩ := g
    obtain ⟨S, rfl, hS⟩ := node_is g2
    obtain ⟨T, rfl, hT⟩ := node_is g3
    refine ⟨g1, S, T, rfl, rfl, hS, hT, ?_⟩
    rw [srL_yes g1 hS hT]
    exact took_found (netZ_zero g1) hS hT
  · unfold srL at h; rw [if_neg g] at h; simp at h
theorem ids_at {R : List (Int × Int)} {k : Nat} (hk : k < R.length) : zg (idsL R) k = R[k].2 := by unfold zg idsL; rw [List.getD_eq_getElem?_getD, List.getElem?_map, List.getElem?_eq_getElem hk]; rfl
theorem keys_at {R : List (Int × Int)} {k : Nat} (hk : k < R.length) : zg (keysL R) k = R[k].1 := by unfold zg keysL; rw [List.getD_eq_getElem?_getD, List.getElem?_map, List.getElem?_eq_getElem hk]; rfl
section
variable {n : Nat} {rs : List A3} {S T : Nat} {R : List (Int × Int)}
theorem Found.at_key (F : Found n rs (List.replicate n 0) S T R) {k : Nat} (hk : k < R.length) : 0 ≤ zg (idsL R) k ∧ zg (idsL R) k < n ∧ zg (keysL R) k = zg (dst n rs S) (zg (idsL R) k).toNat := by
  rw [ids_at hk, keys_at hk]
  have h := F.rin _ (List.getElem_mem hk)
  exact ⟨h.1, h.2, (F.key (List.getElem_mem hk)).2.1⟩
theorem Found.at_asc (F : Found n rs (List.replicate n 0) S T R) {j k : Nat} (hj : j < k) (hk : k < R.length) : zg (keysL R) j ≤ zg (keysL R) k := by
  rw [keys_at (by omega), keys_at hk]
  exact List.pairwise_iff_getElem.1 F.asc j k (by omega) hk hj
theorem Found.at_new (F : Found n rs (List.replicate n 0) S T R) {j k : Nat} (hj : j < k) (hk : k < R.length) : zg (idsL R) j ≠ zg (idsL R) k := by
  rw [ids_at (by omega), ids_at hk]
  have h := List.pairwise_iff_getElem.1 (List.pairwise_map.1 F.nod) j k (by omega) hk hj
  exact h
theorem Found.at_last (F : Found n rs (List.replicate n 0) S T R) (h : 0 < R.length) : zg (idsL R) (R.length - 1) = T ↔ zg (dst n rs S) T ≠ -1 := by
  rw [ids_at (by omega)]
  rcases F.last with ⟨h1, h2, -⟩ | ⟨R0, x, rfl, hx, -, -⟩
  · exact ⟨fun e => absurd e (h2 _ (List.getElem_mem _)), fun e => absurd h1 e⟩
  · have e : (R0 ++ [x])[(R0 ++ [x]).length - 1]'(by simp) = x := by simp
    have k := F.key (p := x) (by simp)
    rw [hx, Int.toNat_natCast] at k
    exact ⟨fun _ => k.2.2, fun _ => by rw [e]; exact hx⟩
end
/-- The node that Both gives lies on a shortest route. -/
theorem both_mid {ps : List (Int × Int)} {rs : List A3} {S T : Nat} (h1 : netB ps rs = true) (hS : S < ps.length) (hT : T < ps.length) (h : dB ps rs S T ≠ -1) : ∃ M : Nat, bothV ps rs S T = .tuple #[.int .i64 (dB ps rs S T), .int .i64 (M : Int), .bool true] ∧ M < ps.length ∧ dB ps rs S M + dB ps rs M T = dB ps rs S T := by
  have B := bothN_of h1 hS hT
  have h' := h
  rw [dB_yes h1 hS hT] at h'
  obtain ⟨m1, m2, -⟩ := B.mid h'
  refine ⟨_, bothV_yes h, m1, ?_⟩
  obtain ⟨o1, o2, o3⟩ := onB_iff.1 m2
  rw [dB_yes h1 hS m1, dB_yes h1 m1 hT, dB_yes h1 hS hT, ← B.back m1 hT]
  exact o3
end Go.Proofs.Ytcaamhoakhgnhaa
