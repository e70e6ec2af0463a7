/-
  Dijkstra's search over a network with numbers at its nodes: the items that are taken, one after another; that their keys, less those numbers, are the distances.
-/
import Derived.Test.YtcaamhoakhgnhaaPutAll
import Derived.Test.YtcaamhoakhgnhaaPots
namespace Go.Proofs.Ytcaamhoakhgnhaa
open Go.RowKit Go.Deep Go.Maps

theorem nodup_len : ∀ (n : Nat) (l : List Int), l.Nodup → (∀ x ∈ l, 0 ≤ x ∧ x < (n : Int)) → l.length ≤ n
  | 0, l, _, h => by
    cases l with
    | nil => simp
    | cons x r => have := h x (by simp); omega
  | n + 1, l, hd, h => by
    by_cases hm : (n : Int) ∈ l
    · have := nodup_len n (l.erase n) (hd.erase _) (fun x hx => by
        have h1 := (hd.mem_erase_iff).1 hx
        have h2 := h x h1.2
        have h3 : x ≠ n := h1.1
        omega)
      rw [List.length_erase_of_mem hm] at this
      omega
    · have := nodup_len n l hd (fun x hx => by
        have h1 := h x hx
        have h3 : x ≠ n := fun e => hm (e ▸ hx)
        omega)
      omega

/-- Whether an item with this Id is among them. -/
def idsIn (D : List (Int × Int)) (v : Int) : Bool := D.any (fun p => p.2 == v)
theorem idsIn_iff {D : List (Int × Int)} {v : Int} : idsIn D v = true ↔ ∃ p ∈ D, p.2 = v := by unfold idsIn; rw [List.any_eq_true]; simp
theorem idsIn_no {D : List (Int × Int)} {v : Int} : idsIn D v = false ↔ ∀ p ∈ D, p.2 ≠ v := by
  rw [← Bool.not_eq_true, idsIn_iff]; exact ⟨fun h p hp e => h ⟨p, hp, e⟩, fun h ⟨p, hp, e⟩ => h p hp e⟩
theorem idsIn_snoc (D : List (Int × Int)) (x : Int × Int) (v : Int) : idsIn (D ++ [x]) v = (idsIn D v || x.2 == v) := by unfold idsIn; simp

/-- The key of an arc's To; an arc, k arcs looked at behind x was taken; the items that a search takes. -/
def keyOn (zs : List Int) (k : Int) (a : A3) : Int := k + (a.2.2 + zg zs a.2.1.toNat - zg zs a.1.toNat)
def pu1 (zs : List Int) (x : Int × Int) (D q : List (Int × Int)) (a : A3) : List (Int × Int) := if a.1 = x.2 ∧ idsIn D a.2.1 = false then putL q (keyOn zs x.1 a, a.2.1) else q
def puK (zs : List Int) (rs : List A3) (x : Int × Int) (D q : List (Int × Int)) : Nat → List (Int × Int)
  | 0 => q
  | k + 1 => pu1 zs x D (puK zs rs x D q k) (arg rs k)
def srch (zs : List Int) (rs : List A3) (t : Int) : Nat → List (Int × Int) → List (Int × Int) → List (Int × Int)
  | 0, _, D => D
  | _ + 1, [], D => D
  | f + 1, x :: q, D => if x.2 = t then D ++ [x] else srch zs rs t f (puK zs rs x (D ++ [x]) q rs.length) (D ++ [x])
theorem keyOn_red (zs : List Int) (k : Int) (rs : List A3) (i : Nat) : keyOn zs k (arg rs i) = k + red rs zs i := rfl
theorem srch_nil (zs : List Int) (rs : List A3) (t : Int) (f : Nat) (D : List (Int × Int)) : srch zs rs t f [] D = D := by cases f <;> rfl
theorem srch_goal {zs : List Int} {rs : List A3} {t : Int} {f : Nat} {x : Int × Int} {q D : List (Int × Int)} (h : x.2 = t) : srch zs rs t (f + 1) (x :: q) D = D ++ [x] := by
  show (if x.2 = t then D ++ [x] else _) = _; rw [if_pos h]
theorem srch_on {zs : List Int} {rs : List A3} {t : Int} {f : Nat} {x : Int × Int} {q D : List (Int × Int)} (h : x.2 ≠ t) : srch zs rs t (f + 1) (x :: q) D = srch zs rs t f (puK zs rs x (D ++ [x]) q rs.length) (D ++ [x]) := by
  show (if x.2 = t then _ else _) = _; rw [if_neg h]
theorem puK_skip {zs : List Int} {rs : List A3} {x : Int × Int} {D q : List (Int × Int)} {k : Nat} (h : ¬ ((arg rs k).1 = x.2 ∧ idsIn D (arg rs k).2.1 = false)) : puK zs rs x D q (k + 1) = puK zs rs x D q k := by
  show pu1 _ _ _ _ _ = _; unfold pu1; rw [if_neg h]
theorem puK_put {zs : List Int} {rs : List A3} {x : Int × Int} {D q : List (Int × Int)} {k : Nat} (h : (arg rs k).1 = x.2) (h2 : idsIn D (arg rs k).2.1 = false) : puK zs rs x D q (k + 1) = putL (puK zs rs x D q k) (x.1 + red rs zs k, (arg rs k).2.1) := by
  show pu1 _ _ _ _ _ = _; unfold pu1; rw [if_pos ⟨h, h2⟩]; rfl

/-- The same over the indices of the arcs from x alone. -/
def puL (zs : List Int) (rs : List A3) (x : Int × Int) (D q : List (Int × Int)) (l : List Nat) : List (Int × Int) := l.foldl (fun q i => if idsIn D (arg rs i).2.1 = false then putL q (x.1 + red rs zs i, (arg rs i).2.1) else q) q
theorem puL_snoc (zs : List Int) (rs : List A3) (x : Int × Int) (D q : List (Int × Int)) (l : List Nat) (i : Nat) : puL zs rs x D q (l ++ [i]) = if idsIn D (arg rs i).2.1 = false then putL (puL zs rs x D q l) (x.1 + red rs zs i, (arg rs i).2.1) else puL zs rs x D q l := by
  unfold puL; rw [List.foldl_append]; rfl
theorem puL_row {zs : List Int} {rs : List A3} {x : Int × Int} {D q : List (Int × Int)} (p : Nat → Bool) : ∀ k, (∀ i, i < k → (p i = true ↔ (arg rs i).1 = x.2)) → puL zs rs x D q ((List.range k).filter p) = puK zs rs x D q k
  | 0, _ => rfl
  | k + 1, h => by
    have ih := puL_row (zs := zs) (D := D) (q := q) p k (fun i hi => h i (by omega))
    have hk := h k (by omega)
    rw [List.range_succ, List.filter_append]
    cases hp : p k with
    | false =>
      have e : (arg rs k).1 ≠ x.2 := fun e => by rw [hk.2 e] at hp; cases hp
      rw [puK_skip (fun h => e h.1), ← ih]; simp [hp]
    | true =>
      have e := hk.1 hp
      have e2 : [k].filter p = [k] := by simp [hp]
      rw [e2, puL_snoc, ih]
      split
      · rename_i g; rw [puK_put e g]
      · rename_i g; rw [puK_skip (fun h => g h.2)]

theorem putL_in {q : List (Int × Int)} {x p : Int × Int} (h : p ∈ putL q x) : p ∈ q ∨ p = x := by
  unfold putL at h
  split at h
  · exact .inl h
  · have := (insL_perm _ x).mem_iff.1 h
    rcases List.mem_cons.1 this with g | g
    · exact .inr g
    · exact .inl (List.mem_filter.1 g).1
theorem putL_keep {q : List (Int × Int)} (x : Int × Int) {y : Int × Int} (h : y ∈ q) : ∃ y' ∈ putL q x, y'.2 = y.2 ∧ y'.1 ≤ y.1 := by
  by_cases e : y.2 = x.2
  · cases hs : stopB q x with
    | true => exact ⟨y, by unfold putL; rw [if_pos hs]; exact h, rfl, Int.le_refl _⟩
    | false =>
      refine ⟨x, by unfold putL; rw [hs]; exact (insL_perm _ x).mem_iff.2 (by simp), e.symm, ?_⟩
      refine Int.not_lt.1 fun hlt => ?_
      have : stopB q x = true := by unfold stopB; rw [List.any_eq_true]; exact ⟨y, h, decide_eq_true ⟨e, Int.le_of_lt hlt⟩⟩
      rw [hs] at this; cases this
  · refine ⟨y, ?_, rfl, Int.le_refl _⟩
    unfold putL
    split
    · exact h
    · exact (insL_perm _ x).mem_iff.2 (List.mem_cons_of_mem _ (List.mem_filter.2 ⟨h, decide_eq_true e⟩))
theorem putL_new {q : List (Int × Int)} (x : Int × Int) : ∃ y ∈ putL q x, y.2 = x.2 ∧ y.1 ≤ x.1 := by
  obtain ⟨i, hi, h1, h2⟩ := putL_has (q := q) x
  exact ⟨_, ptg_mem hi, h1, h2⟩

theorem qOk_nil : QOk [] := fun i hi => by simp at hi
theorem qOk_one (x : Int × Int) : QOk [x] := fun i hi => by
  obtain rfl : i = 0 := by simpa using hi
  exact ⟨fun h => by omega, fun j hj => by omega⟩
theorem qOk_tail {x : Int × Int} {q : List (Int × Int)} (h : QOk (x :: q)) : QOk q ∧ (∀ y ∈ q, ltI x y) ∧ ∀ y ∈ q, y.2 ≠ x.2 := by
  have h1 := qOk_pair h
  have h2 := qOk_ids h
  rw [List.pairwise_cons] at h1
  rw [List.map_cons, List.nodup_cons] at h2
  exact ⟨qOk_of (pair_le h1.2) h2.2, h1.1, fun y hy e => h2.1 (List.mem_map.2 ⟨y, hy, e⟩)⟩

/-- What a search keeps at every step. -/
structure SI (n : Nat) (q D : List (Int × Int)) : Prop where
  ok : QOk q
  qin : ∀ p ∈ q, 0 ≤ p.2 ∧ p.2 < (n : Int)
  din : ∀ p ∈ D, 0 ≤ p.2 ∧ p.2 < (n : Int)
  nod : (D.map Prod.snd).Nodup
  apart : ∀ p ∈ q, idsIn D p.2 = false
  bd : ∀ p ∈ q, 0 ≤ p.1 ∧ p.1 ≤ 1000000 + 2000000 * (D.length : Int)
theorem SI.start {n s : Nat} {zs : List Int} (hs : s < n) (hz : zs.length = n) (hp : potIn zs = true) : SI n [(zg zs s, (s : Int))] [] where
  ok := qOk_one _
  qin := fun p hp => by obtain rfl := List.mem_singleton.1 hp; simp; omega
  din := fun p hp => by cases hp
  nod := by simp
  apart := fun p _ => rfl
  bd := fun p h => by obtain rfl := List.mem_singleton.1 h; have := pot_bd hp (i := s) (by omega); simp; omega
theorem SI.qlen {n : Nat} {q D : List (Int × Int)} (h : SI n q D) : q.length ≤ n := by
  have := nodup_len n (q.map Prod.snd) (qOk_ids h.ok) (fun x hx => by obtain ⟨p, hp, rfl⟩ := List.mem_map.1 hx; exact h.qin p hp)
  rwa [List.length_map] at this
theorem SI.dlen {n : Nat} {q D : List (Int × Int)} (h : SI n q D) : D.length ≤ n := by
  have := nodup_len n (D.map Prod.snd) h.nod (fun x hx => by obtain ⟨p, hp, rfl⟩ := List.mem_map.1 hx; exact h.din p hp)
  rwa [List.length_map] at this
theorem SI.take {n : Nat} {x : Int × Int} {q D : List (Int × Int)} (h : SI n (x :: q) D) : SI n q (D ++ [x]) := by
  obtain ⟨h1, h2, h3⟩ := qOk_tail h.ok
  refine ⟨h1, fun p hp => h.qin p (List.mem_cons_of_mem _ hp), fun p hp => ?_, ?_, fun p hp => ?_, fun p hp => ?_⟩
  · rcases List.mem_append.1 hp with g | g
    · exact h.din p g
    · obtain rfl := List.mem_singleton.1 g; exact h.qin p (by simp)
  · rw [List.map_append, List.nodup_append]
    refine ⟨h.nod, by simp, fun a ha b hb e => ?_⟩
    obtain rfl : b = x.2 := by simpa using hb
    obtain ⟨p, hp, rfl⟩ := List.mem_map.1 ha
    have := h.apart x (by simp)
    rw [idsIn_no] at this
    exact this p hp e
  · rw [idsIn_snoc, h.apart p (List.mem_cons_of_mem _ hp)]
    have := h3 p hp
    simp; exact fun e => this e.symm
  · have := h.bd p (List.mem_cons_of_mem _ hp)
    rw [List.length_append]; simp; omega
theorem SI.put {n : Nat} {q D : List (Int × Int)} (h : SI n q D) {k v : Int} (hv : 0 ≤ v ∧ v < (n : Int)) (hd : idsIn D v = false) (hk : 0 ≤ k ∧ k ≤ 1000000 + 2000000 * (D.length : Int)) : SI n (putL q (k, v)) D := by
  refine ⟨putL_ok _ h.ok, fun p hp => ?_, h.din, h.nod, fun p hp => ?_, fun p hp => ?_⟩
  · rcases putL_in hp with g | rfl
    · exact h.qin p g
    · exact hv
  · rcases putL_in hp with g | rfl
    · exact h.apart p g
    · exact hd
  · rcases putL_in hp with g | rfl
    · exact h.bd p g
    · exact hk

/-- A network with numbers at its nodes, none of its arcs shorter than they allow. -/
structure NetZ (n : Nat) (rs : List A3) (zs : List Int) : Prop where
  n20 : n ≤ 20
  m70 : rs.length ≤ 70
  arcs : ArcsIn n rs
  len : zs.length = n
  pin : potIn zs = true
  rin : redIn rs zs = true
theorem netZ_of {ps : List (Int × Int)} {rs : List A3} {zs : List Int} (h : potB ps rs zs = true) : NetZ ps.length rs zs := by
  obtain ⟨h1, h2, h3, h4⟩ := potB_iff.1 h
  obtain ⟨h20, h70, -, -⟩ := netB_iff.1 h1
  exact ⟨h20, h70, arcsIn_net h1, h2, h3, h4⟩
theorem zg_rep (n i : Nat) (x : Int) : zg (List.replicate n x) i = if i < n then x else 0 := by
  unfold zg; rw [List.getD_eq_getElem?_getD, List.getElem?_replicate]; split <;> rfl
theorem zg_zeros (n i : Nat) : zg (List.replicate n 0) i = 0 := by rw [zg_rep]; split <;> rfl
theorem netZ_zero {ps : List (Int × Int)} {rs : List A3} (h1 : netB ps rs = true) : NetZ ps.length rs (List.replicate ps.length 0) := by
  obtain ⟨h20, h70, -, -⟩ := netB_iff.1 h1
  refine ⟨h20, h70, arcsIn_net h1, by simp, potIn_iff.2 fun i hi => ?_, redIn_iff.2 fun q hq => ?_⟩
  · rw [zg_zeros]; rfl
  · unfold red; rw [zg_zeros, zg_zeros]
    have := (arcsIn_net h1 _ (arg_mem hq)).2.2.2; omega
theorem NetZ.red_bd {n : Nat} {rs : List A3} {zs : List Int} (h : NetZ n rs zs) {i : Nat} (hi : i < rs.length) : 0 ≤ red rs zs i ∧ red rs zs i ≤ 1010000 := by
  have h1 := redIn_iff.1 h.rin i hi
  obtain ⟨⟨f0, f1⟩, ⟨t0, t1⟩, -, l0, l1⟩ := h.arcs _ (arg_mem hi)
  have h2 := pot_bd h.pin (i := (arg rs i).1.toNat) (by rw [h.len]; omega)
  have h3 := pot_bd h.pin (i := (arg rs i).2.1.toNat) (by rw [h.len]; omega)
  refine ⟨h1, ?_⟩
  unfold red; omega

theorem SI.arcs {n : Nat} {rs : List A3} {zs : List Int} (hz : NetZ n rs zs) {x : Int × Int} {q D : List (Int × Int)} (h : SI n q (D ++ [x])) (hx : 0 ≤ x.1 ∧ x.1 ≤ 1000000 + 2000000 * (D.length : Int)) : ∀ k, k ≤ rs.length → SI n (puK zs rs x (D ++ [x]) q k) (D ++ [x])
  | 0, _ => h
  | k + 1, hk => by
    have ih := SI.arcs hz h hx k (by omega)
    by_cases g : (arg rs k).1 = x.2 ∧ idsIn (D ++ [x]) (arg rs k).2.1 = false
    · rw [puK_put g.1 g.2]
      have hb := hz.red_bd (i := k) (by omega)
      refine ih.put (hz.arcs _ (arg_mem (by omega))).2.1 g.2 ?_
      rw [List.length_append]; simp; omega
    · rw [puK_skip g]; exact ih
theorem SI.next {n : Nat} {rs : List A3} {zs : List Int} (hz : NetZ n rs zs) {x : Int × Int} {q D : List (Int × Int)} (h : SI n (x :: q) D) : ∀ k, k ≤ rs.length → SI n (puK zs rs x (D ++ [x]) q k) (D ++ [x]) := SI.arcs hz h.take (h.bd x (by simp))

-- heaps
theorem putRel_perm {qh q q2 : List (Int × Int)} {x : Int × Int} (hp : qh.Perm q) (h : PutRel qh x q2) : PutRel q x q2 := by
  rcases h with ⟨hno, h2⟩ | ⟨i, hi, he, h2⟩
  · refine .inl ⟨fun j hj e => ?_, h2.trans (hp.append_right _)⟩
    have := hp.mem_iff.2 (ptg_mem hj)
    obtain ⟨i, hi, hij⟩ := List.getElem_of_mem this
    refine hno i hi ?_
    unfold idg at e ⊢; rw [ptg_get hi, hij]; exact e
  · have hm := hp.mem_iff.1 (ptg_mem hi)
    obtain ⟨j, hj, hij⟩ := List.getElem_of_mem hm
    have e1 : ptg q j = ptg qh i := by rw [ptg_get hj]; exact hij
    have c1 : ∀ (l : List (Int × Int)) (i : Nat) (hi : i < l.length), l.Perm (ptg l i :: (l.take i ++ l.drop (i + 1))) := fun l i hi => by
      have : l = l.take i ++ (ptg l i :: l.drop (i + 1)) := by rw [ptg_get hi, ← List.drop_eq_getElem_cons hi, List.take_append_drop]
      conv => lhs; rw [this]
      exact List.perm_middle
    have c2 : ∀ (l : List (Int × Int)) (i : Nat) (hi : i < l.length), (l.set i x).Perm (x :: (l.take i ++ l.drop (i + 1))) := fun l i hi => by
      rw [List.set_eq_take_append_cons_drop, if_pos hi]; exact List.perm_middle
    have h3 := ((c1 qh i hi).symm.trans hp).trans (c1 q j hj)
    rw [e1] at h3
    have h4 := List.Perm.cons_inv h3
    refine .inr ⟨j, hj, by unfold idg at he ⊢; rw [e1]; exact he, ?_⟩
    rw [e1]
    rcases h2 with ⟨hl, h2⟩ | ⟨hl, h2⟩
    · exact .inl ⟨hl, (h2.trans (c2 qh i hi)).trans ((h4.cons x).trans (c2 q j hj).symm)⟩
    · exact .inr ⟨hl, h2.trans hp⟩
theorem heap_put {qh q q2 : List (Int × Int)} {x : Int × Int} (hok : QOk q) (hp : qh.Perm q) (h : PutRel qh x q2) : q2.Perm (putL q x) := putL_perm hok (putRel_perm hp h)
theorem heap_head {qh q : List (Int × Int)} {x : Int × Int} (hok : QOk (x :: q)) (hp : qh.Perm (x :: q)) (hh : HeapN qh qh.length) : ptg qh 0 = x := by
  obtain ⟨-, h2, -⟩ := qOk_tail hok
  have hl : 0 < qh.length := by rw [hp.length_eq]; simp
  have hm := hp.mem_iff.1 (ptg_mem hl)
  rcases List.mem_cons.1 hm with g | g
  · exact g
  · have hlt := h2 _ g
    have hx : x ∈ qh := hp.mem_iff.2 (by simp)
    obtain ⟨i, hi, hix⟩ := List.getElem_of_mem hx
    have := hh.root i hi
    rw [ptg_get hi, hix] at this
    exact absurd hlt this

-- that the keys are the distances
structure DJ (n : Nat) (rs : List A3) (zs : List Int) (s : Nat) (q D : List (Int × Int)) : Prop where
  dist : ∀ p ∈ D, zg (dst n rs s) p.2.toNat ≠ -1 ∧ p.1 - zg zs p.2.toNat = zg (dst n rs s) p.2.toNat
  walk : ∀ p ∈ q, Walk rs s p.2 (p.1 - zg zs p.2.toNat)
  arcs : ∀ p ∈ D, ∀ a ∈ rs, a.1 = p.2 → idsIn D a.2.1 = true ∨ ∃ y ∈ q, y.2 = a.2.1 ∧ y.1 ≤ keyOn zs p.1 a
  src : idsIn D s = true ∨ ∃ y ∈ q, y.2 = (s : Int) ∧ y.1 ≤ zg zs s
  asc : D.Pairwise (fun a b => a.1 ≤ b.1)
  low : ∀ p ∈ D, ∀ y ∈ q, p.1 ≤ y.1
theorem DJ.start (n : Nat) (rs : List A3) (zs : List Int) (s : Nat) : DJ n rs zs s [(zg zs s, (s : Int))] [] where
  dist := fun p hp => by cases hp
  walk := fun p hp => by obtain rfl := List.mem_singleton.1 hp; simp only [Int.toNat_natCast, Int.sub_self]; exact .here
  arcs := fun p hp => by cases hp
  src := .inr ⟨_, List.mem_singleton.2 rfl, rfl, Int.le_refl _⟩
  asc := .nil
  low := fun p hp => by cases hp
/-- What is reached is taken, or something no farther is in the queue. -/
theorem DJ.reach {n : Nat} {rs : List A3} {zs : List Int} {s : Nat} {q D : List (Int × Int)} (hz : NetZ n rs zs) (hs : s < n) (h : DJ n rs zs s q D) {v L : Int} (w : Walk rs s v L) : idsIn D v = true ∨ ∃ y ∈ q, y.1 ≤ L + zg zs v.toNat := by
  induction w with
  | here =>
    rcases h.src with g | ⟨y, hy, -, g⟩
    · exact .inl g
    · exact .inr ⟨y, hy, by simpa using g⟩
  | @on a L wl ha ih =>
    obtain ⟨i, hi, rfl⟩ := mem_arg ha
    have hr := (hz.red_bd hi).1
    unfold red at hr
    rcases ih with g | ⟨y, hy, g⟩
    · obtain ⟨p, hp, e⟩ := idsIn_iff.1 g
      have hd := h.dist p hp
      rw [e] at hd
      have hw := (walk_le hz.n20 hs hz.arcs wl).2.2.2
      rcases h.arcs p hp _ ha e.symm with k | ⟨y, hy, -, k⟩
      · exact .inl k
      · refine .inr ⟨y, hy, ?_⟩
        unfold keyOn at k; omega
    · exact .inr ⟨y, hy, by omega⟩
/-- The first item of the queue has its distance. -/
theorem DJ.first {n : Nat} {rs : List A3} {zs : List Int} {s : Nat} {x : Int × Int} {q D : List (Int × Int)} (hz : NetZ n rs zs) (hs : s < n) (hi : SI n (x :: q) D) (h : DJ n rs zs s (x :: q) D) : zg (dst n rs s) x.2.toNat ≠ -1 ∧ x.1 - zg zs x.2.toNat = zg (dst n rs s) x.2.toNat := by
  obtain ⟨-, -, h3, h4⟩ := walk_le hz.n20 hs hz.arcs (h.walk x (by simp))
  refine ⟨h3, Int.le_antisymm ?_ h4⟩
  obtain ⟨v0, v1⟩ := hi.qin x (by simp)
  have w := dst_walk hz.n20 hs hz.arcs (v := x.2.toNat) (by omega) h3
  rw [Int.toNat_of_nonneg v0] at w
  rcases h.reach hz hs w with g | ⟨y, hy, g⟩
  · rw [hi.apart x (by simp)] at g; cases g
  · obtain ⟨-, k2, -⟩ := qOk_tail hi.ok
    rcases List.mem_cons.1 hy with rfl | hy
    · omega
    · have := k2 y hy
      unfold ltI at this; omega
theorem DJ.arcsK {n : Nat} {rs : List A3} {zs : List Int} {s : Nat} {x : Int × Int} {q D : List (Int × Int)} (hz : NetZ n rs zs) (hs : s < n) (hi : SI n (x :: q) D) (h : DJ n rs zs s (x :: q) D) : ∀ k, k ≤ rs.length →
    (∀ p ∈ puK zs rs x (D ++ [x]) q k, Walk rs s p.2 (p.1 - zg zs p.2.toNat)) ∧ (∀ p ∈ D, ∀ a ∈ rs, a.1 = p.2 → idsIn (D ++ [x]) a.2.1 = true ∨ ∃ y ∈ puK zs rs x (D ++ [x]) q k, y.2 = a.2.1 ∧ y.1 ≤ keyOn zs p.1 a) ∧
    (∀ i, i < k → (arg rs i).1 = x.2 → idsIn (D ++ [x]) (arg rs i).2.1 = true ∨ ∃ y ∈ puK zs rs x (D ++ [x]) q k, y.2 = (arg rs i).2.1 ∧ y.1 ≤ keyOn zs x.1 (arg rs i)) ∧
    (idsIn (D ++ [x]) s = true ∨ ∃ y ∈ puK zs rs x (D ++ [x]) q k, y.2 = (s : Int) ∧ y.1 ≤ zg zs s) ∧ ∀ y ∈ puK zs rs x (D ++ [x]) q k, x.1 ≤ y.1
  | 0, _ => by
    obtain ⟨-, k2, -⟩ := qOk_tail hi.ok
    refine ⟨fun p hp => h.walk p (List.mem_cons_of_mem _ hp), fun p hp a ha e => ?_, fun i hi => by omega, ?_, fun y hy => ?_⟩
    · rcases h.arcs p hp a ha e with g | ⟨y, hy, g⟩
      · left; rw [idsIn_snoc, g]; rfl
      · rcases List.mem_cons.1 hy with rfl | hy
        · left; rw [idsIn_snoc, g.1]; simp
        · exact .inr ⟨y, hy, g⟩
    · rcases h.src with g | ⟨y, hy, g⟩
      · left; rw [idsIn_snoc, g]; rfl
      · rcases List.mem_cons.1 hy with rfl | hy
        · left; rw [idsIn_snoc, g.1]; simp
        · exact .inr ⟨y, hy, g⟩
    · have := k2 y hy
      unfold ltI at this; omega
  | k + 1, hk => by
    obtain ⟨i1, i2, i3, i4, i5⟩ := DJ.arcsK hz hs hi h k (by omega)
    by_cases g : (arg rs k).1 = x.2 ∧ idsIn (D ++ [x]) (arg rs k).2.1 = false
    · have hw := h.walk x (by simp)
      have hr := (hz.red_bd (i := k) (by omega)).1
      rw [puK_put g.1 g.2]
      refine ⟨fun p hp => ?_, fun p hp a ha e => ?_, fun i hi' e => ?_, ?_, fun y hy => ?_⟩
      · rcases putL_in hp with g' | rfl
        · exact i1 p g'
        · have := Walk.on (a := arg rs k) (g.1 ▸ hw) (arg_mem (by omega))
          have e2 : x.1 + red rs zs k - zg zs (arg rs k).2.1.toNat = x.1 - zg zs x.2.toNat + (arg rs k).2.2 := by unfold red; rw [g.1]; omega
          show Walk rs s (arg rs k).2.1 (x.1 + red rs zs k - zg zs (arg rs k).2.1.toNat)
          rw [e2]; rw [g.1] at this; exact this
      · rcases i2 p hp a ha e with g' | ⟨y, hy, e1, e2⟩
        · exact .inl g'
        · obtain ⟨y', hy', e3, e4⟩ := putL_keep (x.1 + red rs zs k, (arg rs k).2.1) hy
          exact .inr ⟨y', hy', e3.trans e1, Int.le_trans e4 e2⟩
      · rcases Nat.lt_or_ge i k with h' | h'
        · rcases i3 i h' e with g' | ⟨y, hy, e1, e2⟩
          · exact .inl g'
          · obtain ⟨y', hy', e3, e4⟩ := putL_keep (x.1 + red rs zs k, (arg rs k).2.1) hy
            exact .inr ⟨y', hy', e3.trans e1, Int.le_trans e4 e2⟩
        · obtain rfl : i = k := by omega
          obtain ⟨y, hy, e1, e2⟩ := putL_new (q := puK zs rs x (D ++ [x]) q i) (x.1 + red rs zs i, (arg rs i).2.1)
          exact .inr ⟨y, hy, e1, e2⟩
      · rcases i4 with g' | ⟨y, hy, e1, e2⟩
        · exact .inl g'
        · obtain ⟨y', hy', e3, e4⟩ := putL_keep (x.1 + red rs zs k, (arg rs k).2.1) hy
          exact .inr ⟨y', hy', e3.trans e1, Int.le_trans e4 e2⟩
      · rcases putL_in hy with g' | rfl
        · exact i5 y g'
        · show x.1 ≤ x.1 + red rs zs k; omega
    · rw [puK_skip g]
      refine ⟨i1, i2, fun i hi' e => ?_, i4, i5⟩
      rcases Nat.lt_or_ge i k with h' | h'
      · exact i3 i h' e
      · obtain rfl : i = k := by omega
        left
        cases e2 : idsIn (D ++ [x]) (arg rs i).2.1 with
        | true => rfl
        | false => exact absurd ⟨e, e2⟩ g
theorem DJ.take {n : Nat} {rs : List A3} {zs : List Int} {s : Nat} {x : Int × Int} {q D : List (Int × Int)} (h : DJ n rs zs s (x :: q) D) (hf : zg (dst n rs s) x.2.toNat ≠ -1 ∧ x.1 - zg zs x.2.toNat = zg (dst n rs s) x.2.toNat) :
    (∀ p ∈ D ++ [x], zg (dst n rs s) p.2.toNat ≠ -1 ∧ p.1 - zg zs p.2.toNat = zg (dst n rs s) p.2.toNat) ∧ (D ++ [x]).Pairwise (fun a b => a.1 ≤ b.1) := by
  refine ⟨fun p hp => ?_, ?_⟩
  · rcases List.mem_append.1 hp with g | g
    · exact h.dist p g
    · obtain rfl := List.mem_singleton.1 g; exact hf
  · rw [List.pairwise_append]
    refine ⟨h.asc, by simp, fun a ha b hb => ?_⟩
    obtain rfl := List.mem_singleton.1 hb
    exact h.low a ha _ (by simp)
theorem DJ.next {n : Nat} {rs : List A3} {zs : List Int} {s : Nat} {x : Int × Int} {q D : List (Int × Int)} (hz : NetZ n rs zs) (hs : s < n) (hi : SI n (x :: q) D) (h : DJ n rs zs s (x :: q) D) : DJ n rs zs s (puK zs rs x (D ++ [x]) q rs.length) (D ++ [x]) := by
  obtain ⟨i1, i2, i3, i4, i5⟩ := DJ.arcsK hz hs hi h rs.length (Nat.le_refl _)
  obtain ⟨t1, t2⟩ := h.take (h.first hz hs hi)
  refine ⟨t1, i1, fun p hp a ha e => ?_, i4, t2, fun p hp y hy => ?_⟩
  · rcases List.mem_append.1 hp with g | g
    · exact i2 p g a ha e
    · obtain rfl := List.mem_singleton.1 g
      obtain ⟨i, hi', rfl⟩ := mem_arg ha
      exact i3 i hi' e
  · rcases List.mem_append.1 hp with g | g
    · exact Int.le_trans (h.low p g x (by simp)) (i5 y hy)
    · obtain rfl := List.mem_singleton.1 g; exact i5 y hy

/-- What a search gives. -/
structure Found (n : Nat) (rs : List A3) (zs : List Int) (s t : Nat) (R : List (Int × Int)) : Prop where
  rin : ∀ p ∈ R, 0 ≤ p.2 ∧ p.2 < (n : Int)
  nod : (R.map Prod.snd).Nodup
  dist : ∀ p ∈ R, zg (dst n rs s) p.2.toNat ≠ -1 ∧ p.1 - zg zs p.2.toNat = zg (dst n rs s) p.2.toNat
  asc : R.Pairwise (fun a b => a.1 ≤ b.1)
  last : (zg (dst n rs s) t = -1 ∧ (∀ p ∈ R, p.2 ≠ (t : Int)) ∧ ∀ v L, Walk rs s v L → idsIn R v = true) ∨
    ∃ R0 x, R = R0 ++ [x] ∧ x.2 = (t : Int) ∧ (∀ p ∈ R0, p.2 ≠ (t : Int)) ∧ ∀ v L, Walk rs s v L → L + zg zs v.toNat < x.1 → idsIn R v = true
theorem found_from {n : Nat} {rs : List A3} {zs : List Int} {s t : Nat} (hz : NetZ n rs zs) (hs : s < n) (ht : t < n) : ∀ (f : Nat) (q D : List (Int × Int)), f + D.length = n + 1 → SI n q D → DJ n rs zs s q D → (∀ p ∈ D, p.2 ≠ (t : Int)) → Found n rs zs s t (srch zs rs t f q D)
  | 0, q, D, hf, hi, _, _ => by have := hi.dlen; omega
  | f + 1, [], D, hf, hi, h, hD => by
    refine ⟨hi.din, hi.nod, h.dist, h.asc, .inl ⟨?_, hD, fun v L w => ?_⟩⟩
    · refine Classical.byContradiction fun hne => ?_
      rcases h.reach hz hs (dst_walk hz.n20 hs hz.arcs ht hne) with g | ⟨y, hy, -⟩
      · obtain ⟨p, hp, e⟩ := idsIn_iff.1 g
        exact hD p hp e
      · cases hy
    · rcases h.reach hz hs w with g | ⟨y, hy, -⟩
      · exact g
      · cases hy
  | f + 1, x :: q, D, hf, hi, h, hD => by
    by_cases e : x.2 = (t : Int)
    · rw [srch_goal e]
      obtain ⟨t1, t2⟩ := h.take (h.first hz hs hi)
      have ti := hi.take
      refine ⟨ti.din, ti.nod, t1, t2, .inr ⟨D, x, rfl, e, hD, fun v L w hlt => ?_⟩⟩
      rcases h.reach hz hs w with g | ⟨y, hy, g⟩
      · rw [idsIn_snoc, g]; rfl
      · obtain ⟨-, k2, -⟩ := qOk_tail hi.ok
        rcases List.mem_cons.1 hy with rfl | hy
        · omega
        · have := k2 y hy
          unfold ltI at this; omega
    · rw [srch_on e]
      refine found_from hz hs ht f _ _ (by rw [List.length_append]; simp; omega) (hi.next hz _ (Nat.le_refl _)) (h.next hz hs hi) (fun p hp => ?_)
      rcases List.mem_append.1 hp with g | g
      · exact hD p g
      · obtain rfl := List.mem_singleton.1 g; exact e

/-- The items that a search from s takes. -/
def took (n : Nat) (rs : List A3) (zs : List Int) (s t : Nat) : List (Int × Int) := srch zs rs t (n + 1) [(zg zs s, (s : Int))] []
theorem took_found {n : Nat} {rs : List A3} {zs : List Int} {s t : Nat} (hz : NetZ n rs zs) (hs : s < n) (ht : t < n) : Found n rs zs s t (took n rs zs s t) :=
  found_from hz hs ht _ _ _ (by simp) (SI.start hs hz.len hz.pin) (DJ.start n rs zs s) (fun p hp => by cases hp)

end Go.Proofs.Ytcaamhoakhgnhaa
