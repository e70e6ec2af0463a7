/-
  Distances by rounds of shortening: one step along an arc, a pass over all arcs, passes till nothing changes; what the numbers then are: the lengths of shortest walks.
-/
import Derived.Test.YtagaildnfbegkabTurnLaw
namespace Go.Proofs.Ytagaildnfbegkab
open Go.RowKit Go.Deep

/-- Whether an arc shortens; the list behind it; behind the first k arcs; whether one of them did. -/
def rlx (d : List Int) (a : A3) : Bool := decide (zg d a.1.toNat ≠ -1 ∧ (zg d a.2.1.toNat = -1 ∨ zg d a.1.toNat + a.2.2 < zg d a.2.1.toNat))
def rlx1 (d : List Int) (a : A3) : List Int := if rlx d a = true then d.set a.2.1.toNat (zg d a.1.toNat + a.2.2) else d
def rlxK (rs : List A3) (d : List Int) : Nat → List Int
  | 0 => d
  | k + 1 => rlx1 (rlxK rs d k) (arg rs k)
def rlxC (rs : List A3) (d : List Int) : Nat → Bool
  | 0 => false
  | k + 1 => rlxC rs d k || rlx (rlxK rs d k) (arg rs k)
/-- The list behind k passes. -/
def pw (rs : List A3) (d : List Int) : Nat → List Int
  | 0 => d
  | k + 1 => rlxK rs (pw rs d k) rs.length
def dst0 (n s : Nat) : List Int := (List.replicate n (-1)).set s 0

theorem rlx1_len (d : List Int) (a : A3) : (rlx1 d a).length = d.length := by unfold rlx1; split <;> simp
theorem rlxK_len (rs : List A3) (d : List Int) : ∀ k, (rlxK rs d k).length = d.length
  | 0 => rfl
  | k + 1 => by rw [rlxK, rlx1_len, rlxK_len rs d k]
theorem pw_len (rs : List A3) (d : List Int) : ∀ k, (pw rs d k).length = d.length
  | 0 => rfl
  | k + 1 => by rw [pw, rlxK_len, pw_len rs d k]
theorem dst0_len (n s : Nat) : (dst0 n s).length = n := by unfold dst0; simp
theorem zg_set (d : List Int) (i j : Nat) (x : Int) (hi : i < d.length) : zg (d.set i x) j = if i = j then x else zg d j := by
  unfold zg
  rw [List.getD_eq_getElem?_getD, List.getD_eq_getElem?_getD, List.getElem?_set]
  by_cases h : i = j
  · subst h; simp [hi]
  · simp [h]
theorem zg_dst0 (n s i : Nat) (hs : s < n) (hi : i < n) : zg (dst0 n s) i = if s = i then 0 else -1 := by
  unfold dst0
  rw [zg_set _ _ _ _ (by simpa using hs)]
  unfold zg
  rw [List.getD_eq_getElem?_getD, List.getElem?_replicate, if_pos hi]; rfl
theorem rlx1_no {d : List Int} {a : A3} (h : rlx d a = false) : rlx1 d a = d := by unfold rlx1; rw [h]; rfl
theorem rlx1_yes {d : List Int} {a : A3} (h : rlx d a = true) : rlx1 d a = d.set a.2.1.toNat (zg d a.1.toNat + a.2.2) := by unfold rlx1; rw [if_pos h]
theorem rlx_far {d : List Int} {a : A3} (h : zg d a.1.toNat = -1) : rlx d a = false := decide_eq_false fun k => k.1 h
theorem rlx_new {d : List Int} {a : A3} (h : zg d a.1.toNat ≠ -1) (h2 : zg d a.2.1.toNat = -1) : rlx d a = true := decide_eq_true ⟨h, .inl h2⟩
theorem rlx_less {d : List Int} {a : A3} (h : zg d a.1.toNat ≠ -1) (h2 : zg d a.1.toNat + a.2.2 < zg d a.2.1.toNat) : rlx d a = true := decide_eq_true ⟨h, .inr h2⟩
theorem rlx_not {d : List Int} {a : A3} (h2 : zg d a.2.1.toNat ≠ -1) (h3 : ¬ zg d a.1.toNat + a.2.2 < zg d a.2.1.toNat) : rlx d a = false := decide_eq_false fun k => k.2.elim h2 h3
theorem rlx_iff {d : List Int} {a : A3} : rlx d a = true ↔ zg d a.1.toNat ≠ -1 ∧ (zg d a.2.1.toNat = -1 ∨ zg d a.1.toNat + a.2.2 < zg d a.2.1.toNat) := by unfold rlx; rw [decide_eq_true_eq]

/-- A pass in which no arc shortens leaves the list, and no arc shortens it. -/
theorem still {rs : List A3} {d : List Int} : ∀ {k : Nat}, rlxC rs d k = false → rlxK rs d k = d ∧ ∀ j, j < k → rlx d (arg rs j) = false
  | 0, _ => ⟨rfl, fun j hj => by omega⟩
  | k + 1, h => by
    unfold rlxC at h
    rw [Bool.or_eq_false_iff] at h
    obtain ⟨e, hall⟩ := still h.1
    rw [e] at h
    refine ⟨by rw [rlxK, e, rlx1_no h.2], fun j hj => ?_⟩
    rcases Nat.lt_or_ge j k with h' | h'
    · exact hall j h'
    · obtain rfl : j = k := by omega
      exact h.2
theorem still_of {rs : List A3} {d : List Int} (hall : ∀ j, j < rs.length → rlx d (arg rs j) = false) : ∀ k, k ≤ rs.length → rlxC rs d k = false ∧ rlxK rs d k = d
  | 0, _ => ⟨rfl, rfl⟩
  | k + 1, h => by
    obtain ⟨h1, h2⟩ := still_of hall k (by omega)
    show (rlxC rs d k || rlx (rlxK rs d k) (arg rs k)) = false ∧ rlx1 (rlxK rs d k) (arg rs k) = d
    rw [h1, h2, hall k (by omega)]
    exact ⟨rfl, rlx1_no (hall k (by omega))⟩
theorem pw_still {rs : List A3} {d : List Int} {k : Nat} (h : rlxC rs (pw rs d k) rs.length = false) : ∀ m, k ≤ m → pw rs d m = pw rs d k
  | 0, hm => by obtain rfl : k = 0 := by omega
                rfl
  | m + 1, hm => by
    rcases Nat.lt_or_ge m k with h' | h'
    · obtain rfl : k = m + 1 := by omega
      rfl
    · rw [pw, pw_still h m h', (still h).1]

/-- What is left to be shortened. -/
def mv (x : Int) : Nat := if x = -1 then 1000000 else x.toNat
def mes (d : List Int) : Nat := (d.map mv).sum
theorem sum_set_lt : ∀ (d : List Int) (i : Nat) (x : Int), i < d.length → mv x < mv (zg d i) → mes (d.set i x) < mes d
  | [], i, _, h, _ => by simp at h
  | y :: r, 0, x, _, h => by
    have h' : mv x < mv y := h
    show (mv x + (r.map mv).sum) < (mv y + (r.map mv).sum)
    omega
  | y :: r, i + 1, x, hi, h => by
    have := sum_set_lt r i x (by simpa using hi) (by simpa [zg] using h)
    unfold mes at this
    show mv y + ((r.set i x).map mv).sum < mv y + (r.map mv).sum
    omega
/-- How many nodes are reached. -/
def cnt (d : List Int) : Nat := d.countP (fun x => decide (x ≠ -1))
theorem cnt_le (d : List Int) : cnt d ≤ d.length := List.countP_le_length
theorem cnt_set : ∀ (d : List Int) (i : Nat) (x : Int), i < d.length → x ≠ -1 → cnt (d.set i x) = if zg d i = -1 then cnt d + 1 else cnt d
  | [], _, _, h, _ => by simp at h
  | y :: r, 0, x, _, hx => by
    show (x :: r).countP _ = if y = -1 then _ else _
    unfold cnt
    by_cases hy : y = -1
    · subst hy; rw [if_pos rfl, List.countP_cons_of_pos (by simpa using hx), List.countP_cons_of_neg (by simp)]
    · rw [if_neg hy, List.countP_cons_of_pos (by simpa using hx), List.countP_cons_of_pos (by simpa using hy)]
  | y :: r, i + 1, x, hi, hx => by
    have h := cnt_set r i x (by simpa using hi) hx
    have e : zg (y :: r) (i + 1) = zg r i := by simp [zg]
    rw [e]
    unfold cnt at h ⊢
    rw [List.set_cons_succ, List.countP_cons, List.countP_cons, h]
    split <;> omega

/-- A walk from u to v of length L. -/
inductive Walk (rs : List A3) (u : Int) : Int → Int → Prop
  | here : Walk rs u u 0
  | on {a : A3} {L : Int} : Walk rs u a.1 L → a ∈ rs → Walk rs u a.2.1 (L + a.2.2)

/-- What holds of the list at every step. -/
structure DI (n : Nat) (rs : List A3) (s : Nat) (d : List Int) : Prop where
  len : d.length = n
  src : zg d s = 0
  val : ∀ i, i < n → zg d i = -1 ∨ 0 ≤ zg d i ∧ zg d i ≤ 10000 * (cnt d : Int)
  pre : ∀ v : Nat, v < n → v ≠ s → zg d v ≠ -1 → ∃ a ∈ rs, a.2.1 = v ∧ zg d a.1.toNat ≠ -1 ∧ zg d a.1.toNat + a.2.2 ≤ zg d v
  wlk : ∀ v : Nat, v < n → zg d v ≠ -1 → Walk rs s v (zg d v)

/-- Arcs that are in order among n nodes. -/
def ArcsIn (n : Nat) (rs : List A3) : Prop := ∀ a ∈ rs, (0 ≤ a.1 ∧ a.1 < n) ∧ (0 ≤ a.2.1 ∧ a.2.1 < n) ∧ a.1 ≠ a.2.1 ∧ 1 ≤ a.2.2 ∧ a.2.2 ≤ 10000
theorem arcsIn_net {ps : List (Int × Int)} {rs : List A3} (h : netB ps rs = true) : ArcsIn ps.length rs := fun a ha => by
  obtain ⟨i, hi, rfl⟩ := mem_arg ha
  exact netB_arc h hi

theorem DI.start {n : Nat} (rs : List A3) {s : Nat} (hs : s < n) : DI n rs s (dst0 n s) where
  len := dst0_len n s
  src := by rw [zg_dst0 n s s hs hs, if_pos rfl]
  val := fun i hi => by
    rw [zg_dst0 n s i hs hi]
    split
    · right; omega
    · left; rfl
  pre := fun v hv hne h => by rw [zg_dst0 n s v hs hv, if_neg (by omega)] at h; exact absurd rfl h
  wlk := fun v hv h => by
    rw [zg_dst0 n s v hs hv] at h ⊢
    split at h
    · rename_i e; subst e; rw [if_pos rfl]; exact .here
    · exact absurd rfl h

theorem DI.bound {n : Nat} {rs : List A3} {s : Nat} {d : List Int} (h : DI n rs s d) (hn : n ≤ 20) (i : Nat) (hi : i < n) : zg d i = -1 ∨ 0 ≤ zg d i ∧ zg d i ≤ 200000 := by
  have hc := cnt_le d
  rw [h.len] at hc
  rcases h.val i hi with h' | h'
  · exact .inl h'
  · right; omega

theorem DI.step {n : Nat} {rs : List A3} {s : Nat} {d : List Int} (h : DI n rs s d) (hn : n ≤ 20) (hs : s < n) (hr : ArcsIn n rs) {a : A3} (ha : a ∈ rs) (hx : rlx d a = true) :
    DI n rs s (d.set a.2.1.toNat (zg d a.1.toNat + a.2.2)) ∧ mes (d.set a.2.1.toNat (zg d a.1.toNat + a.2.2)) < mes d := by
  obtain ⟨hx1, hx2⟩ := rlx_iff.1 hx
  obtain ⟨⟨f0, f1⟩, ⟨t0, t1⟩, hft, l0, l1⟩ := hr a ha
  have hF : a.1.toNat < n := by omega
  have hT : a.2.1.toNat < n := by omega
  have hTl : a.2.1.toNat < d.length := by rw [h.len]; exact hT
  have hval := (h.val _ hF).resolve_left hx1
  have hb := (h.bound hn _ hF).resolve_left hx1
  have hbT := h.bound hn _ hT
  obtain ⟨F, hFe⟩ : ∃ F : Nat, F = a.1.toNat := ⟨_, rfl⟩
  obtain ⟨T, hTe⟩ : ∃ T : Nat, T = a.2.1.toNat := ⟨_, rfl⟩
  rw [← hFe] at hx1 hx2 hval hb hF ⊢
  rw [← hTe] at hx2 hT hTl hbT ⊢
  have hFT : F ≠ T := by omega
  have hne : zg d F + a.2.2 ≠ -1 := by omega
  have hcs := cnt_set d T (zg d F + a.2.2) hTl hne
  have hTs : T ≠ s := by
    rintro rfl
    have := h.src
    rcases hx2 with h' | h' <;> omega
  have g : ∀ j, zg (d.set T (zg d F + a.2.2)) j = if T = j then zg d F + a.2.2 else zg d j := fun j => zg_set d T j _ hTl
  -- no number grows where one stood
  have mono : ∀ j, zg d j ≠ -1 → zg (d.set T (zg d F + a.2.2)) j ≠ -1 ∧ zg (d.set T (zg d F + a.2.2)) j ≤ zg d j := fun j hj => by
    rw [g j]
    split
    · rename_i e; subst e
      rcases hx2 with h' | h'
      · exact absurd h' hj
      · omega
    · exact ⟨hj, Int.le_refl _⟩
  refine ⟨⟨by simp [h.len], ?_, ?_, ?_, ?_⟩, ?_⟩
  · rw [g s, if_neg hTs]; exact h.src
  · intro i hi
    rw [g i]
    have hvi := h.val i hi
    split
    · right
      by_cases e : zg d T = -1
      · rw [hcs, if_pos e]; omega
      · rw [hcs, if_neg e]
        have := (h.val T hT).resolve_left e
        rcases hx2 with h' | h' <;> omega
    · rcases hvi with h' | h'
      · exact .inl h'
      · right
        rw [hcs]
        split <;> omega
  · intro v hv hvs hvv
    by_cases e : T = v
    · subst e
      refine ⟨a, ha, by omega, ?_, ?_⟩
      · rw [← hFe, g F, if_neg (by omega)]; exact hx1
      · rw [← hFe, g F, if_neg (by omega), g T, if_pos rfl]; exact Int.le_refl _
    · rw [g v, if_neg e] at hvv ⊢
      obtain ⟨b, hb1, hb2, hb3, hb4⟩ := h.pre v hv hvs hvv
      have := mono _ hb3
      exact ⟨b, hb1, hb2, this.1, by omega⟩
  · intro v hv hvv
    by_cases e : T = v
    · subst e
      rw [g T, if_pos rfl]
      have hw := h.wlk F hF hx1
      have e1 : ((F : Nat) : Int) = a.1 := by omega
      have e2 : ((T : Nat) : Int) = a.2.1 := by omega
      rw [e1] at hw
      rw [e2]
      exact .on hw ha
    · rw [g v, if_neg e] at hvv ⊢
      exact h.wlk v hv hvv
  · refine sum_set_lt d T _ hTl ?_
    unfold mv
    rw [if_neg hne]
    rcases hbT with h' | h'
    · rw [if_pos h']; omega
    · rw [if_neg (by omega)]
      rcases hx2 with h'' | h'' <;> omega

theorem DI.next {n : Nat} {rs : List A3} {s : Nat} {d : List Int} (h : DI n rs s d) (hn : n ≤ 20) (hs : s < n) (hr : ArcsIn n rs) : ∀ k, k ≤ rs.length → DI n rs s (rlxK rs d k) ∧ mes (rlxK rs d k) ≤ mes d ∧ (rlxC rs d k = true → mes (rlxK rs d k) < mes d)
  | 0, _ => ⟨h, Nat.le_refl _, fun h => by cases h⟩
  | k + 1, hk => by
    obtain ⟨h1, h2, h3⟩ := DI.next h hn hs hr k (by omega)
    unfold rlxK rlxC
    cases hx : rlx (rlxK rs d k) (arg rs k) with
    | false => rw [rlx1_no hx, Bool.or_false]; exact ⟨h1, h2, h3⟩
    | true =>
      rw [rlx1_yes hx]
      obtain ⟨g1, g2⟩ := h1.step hn hs hr (arg_mem (by omega)) hx
      exact ⟨g1, by omega, fun _ => by omega⟩

theorem DI.pw {n : Nat} {rs : List A3} {s : Nat} (hn : n ≤ 20) (hs : s < n) (hr : ArcsIn n rs) : ∀ k, DI n rs s (pw rs (dst0 n s) k)
  | 0 => DI.start rs hs
  | k + 1 => ((DI.pw hn hs hr k).next hn hs hr rs.length (Nat.le_refl _)).1

theorem pw_mes {n : Nat} {rs : List A3} {s : Nat} (hn : n ≤ 20) (hs : s < n) (hr : ArcsIn n rs) : ∀ k, rlxC rs (pw rs (dst0 n s) k) rs.length = true → mes (pw rs (dst0 n s) k) + k ≤ mes (dst0 n s)
  | 0, _ => by simp [pw]
  | k + 1, h => by
    cases hc : rlxC rs (pw rs (dst0 n s) k) rs.length with
    | false =>
      have e := pw_still hc (k + 1) (by omega)
      rw [e, hc] at h; cases h
    | true =>
      have h1 := pw_mes hn hs hr k hc
      have h2 := ((DI.pw hn hs hr k).next hn hs hr rs.length (Nat.le_refl _)).2.2 hc
      rw [pw]; omega

/-- The distances from s in a network of n nodes. -/
def dst (n : Nat) (rs : List A3) (s : Nat) : List Int := pw rs (dst0 n s) (mes (dst0 n s) + 1)
theorem dst_fix {n : Nat} {rs : List A3} {s : Nat} (hn : n ≤ 20) (hs : s < n) (hr : ArcsIn n rs) : rlxC rs (dst n rs s) rs.length = false := by
  cases h : rlxC rs (dst n rs s) rs.length with
  | false => rfl
  | true => have := pw_mes hn hs hr _ h; omega
theorem dst_of {n : Nat} {rs : List A3} {s : Nat} (hn : n ≤ 20) (hs : s < n) (hr : ArcsIn n rs) {k : Nat} (h : rlxC rs (pw rs (dst0 n s) k) rs.length = false) : pw rs (dst0 n s) k = dst n rs s := by
  rcases Nat.le_total k (mes (dst0 n s) + 1) with h' | h'
  · exact (pw_still h _ h').symm
  · exact pw_still (dst_fix hn hs hr) _ h'
theorem dst_len (n : Nat) (rs : List A3) (s : Nat) : (dst n rs s).length = n := by unfold dst; rw [pw_len, dst0_len]
theorem dst_di {n : Nat} {rs : List A3} {s : Nat} (hn : n ≤ 20) (hs : s < n) (hr : ArcsIn n rs) : DI n rs s (dst n rs s) := DI.pw hn hs hr _
theorem dst_arc {n : Nat} {rs : List A3} {s : Nat} (hn : n ≤ 20) (hs : s < n) (hr : ArcsIn n rs) {a : A3} (ha : a ∈ rs) : rlx (dst n rs s) a = false := by
  obtain ⟨i, hi, rfl⟩ := mem_arg ha
  exact (still (dst_fix hn hs hr)).2 i hi
/-- No walk is shorter. -/
theorem walk_le {n : Nat} {rs : List A3} {s : Nat} (hn : n ≤ 20) (hs : s < n) (hr : ArcsIn n rs) {v L : Int} (h : Walk rs s v L) : 0 ≤ v ∧ v < n ∧ zg (dst n rs s) v.toNat ≠ -1 ∧ zg (dst n rs s) v.toNat ≤ L := by
  induction h with
  | here => rw [Int.toNat_natCast, (dst_di hn hs hr).src]; omega
  | @on a L _ ha ih =>
    obtain ⟨-, -, h3, h4⟩ := ih
    have hx := dst_arc hn hs hr ha
    obtain ⟨⟨f0, f1⟩, ⟨t0, t1⟩, -⟩ := hr a ha
    have : ¬ (zg (dst n rs s) a.1.toNat ≠ -1 ∧ (zg (dst n rs s) a.2.1.toNat = -1 ∨ zg (dst n rs s) a.1.toNat + a.2.2 < zg (dst n rs s) a.2.1.toNat)) := fun h => by rw [rlx_iff.2 h] at hx; cases hx
    refine ⟨t0, t1, fun e => this ⟨h3, .inl e⟩, ?_⟩
    have : ¬ zg (dst n rs s) a.1.toNat + a.2.2 < zg (dst n rs s) a.2.1.toNat := fun e => this ⟨h3, .inr e⟩
    omega
theorem dst_walk {n : Nat} {rs : List A3} {s : Nat} (hn : n ≤ 20) (hs : s < n) (hr : ArcsIn n rs) {v : Nat} (hv : v < n) (h : zg (dst n rs s) v ≠ -1) : Walk rs s v (zg (dst n rs s) v) := (dst_di hn hs hr).wlk v hv h
theorem dst_val {n : Nat} {rs : List A3} {s : Nat} (hn : n ≤ 20) (hs : s < n) (hr : ArcsIn n rs) {v : Nat} (hv : v < n) : zg (dst n rs s) v = -1 ∨ 0 ≤ zg (dst n rs s) v ∧ zg (dst n rs s) v ≤ 200000 := (dst_di hn hs hr).bound hn v hv

theorem Walk.cons {rs : List A3} {a : A3} (ha : a ∈ rs) {v L : Int} (h : Walk rs a.2.1 v L) : Walk rs a.1 v (a.2.2 + L) := by
  induction h with
  | here => have := Walk.on (.here (rs := rs) (u := a.1)) ha; rwa [Int.zero_add, ← Int.add_zero a.2.2] at this
  | @on b L _ hb ih => have := Walk.on ih hb; rwa [Int.add_assoc] at this
theorem Walk.trans {rs : List A3} {u v x L M : Int} (h : Walk rs u v L) (k : Walk rs v x M) : Walk rs u x (L + M) := by
  induction k with
  | here => rwa [Int.add_zero]
  | @on b L _ hb ih => have := Walk.on ih hb; rwa [Int.add_assoc] at this
/-- A walk backwards. -/
theorem Walk.back {rs ts : List A3} (h : ∀ a ∈ rs, revA a ∈ ts) {u v L : Int} (k : Walk rs u v L) : Walk ts v u L := by
  induction k with
  | here => exact .here
  | @on b L _ hb ih =>
    have := Walk.cons (h b hb) (v := u) (L := L) ih
    rw [Int.add_comm] at this
    exact this
/-- The distances of the reversed network are those in the other direction. -/
theorem dst_back {n : Nat} {rs ts : List A3} (hn : n ≤ 20) (hr : ArcsIn n rs) (ht : ArcsIn n ts) (h1 : ∀ a ∈ rs, revA a ∈ ts) (h2 : ∀ a ∈ ts, revA a ∈ rs) {s v : Nat} (hs : s < n) (hv : v < n) :
    zg (dst n ts v) s = zg (dst n rs s) v := by
  have key : ∀ {xs ys : List A3} {a b : Nat}, ArcsIn n xs → ArcsIn n ys → (∀ c ∈ xs, revA c ∈ ys) → a < n → b < n → zg (dst n xs a) b ≠ -1 → zg (dst n ys b) a ≠ -1 ∧ zg (dst n ys b) a ≤ zg (dst n xs a) b := fun hx hy hxy ha hb hne => by
    have w := (dst_walk hn ha hx hb hne).back hxy
    have := walk_le hn hb hy w
    rw [Int.toNat_natCast] at this
    exact this.2.2
  by_cases e : zg (dst n rs s) v = -1
  · by_cases e' : zg (dst n ts v) s = -1
    · rw [e, e']
    · exact absurd e (key ht hr h2 hv hs e').1
  · obtain ⟨g1, g2⟩ := key hr ht h1 hs hv e
    obtain ⟨-, g4⟩ := key ht hr h2 hv hs g1
    omega
/-- Each distance but 0 is attained along an arc. -/
theorem dst_along {n : Nat} {rs : List A3} {s : Nat} (hn : n ≤ 20) (hs : s < n) (hr : ArcsIn n rs) {v : Nat} (hv : v < n) (hvs : v ≠ s) (h : zg (dst n rs s) v ≠ -1) : ∃ a ∈ rs, a.2.1 = v ∧ zg (dst n rs s) a.1.toNat ≠ -1 ∧ zg (dst n rs s) a.1.toNat + a.2.2 = zg (dst n rs s) v := by
  obtain ⟨a, ha, h1, h2, h3⟩ := (dst_di hn hs hr).pre v hv hvs h
  have hx := dst_arc hn hs hr ha
  refine ⟨a, ha, h1, h2, Int.le_antisymm h3 ?_⟩
  have e : a.2.1.toNat = v := by omega
  refine Int.not_lt.1 fun hlt => ?_
  have : rlx (dst n rs s) a = true := rlx_iff.2 ⟨h2, .inr (by rw [e]; exact hlt)⟩
  rw [hx] at this; cases this

theorem turn_arcs {ps : List (Int × Int)} {rs : List A3} (h : netB ps rs = true) : ArcsIn ps.length (turnL rs) ∧ (∀ a ∈ rs, revA a ∈ turnL rs) ∧ ∀ a ∈ turnL rs, revA a ∈ rs :=
  ⟨arcsIn_net (turn_valid h), fun a ha => ((turnL_spec (netB_rise h)).2 _).2 (by rw [revA_rev]; exact ha), fun a ha => ((turnL_spec (netB_rise h)).2 _).1 ha⟩

/-- What DistFrom, DistTo and Between answer. -/
def dF (ps : List (Int × Int)) (rs : List A3) (s : Int) : List Int := if netB ps rs = true ∧ btB s 0 ((ps.length : Int) - 1) = true then dst ps.length rs s.toNat else []
def dT (ps : List (Int × Int)) (rs : List A3) (t : Int) : List Int := if netB ps rs = true ∧ btB t 0 ((ps.length : Int) - 1) = true then dst ps.length (turnL rs) t.toNat else []
def dB (ps : List (Int × Int)) (rs : List A3) (s t : Int) : Int := if netB ps rs = true ∧ btB s 0 ((ps.length : Int) - 1) = true ∧ btB t 0 ((ps.length : Int) - 1) = true then zg (dst ps.length rs s.toNat) t.toNat else -1

/-- The first node of n that is reached from u and reaches it. -/
def both (n : Nat) (rs : List A3) (u v : Nat) : Bool := decide (zg (dst n rs u) v ≠ -1 ∧ zg (dst n rs v) u ≠ -1)
def prt (n : Nat) (rs : List A3) (u : Nat) : Nat := ((List.range n).find? (both n rs u)).getD 0
def prts (ps : List (Int × Int)) (rs : List A3) : List Int := if netB ps rs = true then (List.range ps.length).map (fun u => (prt ps.length rs u : Int)) else []
theorem both_self {n : Nat} {rs : List A3} (hn : n ≤ 20) (hr : ArcsIn n rs) {u : Nat} (hu : u < n) : both n rs u u = true := decide_eq_true (by have := (dst_di hn hu hr).src; omega)
theorem both_symm (n : Nat) (rs : List A3) (u v : Nat) : both n rs u v = both n rs v u := by
  unfold both; rw [Bool.eq_iff_iff, decide_eq_true_eq, decide_eq_true_eq]; exact ⟨fun h => ⟨h.2, h.1⟩, fun h => ⟨h.2, h.1⟩⟩
theorem both_trans {n : Nat} {rs : List A3} (hn : n ≤ 20) (hr : ArcsIn n rs) {u v x : Nat} (hu : u < n) (hv : v < n) (hx : x < n) (h1 : both n rs u v = true) (h2 : both n rs v x = true) : both n rs u x = true := by
  have g1 : zg (dst n rs u) v ≠ -1 ∧ zg (dst n rs v) u ≠ -1 := of_decide_eq_true h1
  have g2 : zg (dst n rs v) x ≠ -1 ∧ zg (dst n rs x) v ≠ -1 := of_decide_eq_true h2
  refine decide_eq_true ⟨?_, ?_⟩
  · have := walk_le hn hu hr ((dst_walk hn hu hr hv g1.1).trans (dst_walk hn hv hr hx g2.1))
    rw [Int.toNat_natCast] at this; exact this.2.2.1
  · have := walk_le hn hx hr ((dst_walk hn hx hr hv g2.2).trans (dst_walk hn hv hr hu g1.2))
    rw [Int.toNat_natCast] at this; exact this.2.2.1
theorem prt_is {n : Nat} {rs : List A3} {u v : Nat} (hv : v < n) (h : both n rs u v = true) (hno : ∀ i, i < v → both n rs u i = false) : prt n rs u = v := by
  have e : (List.range n).find? (both n rs u) = some v := by
    rw [List.find?_range_eq_some]
    exact ⟨h, List.mem_range.2 hv, fun i hi => by rw [hno i hi]; rfl⟩
  unfold prt; rw [e]; rfl
theorem prt_spec {n : Nat} {rs : List A3} (hn : n ≤ 20) (hr : ArcsIn n rs) {u : Nat} (hu : u < n) : prt n rs u ≤ u ∧ both n rs u (prt n rs u) = true ∧ ∀ i, i < prt n rs u → both n rs u i = false := by
  cases e : (List.range n).find? (both n rs u) with
  | none =>
    rw [List.find?_range_eq_none] at e
    have := e u hu
    rw [both_self hn hr hu] at this; cases this
  | some v =>
    rw [List.find?_range_eq_some] at e
    obtain ⟨h1, h2, h3⟩ := e
    have e2 : prt n rs u = v := prt_is (List.mem_range.1 h2) h1 (fun i hi => by have := h3 i hi; simpa using this)
    rw [e2]
    refine ⟨?_, h1, fun i hi => by have := h3 i hi; simpa using this⟩
    refine Nat.not_lt.1 fun hlt => ?_
    have := h3 u hlt
    rw [both_self hn hr hu] at this; cases this
theorem prt_same {n : Nat} {rs : List A3} (hn : n ≤ 20) (hr : ArcsIn n rs) {u v : Nat} (hu : u < n) (hv : v < n) : prt n rs u = prt n rs v ↔ both n rs u v = true := by
  obtain ⟨u1, u2, u3⟩ := prt_spec hn hr hu
  obtain ⟨v1, v2, v3⟩ := prt_spec hn hr hv
  constructor
  · intro e
    rw [e] at u2
    rw [both_symm] at v2
    exact both_trans hn hr hu (by omega) hv u2 v2
  · intro h
    rcases Nat.lt_trichotomy (prt n rs u) (prt n rs v) with hlt | heq | hlt
    · have := both_trans hn hr hv hu (by omega) (by rw [both_symm]; exact h) u2
      rw [v3 _ hlt] at this; cases this
    · exact heq
    · have := both_trans hn hr hu hv (by omega) h v2
      rw [u3 _ hlt] at this; cases this
theorem prt_prt {n : Nat} {rs : List A3} (hn : n ≤ 20) (hr : ArcsIn n rs) {u : Nat} (hu : u < n) : prt n rs (prt n rs u) = prt n rs u := by
  obtain ⟨u1, u2, u3⟩ := prt_spec hn hr hu
  rw [both_symm] at u2
  exact (prt_same hn hr (by omega) hu).2 u2

end Go.Proofs.Ytagaildnfbegkab
