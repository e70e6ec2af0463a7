/-
  What spec.Turned and impl.Turned compute.
-/
import Derived.Test.YtcaamhoakhgnhaaPutArc
import Derived.Test.YtcaamhoakhgnhaaNetImpl
import Derived.StillTailTactics
import Derived.Deep.AppendLies
import Derived.Deep.RegionLaw
namespace Go.Proofs.Ytcaamhoakhgnhaa
open Go.RowKit Go.Deep

def cellsP (l : List (Int × Int)) : List Value := l.flatMap fun a => [.int .i64 a.1, .int .i64 a.2]
theorem cellsP_len (l : List (Int × Int)) : (cellsP l).length = l.length * 2 := by
  induction l with
  | nil => rfl
  | cons a r ih => unfold cellsP at *; simp only [List.flatMap_cons, List.length_append, List.length_cons, List.length_nil, ih]; omega
theorem ptg_succ (a : Int × Int) (r : List (Int × Int)) (i : Nat) : ptg (a :: r) (i + 1) = ptg r i := by simp [ptg]
theorem flatP_succ (a : Int × Int) (r : List (Int × Int)) (j : Nat) : flatP (a :: r) (j + 2) = flatP r j := by
  unfold flatP
  rw [show (j + 2) % 2 = j % 2 by omega, show (j + 2) / 2 = j / 2 + 1 by omega, ptg_succ]
theorem cellsP_get : ∀ (l : List (Int × Int)) (j : Nat), j < l.length * 2 → (cellsP l)[j]? = some (.int .i64 (flatP l j))
  | [], j, h => by simp at h
  | a :: r, 0, _ => by simp [cellsP, flatP, ptg]
  | a :: r, 1, _ => by simp [cellsP, flatP, ptg]
  | a :: r, j + 2, h => by
    rw [flatP_succ, ← cellsP_get r j (by simp at h; omega)]
    simp [cellsP]
theorem cellsP_one (l : List (Int × Int)) : ∀ u ∈ cellsP l, u.oneCell' = true := by
  intro u hu
  unfold cellsP at hu
  obtain ⟨a, -, h⟩ := List.mem_flatMap.1 hu
  rcases List.mem_cons.1 h with rfl | h
  · rfl
  · rcases List.mem_cons.1 h with rfl | h
    · rfl
    · cases h
theorem IsPts.news {w : World} {b off : Nat} {ps : List (Int × Int)} (h : IsPts w (some ⟨b, off, none⟩) ps) : ∀ j u, (cellsP ps)[j]? = some u → w.cell? ((⟨b, off, none⟩ : Addr).add j) = some u := by
  intro j u hj
  have hjn : j < ps.length * 2 := by have := (List.getElem?_eq_some_iff.1 hj).1; rwa [cellsP_len] at this
  rw [cellsP_get _ _ hjn] at hj
  obtain ⟨b', off', hA, -, hc⟩ := h (by omega)
  injection hA with hA
  injection hA with hA1 hA2
  subst hA1 hA2
  obtain ⟨c0, c1⟩ := hc (j / 2) (by omega)
  rw [← hj, Addr.add_lit]
  unfold flatP
  rcases (show j % 2 = 0 ∨ j % 2 = 1 by omega) with r | r
  · rw [if_pos r, ← c0, show off + j = off + j / 2 * 2 by omega]
  · rw [if_neg (by omega), ← c1, show off + j = off + j / 2 * 2 + 1 by omega]
theorem IsPts.news' {w : World} {ad : Addr} {ps : List (Int × Int)} (h : IsPts w (some ad) ps) : ∀ j u, (cellsP ps)[j]? = some u → w.cell? (ad.add j) = some u := by
  intro j u hj
  have hjn : j < ps.length * 2 := by have := (List.getElem?_eq_some_iff.1 hj).1; rwa [cellsP_len] at this
  obtain ⟨b, off, hA, -, -⟩ := h (by omega)
  injection hA with hA
  subst hA
  exact h.news j u hj
theorem ownsRow_far {w : World} {base : Nat} {e : TypeId} {size : Nat} {v : Value} {n : Nat} {xs : List Value} (h : w.ownsRow base e size v n xs) {c : Nat} (hc : c < base) (i : Nat) (x : Value) : (w.setCell ⟨c, i, none⟩ x).ownsRow base e size v n xs := ownsRow_only (c := c) h (grown_set (World.grownBy.refl w _) i x) hc
theorem ownsRow_len {w : World} {base : Nat} {e : TypeId} {size : Nat} {v : Value} {n n' : Nat} {xs : List Value} (h : w.ownsRow base e size v n xs) (he : n = n') : w.ownsRow base e size v n' xs := he ▸ h
theorem ownP_is {w : World} {base : Nat} {v : Value} {ps : List (Int × Int)} (h : w.ownsRow base 85 2 v ps.length (cellsP ps)) : ∃ A cap, v = .slice A ps.length cap ∧ ps.length ≤ cap ∧ (0 < ps.length → ∃ g, A = some ⟨g, 0, none⟩ ∧ base ≤ g ∧ OwnAt w g 85 0 (ps.length * 2) (flatP ps)) := by
  rcases h.2 with ⟨h1, h2⟩ | ⟨g, cap, cur, h1, h2, h3, h4, h5, h6, h7⟩
  · exact ⟨none, 0, by rw [h1, h2], by omega, fun hp => by omega⟩
  · refine ⟨_, cap, h1, h4, fun _ => ⟨g, rfl, h2, cur, h3, by omega, fun i hi => ?_⟩⟩
    have e : (cur.toList.take (ps.length * 2))[i]? = (cellsP ps)[i]? := by rw [h7]
    rw [List.getElem?_take, if_pos hi, Array.getElem?_toList, cellsP_get _ _ hi] at e
    rw [Nat.zero_add, e]

/-- An arc put into arcs of a call's own. -/
theorem l03Put_own {w : World} {base : Nat} {v : Value} {rs : List A3} (h : w.ownsRow base 75 3 v rs.length (cellsA rs)) (a : A3) (hm : rs.length ≤ 1000) (hs : ∀ x ∈ rs, Small x) (ha : Small a) :
    Calls Try.prog 60 #[v, .agg #[.int .i64 a.1, .int .i64 a.2.1, .int .i64 a.2.2]] w (ArcsMade w (putA rs a)) := by
  obtain ⟨A, cap, rfl, hc, -, ho⟩ := ownA_is h
  rcases h.2 with ⟨h1, h2⟩ | ⟨g, cap', cur, h1, -⟩
  · have : rs = [] := List.length_eq_zero_iff.1 h2
    subst this
    rw [h1]
    exact l03Put_nil a w
  · injection h1 with h1
    subst h1
    refine l03Put_some g 0 cap rs a w hm hc (fun hp => ?_) hs ha
    obtain ⟨g', e, -, hO⟩ := ho hp
    injection e with e
    injection e with e
    subst e
    exact OwnAt.arcs hO hp

/-- A network of the call's own. -/
def NetOwned (w : World) (ps : List (Int × Int)) (rs : List A3) (e : Ending) (w' : World) : Prop :=
  ∃ A B ca cb, e = .returned (.agg #[.slice A ps.length ca, .slice B rs.length cb]) ∧ OwnSl w' w.heap.size 85 A (ps.length * 2) (flatP ps) ∧ OwnSl w' w.heap.size 75 B (rs.length * 3) (flatA rs) ∧ Parted A B (ps.length * 2) (rs.length * 3) ∧ Below w.heap.size w w'
/-- What Turned answers: nothing where the network is not valid. -/
def turnP (ps : List (Int × Int)) (rs : List A3) : List (Int × Int) := if netB ps rs = true then ps else []
def turnR (ps : List (Int × Int)) (rs : List A3) : List A3 := if netB ps rs = true then turnL rs else []

theorem turn_len {rs : List A3} (h : rs.Pairwise Less) : (turnL rs).length = rs.length := by
  suffices ∀ n (rs : List A3), rs.length = n → rs.Pairwise Less → (turnL rs).length = n from this _ rs rfl h
  intro n
  induction n with
  | zero => intro rs hl _; have := List.length_eq_zero_iff.1 hl; subst this; rfl
  | succ n ih =>
    intro rs hl hp
    have hne : rs ≠ [] := by intro e; subst e; simp at hl
    have hs := List.dropLast_concat_getLast hne
    rw [← hs] at hp ⊢
    obtain ⟨h1, -, h3⟩ := List.pairwise_append.1 hp
    have hd := ih rs.dropLast (by simp [hl]) h1
    obtain ⟨-, g2⟩ := turnL_spec h1
    rw [turnL_snoc]
    have hput : ∀ (l : List A3) (a : A3), (∀ y ∈ l, cmpA y a ≠ 0) → (putA l a).length = l.length + 1 := by
      intro l a
      induction l with
      | nil => intro _; rfl
      | cons y r ih2 =>
        intro hno
        rw [putA]
        by_cases hc : cmpA y a < 0
        · rw [if_pos hc, List.length_cons, ih2 (fun z hz => hno z (List.mem_cons_of_mem _ hz))]; rfl
        · rw [if_neg hc, if_neg (hno y (by simp))]; rfl
    rw [hput _ _ (fun y hy e => by
      have := h3 _ ((g2 y).1 hy) (rs.getLast hne) (by simp)
      obtain ⟨e1, e2⟩ := cmpA_zero e
      unfold revA at *; unfold Less at this
      simp only at *; omega), hd]
/-- A part of the arcs of a valid network. -/
theorem rise_take {rs : List A3} (h : rs.Pairwise Less) (k : Nat) : (rs.take k).Pairwise Less := List.Pairwise.sublist (List.take_sublist k rs) h
theorem take_snoc3 {rs : List A3} {k : Nat} (h : k < rs.length) : rs.take (k + 1) = rs.take k ++ [arg rs k] := by
  rw [List.take_succ_eq_append_getElem h]; simp [arg, h]
theorem turn_small {rs : List A3} {n : Nat} (hn : n ≤ 1000) (h : rs.Pairwise Less) (hb : ∀ x ∈ rs, (0 ≤ x.1 ∧ x.1 < (n : Int)) ∧ (0 ≤ x.2.1 ∧ x.2.1 < (n : Int))) : ∀ x ∈ turnL rs, Small x := fun x hx => by
  have := hb _ (((turnL_spec h).2 x).1 hx)
  unfold revA at this
  unfold Small
  simp only at this
  omega
theorem netB_mem {ps : List (Int × Int)} {rs : List A3} (h : netB ps rs = true) : ∀ x ∈ rs, (0 ≤ x.1 ∧ x.1 < (ps.length : Int)) ∧ (0 ≤ x.2.1 ∧ x.2.1 < (ps.length : Int)) := fun x hx => by
  obtain ⟨i, hi, rfl⟩ := mem_arg hx
  have := netB_arc h hi
  exact ⟨this.1, this.2.1⟩

set_option maxHeartbeats 1000000 in
theorem specTurned_no (A B : Option Addr) (ca cb : Nat) (ps : List (Int × Int)) (rs : List A3) (w : World) (hn : ps.length ≤ 1048576) (hm : rs.length ≤ 1048576) (ha : IsPts w A ps) (hb : IsArcs w B rs) (hok : netB ps rs = false) :
    Calls Try.prog 33 #[.agg #[.slice A ps.length ca, .slice B rs.length cb]] w (NetOwned w [] []) := by
  have Y : Pair ((w.alloc (.cells #[.slice A ps.length ca, .slice B rs.length cb] 32)).alloc (.cells #[.slice none 0 0, .slice none 0 0] 32)) (w.heap.size + 1) 32 (.slice none 0 0) (.slice none 0 0) := by
    have := Pair.new (w.alloc (.cells #[.slice A ps.length ca, .slice B rs.length cb] 32)) 32 (.slice none 0 0) (.slice none 0 0); rwa [World.size_alloc] at this
  have K := below2 w (.cells #[.slice A ps.length ca, .slice B rs.length cb] 32) (.cells #[.slice none 0 0, .slice none 0 0] 32)
  go_enter Try.func33, Try.ntmps33
  go_wp2_with fail
  refine (specNetOk_any A B ca cb ps rs _ hn hm (ha.below K) (hb.below K)).mono ?_; rintro e w1 ⟨rfl, b1⟩
  replace Y := Y.below b1
  replace K := K.trans (b1.mono K.size)
  clear b1
  obtain ⟨y0, y1, y2, y3⟩ := Y.cells
  go_wp2
  exact bodyPost_ret (v := .agg #[.slice none 0 0, .slice none 0 0]) (by simp [results, Try.results33, go_sem, y0, y1]) rfl
    ⟨none, none, 0, 0, rfl, fun h => by simp at h, fun h => by simp at h, fun g e => by simp [blk] at e, (K.setCell (by simp) _).setCell (by simp) _⟩

set_option maxHeartbeats 1000000 in
theorem implTurned_no (A B : Option Addr) (ca cb : Nat) (ps : List (Int × Int)) (rs : List A3) (w : World) (hn : ps.length ≤ 1048576) (hm : rs.length ≤ 1048576) (ha : IsPts w A ps) (hb : IsArcs w B rs) (hok : netB ps rs = false) :
    Calls Try.prog 36 #[.agg #[.slice A ps.length ca, .slice B rs.length cb]] w (NetOwned w [] []) := by
  have Y : Pair ((w.alloc (.cells #[.slice A ps.length ca, .slice B rs.length cb] 32)).alloc (.cells #[.slice none 0 0, .slice none 0 0] 32)) (w.heap.size + 1) 32 (.slice none 0 0) (.slice none 0 0) := by
    have := Pair.new (w.alloc (.cells #[.slice A ps.length ca, .slice B rs.length cb] 32)) 32 (.slice none 0 0) (.slice none 0 0); rwa [World.size_alloc] at this
  have K := below2 w (.cells #[.slice A ps.length ca, .slice B rs.length cb] 32) (.cells #[.slice none 0 0, .slice none 0 0] 32)
  go_enter Try.func36, Try.ntmps36
  go_wp2_with fail
  refine (implNetOk_any A B ca cb ps rs _ hn hm (ha.below K) (hb.below K)).mono ?_; rintro e w1 ⟨rfl, b1⟩
  replace Y := Y.below b1
  replace K := K.trans (b1.mono K.size)
  clear b1
  obtain ⟨y0, y1, y2, y3⟩ := Y.cells
  go_wp2
  exact bodyPost_ret (v := .agg #[.slice none 0 0, .slice none 0 0]) (by simp [results, Try.results36, go_sem, y0, y1]) rfl
    ⟨none, none, 0, 0, rfl, fun h => by simp at h, fun h => by simp at h, fun g e => by simp [blk] at e, (K.setCell (by simp) _).setCell (by simp) _⟩

set_option maxRecDepth 100000 in
set_option maxHeartbeats 1000000 in
theorem specTurned_yes (ad : Addr) (B : Option Addr) (ca cb : Nat) (ps : List (Int × Int)) (rs : List A3) (w : World) (hn : ps.length ≤ 1048576) (hm : rs.length ≤ 1048576) (ha : IsPts w (some ad) ps) (hb : IsArcs w B rs) (hok : netB ps rs = true) :
    Calls Try.prog 33 #[.agg #[.slice (some ad) ps.length ca, .slice B rs.length cb]] w (NetOwned w ps (turnL rs)) := by
  obtain ⟨i0, hi, hz0, hz1, hz2⟩ := info_parts Try.infoPt
  have X := (Pair.new w 32 (.slice (some ad) ps.length ca) (.slice B rs.length cb)).alloc (.cells #[.slice none 0 0, .slice none 0 0] 32)
  have Y : Pair ((w.alloc (.cells #[.slice (some ad) ps.length ca, .slice B rs.length cb] 32)).alloc (.cells #[.slice none 0 0, .slice none 0 0] 32)) (w.heap.size + 1) 32 (.slice none 0 0) (.slice none 0 0) := by
    have := Pair.new (w.alloc (.cells #[.slice (some ad) ps.length ca, .slice B rs.length cb] 32)) 32 (.slice none 0 0) (.slice none 0 0); rwa [World.size_alloc] at this
  have K := below2 w (.cells #[.slice (some ad) ps.length ca, .slice B rs.length cb] 32) (.cells #[.slice none 0 0, .slice none 0 0] 32)
  obtain ⟨h20, h70, -, -⟩ := netB_iff.1 hok
  have HR := Lib.hid (netB_rise hok)
  have HM := Lib.hid (netB_mem hok)
  go_enter Try.func33, Try.ntmps33
  go_wp2_with fail
  refine (specNetOk_any (some ad) B ca cb ps rs _ hn hm (ha.below K) (hb.below K)).mono ?_; rintro e w1 ⟨rfl, b1⟩
  replace X := X.below b1
  replace Y := Y.below b1
  replace K := K.trans (b1.mono K.size)
  clear b1
  have yl := Y.lt
  have O := World.ownsRow_made (e := 85) (size := 2) (base := w.heap.size + 2) w1 #[] 0 (by omega) (Nat.zero_le _) rfl
  replace X := X.alloc (.cells #[] 85)
  replace Y := Y.alloc (.cells #[] 85)
  replace K := K.alloc K.size (.cells #[] 85)
  obtain ⟨x0, x1, -, -⟩ := X.cells
  have N1 := (ha.below K).news'
  have HN1 := Lib.hid N1
  clear N1
  go_wp2_with (at_builtin; (refine wpList_append_own _ rfl _ _ 29 rfl (w.heap.size + 2) 85 i0 (.agg #[.int .i64 0, .int .i64 0]) 2 16 Try.underlying29 hi hz0 hz1 hz2 rfl (by decide) _ _ _ rfl O ad ps.length ca (cellsP ps) rfl ?qc1 ?qc2 ?qc3 ?qc4 ?qc5 ?qc6 ?_))
  case qc1 => exact cellsP_len _
  case qc2 => exact HN1.out
  case qc3 => exact cellsP_one _
  case qc4 => unfold maxLen; omega
  case qc5 => omega
  case qc6 => simp; omega
  intro v4 w4 own4 g4 _
  clear x0 x1
  have hbk := ownsRow_block O
  replace X := X.grownUp g4 (fun g e => by have := hbk g e; omega)
  replace Y := Y.grownUp g4 (fun g e => by have := hbk g e; omega)
  replace K := K.grown g4 (by have := K.size; simp; omega) (fun g e => by have := hbk g e; omega)
  have own4' : w4.ownsRow (w.heap.size + 2) 85 2 v4 ps.length (cellsP ps) := by simpa using own4
  clear g4 hbk O own4 HN1
  obtain ⟨A4, c4, rfl, -, hA4⟩ := ownP_is own4'
  have P4 : OwnSl w4 (w.heap.size + 2) 85 A4 (ps.length * 2) (flatP ps) := fun hp => by obtain ⟨g, h1, h2, h3⟩ := hA4 (by omega); exact ⟨g, 0, h1, h2, h3⟩
  clear own4' hA4
  have hP4 : ∀ g, blk A4 (ps.length * 2) = some g → g < w4.heap.size := fun g e => (blk_own P4 e).2
  have Q := Pair.new w4 32 (.slice A4 ps.length c4) (.slice none 0 0)
  have b0 := below1 w4 (.cells #[.slice A4 ps.length c4, .slice none 0 0] 32)
  have hyo : w.heap.size + 1 < w4.heap.size := Y.lt
  replace X := X.below b0
  replace Y := Y.below b0
  replace P4 := P4.below b0
  replace K := K.trans (b0.mono K.size)
  clear b0 yl
  obtain ⟨ob, hob⟩ : ∃ ob, ob = w4.heap.size := ⟨_, rfl⟩
  rw [← hob] at Q hP4 hyo
  have HP4 := Lib.hid hP4
  clear hP4
  have HOB := Lib.hid hob
  clear hob
  go_wp2
  rw [← HOB.out]
  go_loopw [4] (fun i wr => ∃ (k : Nat) (V : Value), k ≤ rs.length ∧ i = .int .i64 k ∧ Pair wr w.heap.size 32 (.slice (some ad) ps.length ca) (.slice B rs.length cb) ∧ Pair wr (w.heap.size + 1) 32 (.slice none 0 0) (.slice none 0 0) ∧ Pair wr ob 32 (.slice A4 ps.length c4) V ∧ OwnSl wr (w.heap.size + 2) 85 A4 (ps.length * 2) (flatP ps) ∧ wr.ownsRow (ob + 1) 75 3 V k (cellsA (turnL (rs.take k))) ∧ Below w.heap.size w wr) (fun i _ => rs.length - (intOf i).toNat)
  case atStart => exact ⟨0, _, by omega, rfl, X, Y, Q, P4, by rw [List.take_zero]; exact World.ownsRow_nil _ _ _ _, K⟩
  case round =>
    clear X Y Q P4 K
    obtain ⟨k, V, hkl, rfl, X, Y, Q, P4, own, K⟩ := hrel
    obtain ⟨x0, x1, -, -⟩ := X.cells
    have ql := Q.lt
    by_cases hlt : k < rs.length
    · obtain ⟨b, off, rfl, -, c0, c1, c2⟩ := (hb.below K).at_ hlt
      have hle : (turnL (rs.take k)).length = k := by rw [turn_len (rise_take HR.out k), List.length_take]; omega
      have hle1 : (turnL (rs.take (k + 1))).length = k + 1 := by rw [turn_len (rise_take HR.out (k + 1)), List.length_take]; omega
      have HLE := Lib.hid hle
      have HLE1 := Lib.hid hle1
      clear hle hle1
      have own' := ownsRow_len own HLE.out.symm
      obtain ⟨VA, cV, hV, -, -, -⟩ := ownA_is own'
      rw [HLE.out] at hV
      clear own'
      subst hV
      obtain ⟨q0, q1, q2, q3⟩ := Q.cells
      have hsm := turn_small (n := ps.length) (by omega) (rise_take HR.out k) (fun x hx => HM.out x (List.mem_of_mem_take hx))
      have hsa : Small (revA (arg rs k)) := by have := HM.out _ (arg_mem hlt); unfold Small revA; simp only; omega
      have HTS := Lib.hid (show turnL (rs.take (k + 1)) = putA (turnL (rs.take k)) (revA (arg rs k)) by rw [take_snoc3 hlt, turnL_snoc])
      have HSM := Lib.hid hsm
      have HSA := Lib.hid hsa
      clear hsm hsa
      go_wp2_with fail
      refine wp_region_still_tail 21 (by kernel_rfl) (by kernel_rfl) ?_
      simp only [List.take_succ_cons, List.take_zero, List.drop_succ_cons, List.drop_zero]
      change wpStill _ _ wr.drew (fun a' => wpList _ _ _ _ a' wr.drew) _ _
      replace X : Pair wr.drew w.heap.size 32 (.slice (some ad) ps.length ca) (.slice (some ⟨b, off, none⟩) rs.length cb) := X
      replace Y : Pair wr.drew (w.heap.size + 1) 32 (.slice none 0 0) (.slice none 0 0) := Y
      replace Q : Pair wr.drew ob 32 (.slice A4 ps.length c4) (.slice VA k cV) := Q
      replace own : wr.drew.ownsRow (ob + 1) 75 3 (.slice VA k cV) k (cellsA (turnL (rs.take k))) := own
      replace P4 : OwnSl wr.drew (w.heap.size + 2) 85 A4 (ps.length * 2) (flatP ps) := P4.of_block (fun _ _ _ => rfl)
      replace K := K.drew
      replace x1 : wr.drew.cell? ⟨w.heap.size, 1, none⟩ = some (.slice (some ⟨b, off, none⟩) rs.length cb) := x1
      replace q1 : wr.drew.cell? ⟨ob, 1, none⟩ = some (.slice VA k cV) := q1
      replace c0 : wr.drew.cell? ⟨b, off + k * 3, none⟩ = some (.int .i64 (arg rs k).1) := c0
      replace c1 : wr.drew.cell? ⟨b, off + k * 3 + 1, none⟩ = some (.int .i64 (arg rs k).2.1) := c1
      replace c2 : wr.drew.cell? ⟨b, off + k * 3 + 2, none⟩ = some (.int .i64 (arg rs k).2.2) := c2
      replace ql : ob < wr.drew.heap.size := ql
      clear x0 q0 q2 q3
      generalize wr.drew = W at X Y Q own P4 K x1 q1 c0 c1 c2 ql ⊢
      repeat still_step
      refine wpStill_nil ?_
      clear x1 q1 c0 c1 c2
      have own' := ownsRow_len own HLE.out.symm
      have HC := l03Put_own own' ((arg rs k).2.1, (arg rs k).1, (arg rs k).2.2) (by rw [HLE.out]; omega) HSM.out HSA.out
      dsimp only at HC
      clear own'
      rw [show putA (turnL (rs.take k)) ((arg rs k).2.1, (arg rs k).1, (arg rs k).2.2) = turnL (rs.take (k + 1)) from HTS.out.symm] at HC
      have HHC := Lib.hid HC
      clear HC
      go_wp2_with fail
      refine HHC.out.mono ?_; rintro e w5 ⟨v5, rfl, own5, b5⟩
      clear HHC
      obtain ⟨V5, cV5, hV5, -, -, -⟩ := ownA_is own5
      rw [HLE1.out] at hV5 own5
      subst hV5
      replace own5 := ownsRow_base own5 (show ob + 1 ≤ W.heap.size by omega)
      replace X := X.below b5
      replace Y := Y.below b5
      replace Q := Q.below b5
      replace P4 := P4.below b5
      replace K := K.trans (b5.mono K.size)
      clear b5 own
      obtain ⟨q0, q1, q2, q3⟩ := Q.cells
      replace X := X.far (c := ob) (by omega) 1 (.slice V5 (k + 1) cV5)
      replace Y := Y.far (c := ob) (by omega) 1 (.slice V5 (k + 1) cV5)
      replace Q := Q.set1 (.slice V5 (k + 1) cV5)
      replace P4 : OwnSl (w5.setCell ⟨ob, 1, none⟩ (.slice V5 (k + 1) cV5)) (w.heap.size + 2) 85 A4 (ps.length * 2) (flatP ps) := P4.of_block (fun g e _ => Below.heap_setCell _ _ _ _ (by have := HP4.out g e; simp; omega))
      replace own5 := ownsRow_far (c := ob) own5 (by omega) 1 (.slice V5 (k + 1) cV5)
      replace K := K.setCell (p := ⟨ob, 1, none⟩) (by simp; omega) (.slice V5 (k + 1) cV5)
      go_wp2
      go_roundw
      case rel => exact ⟨k + 1, _, by omega, by go_num, X, Y, Q, P4, own5, K⟩
      case measure => simp [intOf]; omega
    · obtain rfl : k = rs.length := by omega
      clear hlt hkl
      rw [List.take_length] at own
      have HLE := Lib.hid (turn_len HR.out)
      replace own := ownsRow_len own HLE.out.symm
      obtain ⟨VA, cV, hV, -, -, hVA⟩ := ownA_is own
      rw [HLE.out] at hV
      subst hV
      have PA : OwnSl wr (ob + 1) 75 VA ((turnL rs).length * 3) (flatA (turnL rs)) := fun hp => by obtain ⟨g, h1, h2, h3⟩ := hVA (by omega); exact ⟨g, 0, h1, h2, h3⟩
      have HPA := Lib.hid (fun g e => blk_own PA (g := g) e)
      clear hVA own
      obtain ⟨y0, y1, y2, y3⟩ := Y.cells
      obtain ⟨q0, q1, -, -⟩ := Q.cells
      go_wp2
      refine bodyPost_ret (v := .agg #[.slice A4 ps.length c4, .slice VA rs.length cV]) (by simp [results, Try.results33, go_sem, y0, y1]) rfl ⟨A4, VA, c4, cV, by rw [HLE.out], ?_, ?_, ?_, (K.setCell (by simp) _).setCell (by simp) _⟩
      · have := P4.of_block (w' := (wr.setCell ⟨w.heap.size + 1, 0, none⟩ (.slice A4 ps.length c4)).setCell ⟨w.heap.size + 1, 1, none⟩ (.slice VA rs.length cV)) (fun g e _ => by rw [Below.heap_setCell _ _ _ _ (by have := (blk_own P4 e).1; simp; omega), Below.heap_setCell _ _ _ _ (by have := (blk_own P4 e).1; simp; omega)])
        exact fun hp => by obtain ⟨g, o, h1, h2, h3⟩ := this hp; exact ⟨g, o, h1, by omega, h3⟩
      · have := PA.of_block (w' := (wr.setCell ⟨w.heap.size + 1, 0, none⟩ (.slice A4 ps.length c4)).setCell ⟨w.heap.size + 1, 1, none⟩ (.slice VA rs.length cV)) (fun g e _ => by rw [Below.heap_setCell _ _ _ _ (by have := (HPA.out g e).1; simp; omega), Below.heap_setCell _ _ _ _ (by have := (HPA.out g e).1; simp; omega)])
        exact fun hp => by obtain ⟨g, o, h1, h2, h3⟩ := this hp; exact ⟨g, o, h1, by omega, h3⟩
      · exact fun g e e' => by have := HP4.out g e; have := (HPA.out g e').1; omega

theorem reversed_any (f t l : Int) (w : World) : Calls Try.prog 66 #[.agg #[.int .i64 f, .int .i64 t, .int .i64 l]] w fun e w' => e = .returned (.agg #[.int .i64 t, .int .i64 f, .int .i64 l]) ∧ Below w.heap.size w w' := by
  go_enter Try.func66, Try.ntmps66
  go_wp2
  exact bodyPost_ret (v := .agg #[.int .i64 t, .int .i64 f, .int .i64 l]) (by simp [results, Try.results66, go_sem]) rfl ⟨rfl, below2 _ _ _⟩

set_option maxHeartbeats 2000000 in
theorem clonePts_some (ad : Addr) (c : Nat) (ps : List (Int × Int)) (w : World) (hbig : ps.length ≤ 1048576) (hc : IsPts w (some ad) ps) :
    Calls Try.prog 65 #[.slice (some ad) ps.length c] w fun e w' => ∃ v', e = .returned v' ∧ w'.ownsRow w.heap.size 85 2 v' ps.length (cellsP ps) ∧ Below w.heap.size w w' := by
  obtain ⟨i0, hi, hz0, hz1, hz2⟩ := info_parts Try.infoPt
  have q22 : ∀ (w : World) (a : Option Addr) (n c n' c' : Nat), (binOp .eql 29 (.slice a n c) (.slice none n' c')).run Try.prog w = .ok (.bool a.isNone) w := fun w a n c n' c' => Lib.run_eql_slice_nil w _ _ a n c n' c' Try.underlying29
  have HC := Lib.hid (hc.below (below1 w (.cells #[] 85))).news'
  clear hc
  go_enter Try.func65, Try.ntmps65
  go_wp2_with (at_builtin; refine wpList_append_own _ rfl _ _ 29 rfl w.heap.size 85 i0 (.agg #[.int .i64 0, .int .i64 0]) 2 16 Try.underlying29 hi hz0 hz1 hz2 rfl (by decide) _ _ _ rfl (World.ownsRow_made w #[] 0 (Nat.le_refl _) (Nat.zero_le _) rfl) ad ps.length c (cellsP ps) rfl ?qc1 ?qc2 ?qc3 ?qc4 ?qc5 ?qc6 ?_)
  case qc1 => exact cellsP_len _
  case qc2 => exact HC.out
  case qc3 => exact cellsP_one _
  case qc4 => unfold maxLen; omega
  case qc5 => omega
  case qc6 => simp
  intro v' w1 hown hgrow _
  go_wp2
  go_ret
  exact ⟨v', rfl, by simpa using hown, ((Below.refl _ w).alloc (Nat.le_refl _) _).grown hgrow (by simp) (by intro k hk; simp [Value.ownBlock] at hk; omega)⟩

theorem rowTurn_len (rs : List A3) : (rowTurn rs).length = rs.length := by simp [rowTurn]
theorem rowTurn_at {rs : List A3} {k : Nat} (hk : k < rs.length) : arg (rowTurn rs) k = revA (arg rs (placed (kfT rs) rs.length rs.length k).toNat) := by
  unfold rowTurn arg; simp [hk]; rfl
theorem take_row {rs : List A3} {k : Nat} (hk : k < rs.length) : (rowTurn rs).take (k + 1) = (rowTurn rs).take k ++ [revA (arg rs (placed (kfT rs) rs.length rs.length k).toNat)] := by
  rw [take_snoc3 (by rw [rowTurn_len]; exact hk), rowTurn_at hk]

set_option maxHeartbeats 2000000 in
set_option maxRecDepth 100000 in
theorem implTurned_yes (ad : Addr) (B : Option Addr) (ca cb : Nat) (ps : List (Int × Int)) (rs : List A3) (w : World) (hn : ps.length ≤ 1048576) (hm : rs.length ≤ 1048576) (ha : IsPts w (some ad) ps) (hb : IsArcs w B rs) (hok : netB ps rs = true) :
    Calls Try.prog 36 #[.agg #[.slice (some ad) ps.length ca, .slice B rs.length cb]] w (NetOwned w ps (turnL rs)) := by
  obtain ⟨i0, hi, hz0, hz1, hz2⟩ := info_parts Try.infoArc
  have X := (Pair.new w 32 (.slice (some ad) ps.length ca) (.slice B rs.length cb)).alloc (.cells #[.slice none 0 0, .slice none 0 0] 32)
  have Y : Pair ((w.alloc (.cells #[.slice (some ad) ps.length ca, .slice B rs.length cb] 32)).alloc (.cells #[.slice none 0 0, .slice none 0 0] 32)) (w.heap.size + 1) 32 (.slice none 0 0) (.slice none 0 0) := by
    have := Pair.new (w.alloc (.cells #[.slice (some ad) ps.length ca, .slice B rs.length cb] 32)) 32 (.slice none 0 0) (.slice none 0 0); rwa [World.size_alloc] at this
  have K := below2 w (.cells #[.slice (some ad) ps.length ca, .slice B rs.length cb] 32) (.cells #[.slice none 0 0, .slice none 0 0] 32)
  obtain ⟨h20, h70, -, -⟩ := netB_iff.1 hok
  have hk : ∀ i, i < rs.length → 0 ≤ (arg rs i).2.1 ∧ (arg rs i).2.1 < (ps.length : Int) := fun i hi => by have := netB_arc hok hi; omega
  have HK := Lib.hid hk
  have HRT := Lib.hid (rowTurn_eq (netB_rise hok) hk)
  have HINV := Lib.hid (fun q hq => placed_inv (kfT rs) rs.length ps.length (fun i hi => by have := hk i hi; unfold kfT; omega) (q := q) hq)
  clear hk
  go_enter Try.func36, Try.ntmps36
  go_wp2_with fail
  refine (implNetOk_any (some ad) B ca cb ps rs _ hn hm (ha.below K) (hb.below K)).mono ?_; rintro e w1 ⟨rfl, b1⟩
  replace X := X.below b1
  replace Y := Y.below b1
  replace K := K.trans (b1.mono K.size)
  clear b1
  have yl := Y.lt
  obtain ⟨x0, x1, -, -⟩ := X.cells
  go_wp2_with fail
  clear x0 x1
  refine (rowsT_any (some ad) B ca cb ps rs _ h20 h70 (hb.below K) HK.out).mono ?_; rintro e w2 ⟨s, L, rfl, -, -, R, Lr, b2⟩
  replace X := X.below b2
  replace Y := Y.below b2
  replace K := K.trans (b2.mono K.size)
  clear b2 R
  have T := Quad.new w2 91 (.slice (some ad) ps.length ca) (.slice B rs.length cb) (.slice (some ⟨s, 0, none⟩) (ps.length + 1) (ps.length + 1)) (.slice (some ⟨L, 0, none⟩) rs.length rs.length)
  have b3 := below1 w2 (.cells #[.slice (some ad) ps.length ca, .slice B rs.length cb, .slice (some ⟨s, 0, none⟩) (ps.length + 1) (ps.length + 1), .slice (some ⟨L, 0, none⟩) rs.length rs.length] 91)
  replace X := X.below b3
  replace Y := Y.below b3
  replace Lr := Lr.below b3
  replace K := K.trans (b3.mono K.size)
  clear b3
  obtain ⟨tb, htb⟩ : ∃ tb, tb = w2.heap.size := ⟨_, rfl⟩
  rw [← htb] at T
  have HTB := Lib.hid htb
  clear htb
  obtain ⟨x0, x1, -, -⟩ := X.cells
  go_wp2_with fail
  rw [← HTB.out]
  clear x0 x1
  refine (clonePts_some ad ca ps _ hn (ha.below K)).mono ?_; rintro e w4 ⟨v4, rfl, own4', b4⟩
  replace own4' := ownsRow_base own4' (show w.heap.size + 2 ≤ _ by have := X.lt; have := Y.lt; omega)
  replace X := X.below b4
  replace Y := Y.below b4
  replace T := T.below b4
  replace Lr := Lr.below b4
  replace K := K.trans (b4.mono K.size)
  clear b4 yl
  obtain ⟨A4, c4, rfl, -, hA4⟩ := ownP_is own4'
  have P4 : OwnSl w4 (w.heap.size + 2) 85 A4 (ps.length * 2) (flatP ps) := fun hp => by obtain ⟨g, h1, h2, h3⟩ := hA4 (by omega); exact ⟨g, 0, h1, h2, h3⟩
  clear own4' hA4
  have hP4 : ∀ g, blk A4 (ps.length * 2) = some g → g < w4.heap.size := fun g e => (blk_own P4 e).2
  have Q := Pair.new w4 32 (.slice A4 ps.length c4) (.slice none 0 0)
  have b0 := below1 w4 (.cells #[.slice A4 ps.length c4, .slice none 0 0] 32)
  have hyo : w.heap.size + 1 < w4.heap.size := Y.lt
  have hto : tb < w4.heap.size := T.lt
  have hlo : L < w4.heap.size := Lr.lt
  replace X := X.below b0
  replace Y := Y.below b0
  replace T := T.below b0
  replace Lr := Lr.below b0
  replace P4 := P4.below b0
  replace K := K.trans (b0.mono K.size)
  clear b0
  obtain ⟨ob, hob⟩ : ∃ ob, ob = w4.heap.size := ⟨_, rfl⟩
  rw [← hob] at Q hP4 hyo hto hlo
  have HP4 := Lib.hid hP4
  clear hP4
  have HOB := Lib.hid hob
  clear hob
  obtain ⟨⟨t0, t1, t2, t3⟩, -, -, -, -⟩ := T.cells
  go_wp2
  rw [← HOB.out]
  clear t0 t1 t2 t3
  go_loopw [20] (fun i wr => ∃ (k : Nat) (V : Value), k ≤ rs.length ∧ i = .int .i64 k ∧ Pair wr (w.heap.size + 1) 32 (.slice none 0 0) (.slice none 0 0) ∧ Quad wr tb 91 (.slice (some ad) ps.length ca) (.slice B rs.length cb) (.slice (some ⟨s, 0, none⟩) (ps.length + 1) (ps.length + 1)) (.slice (some ⟨L, 0, none⟩) rs.length rs.length) ∧ IRow wr L rs.length (placed (kfT rs) rs.length rs.length) ∧ Pair wr ob 32 (.slice A4 ps.length c4) V ∧ OwnSl wr (w.heap.size + 2) 85 A4 (ps.length * 2) (flatP ps) ∧ wr.ownsRow (ob + 1) 75 3 V k (cellsA ((rowTurn rs).take k)) ∧ Below w.heap.size w wr) (fun i _ => rs.length - (intOf i).toNat)
  case atStart => exact ⟨0, _, by omega, rfl, Y, T, Lr, Q, P4, by rw [List.take_zero]; exact World.ownsRow_nil _ _ _ _, K⟩
  case round =>
    clear X Y T Lr Q P4 K
    obtain ⟨k, V, hkl, rfl, Y, T, Lr, Q, P4, own, K⟩ := hrel
    have ql := Q.lt
    by_cases hlt : k < rs.length
    · obtain ⟨i, hil, hip, -⟩ := HINV.out k hlt
      have hcl := Lr.cell hlt
      rw [hip] at hcl
      obtain ⟨b, off, rfl, -, c0, c1, c2⟩ := (hb.below K).at_ hil
      have HTK := Lib.hid (take_row hlt)
      rw [hip, Int.toNat_natCast] at HTK
      have hle : ((rowTurn rs).take k).length = k := by rw [List.length_take, rowTurn_len]; omega
      have own' := ownsRow_len own hle.symm
      obtain ⟨VA, cV, hV, -, -, -⟩ := ownA_is own'
      rw [hle] at hV
      clear own' hle hip
      subst hV
      obtain ⟨q0, q1, q2, q3⟩ := Q.cells
      obtain ⟨⟨t0, t1, t2, t3⟩, -, -, -, -⟩ := T.cells
      replace Y : Pair wr.drew (w.heap.size + 1) 32 (.slice none 0 0) (.slice none 0 0) := Y
      replace T : Quad wr.drew tb 91 (.slice (some ad) ps.length ca) (.slice (some ⟨b, off, none⟩) rs.length cb) (.slice (some ⟨s, 0, none⟩) (ps.length + 1) (ps.length + 1)) (.slice (some ⟨L, 0, none⟩) rs.length rs.length) := T
      replace Lr : IRow wr.drew L rs.length (placed (kfT rs) rs.length rs.length) := OwnAt.of_block Lr rfl
      replace Q : Pair wr.drew ob 32 (.slice A4 ps.length c4) (.slice VA k cV) := Q
      replace own : wr.drew.ownsRow (ob + 1) 75 3 (.slice VA k cV) k (cellsA ((rowTurn rs).take k)) := own
      replace P4 : OwnSl wr.drew (w.heap.size + 2) 85 A4 (ps.length * 2) (flatP ps) := P4.of_block (fun _ _ _ => rfl)
      replace K := K.drew
      have q1d : wr.drew.cell? ⟨ob, 1, none⟩ = some (.slice VA k cV) := q1
      have qld : ob < wr.drew.heap.size := ql
      clear q0 q2 q3 t0 t2 t3
      go_wp2_with fail
      go_region_law (first
        | (refine step_append_lies _ rfl (.tmp 25) (.tmp 33) 30 rfl (ob + 1) 75 i0 (.agg #[.int .i64 0, .int .i64 0, .int .i64 0]) 3 24 Try.underlying30 hi hz0 hz1 hz2 rfl (by decide) _ k _ rfl (own5.alloc _) ⟨w5.heap.size, 0, none⟩ 1 1 (cellsA [revA (arg rs i)]) rfl rfl (cells3_new _ (revA (arg rs i)) _) (cellsA_one _) (by decide) (by unfold maxLen; omega) (by omega) (by rw [World.size_alloc]; omega) _ rfl ?_; intro g6 cap6 w6 own6 gr6 hg6 hl6; have Q6 := Q5.grownUp gr6 (fun g e => by have := ownsRow_block own5 g e; omega); obtain ⟨q60, q61, q62, q63⟩ := Q6.cells)
        | (go_simp; go_at_call 66; refine (reversed_any _ _ _ _).mono ?_; rintro e w5 ⟨rfl, b5⟩; have h5 := b5.size; have q5 := cell_under b5 q1d; have q5' := cell_under (below1 w5 (.cells #[.int .i64 (arg rs i).2.1, .int .i64 (arg rs i).1, .int .i64 (arg rs i).2.2] 75)) q5; have own5 := ownsRow_below own b5; have Q5 := (Q.below b5).below (below1 w5 (.cells #[.int .i64 (arg rs i).2.1, .int .i64 (arg rs i).1, .int .i64 (arg rs i).2.2] 75))))
      all_goals (
        clear q60 q61 q62 q63 Q Q5 q5 q5' q1d q1 c0 c1 c2 t1
        have hbk := ownsRow_block own5
        have b6 := below1 w5 (.cells #[.int .i64 (arg rs i).2.1, .int .i64 (arg rs i).1, .int .i64 (arg rs i).2.2] 75)
        replace Y := ((Y.below b5).below b6).grownUp gr6 (fun g e => by have := hbk g e; omega)
        have T5 := (T.below b5).below b6
        replace T : Quad w6 tb 91 (.slice (some ad) ps.length ca) (.slice (some ⟨b, off, none⟩) rs.length cb) (.slice (some ⟨s, 0, none⟩) (ps.length + 1) (ps.length + 1)) (.slice (some ⟨L, 0, none⟩) rs.length rs.length) := (gr6.block tb T5.lt (fun e => by have := hbk tb e.symm; omega)).trans T5
        have L5 := (Lr.below b5).below b6
        replace Lr : IRow w6 L rs.length (placed (kfT rs) rs.length rs.length) := OwnAt.of_block L5 (gr6.block L L5.lt (fun e => by have := hbk L e.symm; omega))
        replace P4 : OwnSl w6 (w.heap.size + 2) 85 A4 (ps.length * 2) (flatP ps) := ((P4.below b5).below b6).of_block (fun g e hg => gr6.block g hg (fun e' => by have := HP4.out g e; have := hbk g e'.symm; omega))
        replace K := K.trans (b5.mono K.size)
        replace K := (K.trans (b6.mono K.size)).grown gr6 (by have := K.size; rw [World.size_alloc]; omega) (fun g e => by have := hbk g e; omega)
        have own7 : w6.ownsRow (ob + 1) 75 3 (.slice (some ⟨g6, 0, none⟩) (k + 1) cap6) (k + 1) (cellsA ((rowTurn rs).take (k + 1))) := by rw [HTK.out, cellsA_append]; exact own6
        clear b6 b5 gr6 hbk own own5 own6 T5 L5
        replace Y := Y.far (c := ob) (by omega) 1 (.slice (some ⟨g6, 0, none⟩) (k + 1) cap6)
        replace T := T.far (c := ob) (by omega) 1 (.slice (some ⟨g6, 0, none⟩) (k + 1) cap6)
        replace Lr := Lr.far (c := ob) (by omega) 1 (.slice (some ⟨g6, 0, none⟩) (k + 1) cap6)
        replace Q6 := Q6.set1 (.slice (some ⟨g6, 0, none⟩) (k + 1) cap6)
        replace P4 : OwnSl (w6.setCell ⟨ob, 1, none⟩ (.slice (some ⟨g6, 0, none⟩) (k + 1) cap6)) (w.heap.size + 2) 85 A4 (ps.length * 2) (flatP ps) := P4.of_block (fun g e _ => Below.heap_setCell _ _ _ _ (by have := HP4.out g e; simp; omega))
        replace own7 := ownsRow_far (c := ob) own7 (by omega) 1 (.slice (some ⟨g6, 0, none⟩) (k + 1) cap6)
        replace K := K.setCell (p := ⟨ob, 1, none⟩) (by simp; omega) (.slice (some ⟨g6, 0, none⟩) (k + 1) cap6)
        go_wp2
        go_roundw
        case rel => exact ⟨k + 1, _, by omega, by go_num, Y, T, Lr, Q6, P4, own7, K⟩
        case measure => simp [intOf]; omega)
    · obtain rfl : k = rs.length := by omega
      clear hlt hkl
      have hrl : (rowTurn rs).take rs.length = turnL rs := by rw [← HRT.out]; exact List.take_of_length_le (by rw [rowTurn_len]; exact Nat.le_refl _)
      rw [hrl] at own
      have HLE := Lib.hid (show (turnL rs).length = rs.length by rw [← HRT.out, rowTurn_len])
      clear hrl
      replace own := ownsRow_len own HLE.out.symm
      obtain ⟨VA, cV, hV, -, -, hVA⟩ := ownA_is own
      rw [HLE.out] at hV
      subst hV
      have PA : OwnSl wr (ob + 1) 75 VA ((turnL rs).length * 3) (flatA (turnL rs)) := fun hp => by obtain ⟨g, h1, h2, h3⟩ := hVA (by omega); exact ⟨g, 0, h1, h2, h3⟩
      have HPA := Lib.hid (fun g e => blk_own PA (g := g) e)
      clear hVA own
      obtain ⟨y0, y1, y2, y3⟩ := Y.cells
      obtain ⟨q0, q1, -, -⟩ := Q.cells
      go_wp2
      refine bodyPost_ret (v := .agg #[.slice A4 ps.length c4, .slice VA rs.length cV]) (by simp [results, Try.results36, go_sem, y0, y1]) rfl ⟨A4, VA, c4, cV, by rw [HLE.out], ?_, ?_, ?_, (K.setCell (by simp) _).setCell (by simp) _⟩
      · have := P4.of_block (w' := (wr.setCell ⟨w.heap.size + 1, 0, none⟩ (.slice A4 ps.length c4)).setCell ⟨w.heap.size + 1, 1, none⟩ (.slice VA rs.length cV)) (fun g e _ => by rw [Below.heap_setCell _ _ _ _ (by have := (blk_own P4 e).1; simp; omega), Below.heap_setCell _ _ _ _ (by have := (blk_own P4 e).1; simp; omega)])
        exact fun hp => by obtain ⟨g, o, h1, h2, h3⟩ := this hp; exact ⟨g, o, h1, by omega, h3⟩
      · have := PA.of_block (w' := (wr.setCell ⟨w.heap.size + 1, 0, none⟩ (.slice A4 ps.length c4)).setCell ⟨w.heap.size + 1, 1, none⟩ (.slice VA rs.length cV)) (fun g e _ => by rw [Below.heap_setCell _ _ _ _ (by have := (HPA.out g e).1; simp; omega), Below.heap_setCell _ _ _ _ (by have := (HPA.out g e).1; simp; omega)])
        exact fun hp => by obtain ⟨g, o, h1, h2, h3⟩ := this hp; exact ⟨g, o, h1, by omega, h3⟩
      · exact fun g e e' => by have := HP4.out g e; have := (HPA.out g e').1; omega

theorem specTurned_any (ad : Addr) (B : Option Addr) (ca cb : Nat) (ps : List (Int × Int)) (rs : List A3) (w : World) (hn : ps.length ≤ 1048576) (hm : rs.length ≤ 1048576) (ha : IsPts w (some ad) ps) (hb : IsArcs w B rs) :
    Calls Try.prog 33 #[.agg #[.slice (some ad) ps.length ca, .slice B rs.length cb]] w (NetOwned w (turnP ps rs) (turnR ps rs)) := by
  unfold turnP turnR
  cases hok : netB ps rs with
  | false => exact specTurned_no (some ad) B ca cb ps rs w hn hm ha hb hok
  | true => exact specTurned_yes ad B ca cb ps rs w hn hm ha hb hok
theorem implTurned_any (ad : Addr) (B : Option Addr) (ca cb : Nat) (ps : List (Int × Int)) (rs : List A3) (w : World) (hn : ps.length ≤ 1048576) (hm : rs.length ≤ 1048576) (ha : IsPts w (some ad) ps) (hb : IsArcs w B rs) :
    Calls Try.prog 36 #[.agg #[.slice (some ad) ps.length ca, .slice B rs.length cb]] w (NetOwned w (turnP ps rs) (turnR ps rs)) := by
  unfold turnP turnR
  cases hok : netB ps rs with
  | false => exact implTurned_no (some ad) B ca cb ps rs w hn hm ha hb hok
  | true => exact implTurned_yes ad B ca cb ps rs w hn hm ha hb hok

end Go.Proofs.Ytcaamhoakhgnhaa
