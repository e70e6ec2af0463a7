/-
  What impl.fromOf, impl.toOf, slices.Clone, impl.rowsBy and impl.row compute: a counting sort.
-/
import Derived.Test.YtcaamhoakhgnhaaNetOkI
import Derived.Test.YtcaamhoakhgnhaaNetArcs
import Derived.Test.YtcaamhoakhgnhaaCount
import Derived.Lib.Walk
import Derived.Lib.SliceRun
namespace Go.Proofs.Ytcaamhoakhgnhaa
open Go.RowKit Go.Deep

theorem fromOf_any (f t l : Int) (w : World) : Calls Try.prog 78 #[.agg #[.int .i64 f, .int .i64 t, .int .i64 l]] w fun e w' => e = .returned (.int .i64 f) ∧ Below w.heap.size w w' := by
  go_enter Try.func78, Try.ntmps78
  go_wp2
  go_ret
  exact ⟨rfl, below1 _ _⟩
theorem toOf_any (f t l : Int) (w : World) : Calls Try.prog 64 #[.agg #[.int .i64 f, .int .i64 t, .int .i64 l]] w fun e w' => e = .returned (.int .i64 t) ∧ Below w.heap.size w w' := by
  go_enter Try.func64, Try.ntmps64
  go_wp2
  go_ret
  exact ⟨rfl, below1 _ _⟩

set_option maxHeartbeats 2000000 in
/-- slices.Clone of numbers: a copy in memory of the call's own. -/
theorem cloneInts_some (b off c : Nat) (zs : List Int) (w : World) (hbig : zs.length ≤ 1048576) (hc : IntsAt w b off zs) :
    Calls Try.prog 95 #[.slice (some ⟨b, off, none⟩) zs.length c] w fun e w' => ∃ v', e = .returned v' ∧ w'.ownsRow w.heap.size 3 1 v' zs.length (zs.map (Value.int .i64)) ∧ v' ≠ .slice none 0 0 ∧ Below w.heap.size w w' := by
  obtain ⟨i0, hi, hz0, hz1, hz2⟩ := info_parts Try.infoInt
  have q22 : ∀ (w : World) (a : Option Addr) (n c n' c' : Nat), (binOp .eql 40 (.slice a n c) (.slice none n' c')).run Try.prog w = .ok (.bool a.isNone) w := fun w a n c n' c' => Lib.run_eql_slice_nil w _ _ a n c n' c' Try.underlying40
  have HC := Lib.hid hc
  clear hc
  go_enter Try.func95, Try.ntmps95
  go_wp2_with (at_builtin; refine wpList_append_own _ rfl _ _ 40 rfl w.heap.size 3 i0 (.int .i64 0) 1 8 Try.underlying40 hi hz0 hz1 hz2 rfl (by decide) _ _ _ rfl (World.ownsRow_made w #[] 0 (Nat.le_refl _) (Nat.zero_le _) rfl) ⟨b, off, none⟩ zs.length c (zs.map (Value.int .i64)) rfl ?qc1 ?qc2 ?qc3 ?qc4 ?qc5 ?qc6 ?_)
  case qc1 => simp
  case qc2 =>
    intro j u hj
    have hjn : j < zs.length := by have := (List.getElem?_eq_some_iff.1 hj).1; simpa using this
    rw [Addr.add_lit]
    refine Lib.cell?_alloc_some _ ?_
    rw [HC.out j hjn, ← hj]
    simp [zg, hjn]
  case qc3 => intro u hu; obtain ⟨x, _, rfl⟩ := List.mem_map.1 hu; rfl
  case qc4 => unfold maxLen; omega
  case qc5 => omega
  case qc6 => simp
  intro v' w1 hown hgrow hnil
  go_wp2
  go_ret
  exact ⟨v', rfl, by simpa using hown, hnil, ((Below.refl _ w).alloc (Nat.le_refl _) _).grown hgrow (by simp) (by intro k hk; simp [Value.ownBlock] at hk; omega)⟩
theorem cloneInts_nil (n c : Nat) (w : World) : Calls Try.prog 95 #[.slice none n c] w fun e w' => e = .returned (.slice none 0 0) ∧ w = w' := by
  have q22 : ∀ (w : World) (a : Option Addr) (n c n' c' : Nat), (binOp .eql 40 (.slice a n c) (.slice none n' c')).run Try.prog w = .ok (.bool a.isNone) w := fun w a n c n' c' => Lib.run_eql_slice_nil w _ _ a n c n' c' Try.underlying40
  go_enter Try.func95, Try.ntmps95
  go_wp2
  go_ret
  exact ⟨rfl, rfl⟩

/-- Block b holds four cells, and is known whole. -/
def Quad (w : World) (b : Nat) (t : TypeId) (x y z u : Value) : Prop := w.heap[b]? = some (.cells #[x, y, z, u] t (0, 0))
section
variable {w w' : World} {b c : Nat} {t : TypeId} {x y z u : Value}
theorem Quad.lt (h : Quad w b t x y z u) : b < w.heap.size := (Array.getElem?_eq_some_iff.1 h).1
theorem Quad.new (w : World) (t : TypeId) (x y z u : Value) : Quad (w.alloc (.cells #[x, y, z, u] t)) w.heap.size t x y z u := heap_alloc_new w _
theorem Quad.alloc (h : Quad w b t x y z u) (o : Obj) : Quad (w.alloc o) b t x y z u := (Below.heap_alloc w o b h.lt).trans h
theorem Quad.below (h : Quad w b t x y z u) (hb : Below w.heap.size w w') : Quad w' b t x y z u := (hb.block b h.lt).trans h
theorem Quad.far (h : Quad w b t x y z u) (hc : b ≠ c) (i : Nat) (v : Value) : Quad (w.setCell ⟨c, i, none⟩ v) b t x y z u := (Below.heap_setCell w ⟨c, i, none⟩ v b hc).trans h
theorem Quad.cells (h : Quad w b t x y z u) : (w.cell? ⟨b, 0, none⟩ = some x ∧ w.cell? ⟨b, 1, none⟩ = some y ∧ w.cell? ⟨b, 2, none⟩ = some z ∧ w.cell? ⟨b, 3, none⟩ = some u) ∧
    w.frozen? ⟨b, 0, none⟩ = false ∧ w.frozen? ⟨b, 1, none⟩ = false ∧ w.frozen? ⟨b, 2, none⟩ = false ∧ w.frozen? ⟨b, 3, none⟩ = false :=
  ⟨⟨by rw [cell_of_block h]; rfl, by rw [cell_of_block h]; rfl, by rw [cell_of_block h]; rfl, by rw [cell_of_block h]; rfl⟩, frozen_of_block h, frozen_of_block h, frozen_of_block h, frozen_of_block h⟩
end

/-- Block b holds the N numbers f. -/
def IRow (w : World) (b N : Nat) (f : Nat → Int) : Prop := OwnAt w b 3 0 N f
section
variable {w w' : World} {b c N : Nat} {f f' : Nat → Int}
theorem IRow.lt (h : IRow w b N f) : b < w.heap.size := OwnAt.lt h
theorem IRow.cell (h : IRow w b N f) {i : Nat} (hi : i < N) : w.cell? ⟨b, i, none⟩ = some (.int .i64 (f i)) := by have := OwnAt.cell h hi; rwa [Nat.zero_add] at this
theorem IRow.frozen (h : IRow w b N f) (i : Nat) : w.frozen? ⟨b, i, none⟩ = false := OwnAt.frozen h i
theorem IRow.set (h : IRow w b N f) (i : Nat) (x : Int) : IRow (w.setCell ⟨b, i, none⟩ (.int .i64 x)) b N (fun j => if j = i then x else f j) := by have := OwnAt.set h i x; rwa [Nat.zero_add] at this
theorem IRow.congr (h : IRow w b N f) (e : ∀ i, i < N → f i = f' i) : IRow w b N f' := OwnAt.congr h e
theorem IRow.below (h : IRow w b N f) (hb : Below w.heap.size w w') : IRow w' b N f := OwnAt.below h hb
theorem IRow.alloc (h : IRow w b N f) (o : Obj) : IRow (w.alloc o) b N f := OwnAt.of_block h (Below.heap_alloc w o b h.lt)
theorem IRow.far (h : IRow w b N f) (hc : b ≠ c) (i : Nat) (x : Value) : IRow (w.setCell ⟨c, i, none⟩ x) b N f := OwnAt.of_block h (Below.heap_setCell w ⟨c, i, none⟩ x b hc)
theorem IRow.made (w : World) (n : Nat) : IRow (w.alloc (.cells (madeCells #[.int .i64 0] n) 3)) w.heap.size n (fun _ => 0) :=
  ⟨_, heap_alloc_new w _, by rw [size_madeCells]; omega, fun i hi => by simp [madeCells, hi, Nat.mod_one]⟩
theorem IRow.own {base : Nat} {v : Value} {zs : List Int} (h : w.ownsRow base 3 1 v zs.length (zs.map (Value.int .i64))) (hv : v ≠ .slice none 0 0) : ∃ g cap, v = .slice (some ⟨g, 0, none⟩) zs.length cap ∧ base ≤ g ∧ IRow w g zs.length (zg zs) := by
  rcases h.2 with ⟨h1, -⟩ | ⟨g, cap, cur, h1, h2, h3, h4, h5, h6, h7⟩
  · exact absurd h1 hv
  · refine ⟨g, cap, h1, h2, cur, h3, by omega, fun i hi => ?_⟩
    have e : (cur.toList.take (zs.length * 1))[i]? = (zs.map (Value.int .i64))[i]? := by rw [h7]
    rw [List.getElem?_take, if_pos (by omega), Array.getElem?_toList] at e
    rw [Nat.zero_add, e]
    simp [hi, zg]
theorem IRow.ints {n : Nat} (h : IRow w b N f) {off : Nat} (hn : off + n ≤ N) : IntsAt w b off ((List.range n).map fun j => f (off + j)) := fun i hi => by
  have hi' : i < n := by simpa using hi
  rw [h.cell (show off + i < N by omega)]
  simp [zg, hi']
end

theorem ArcBox.far {w : World} {b c : Nat} {f t l : Int} (h : ArcBox w b f t l) (hc : c ≠ b) (i : Nat) (v : Value) : ArcBox (w.setCell ⟨c, i, none⟩ v) b f t l :=
  ⟨by rw [World.cell?_setCell_far _ _ _ _ (by simpa using hc)]; exact h.1, by rw [World.cell?_setCell_far _ _ _ _ (by simpa using hc)]; exact h.2.1, by rw [World.cell?_setCell_far _ _ _ _ (by simpa using hc)]; exact h.2.2⟩
/-- The counts while they are taken; while they are summed; the places while the list is filled. -/
def s1 (kf : Nat → Nat) (k j : Nat) : Nat := if j = 0 then 0 else cE kf k (j - 1)
def s2 (kf : Nat → Nat) (m v j : Nat) : Nat := if j ≤ v then cL kf m j else cE kf m (j - 1)
def s3 (kf : Nat → Nat) (m k u : Nat) : Nat := cL kf m u + cE kf k u
theorem s1_zero (kf : Nat → Nat) (j : Nat) : s1 kf 0 j = 0 := by unfold s1; split <;> rfl
theorem s1_step (kf : Nat → Nat) (k j : Nat) : (if j = kf k + 1 then s1 kf k (kf k + 1) + 1 else s1 kf k j) = s1 kf (k + 1) j := by
  unfold s1
  by_cases e : j = kf k + 1
  · subst e; rw [if_pos rfl, if_neg (by omega), if_neg (by omega), Nat.add_sub_cancel, cE_same]
  · rw [if_neg e]
    by_cases e0 : j = 0
    · rw [if_pos e0, if_pos e0]
    · rw [if_neg e0, if_neg e0, cE_other kf k (j - 1) (by omega)]
theorem s1_le (kf : Nat → Nat) (k j : Nat) : s1 kf k j ≤ k := by unfold s1; split; omega; exact cE_le _ _ _
theorem s2_zero (kf : Nat → Nat) (m j : Nat) : s1 kf m j = s2 kf m 0 j := by
  unfold s1 s2
  by_cases e : j = 0
  · subst e; rw [if_pos rfl, if_pos (Nat.le_refl _), cL_zero]
  · rw [if_neg e, if_neg (by omega)]
theorem s2_step (kf : Nat → Nat) (m v j : Nat) : (if j = v + 1 then s2 kf m v (v + 1) + s2 kf m v v else s2 kf m v j) = s2 kf m (v + 1) j := by
  unfold s2
  by_cases e : j = v + 1
  · subst e; rw [if_pos rfl, if_neg (by omega), if_pos (Nat.le_refl _), if_pos (Nat.le_refl _), Nat.add_sub_cancel, cL_succ]; omega
  · rw [if_neg e]
    by_cases h : j ≤ v
    · rw [if_pos h, if_pos (by omega)]
    · rw [if_neg h, if_neg (by omega)]
theorem s2_le (kf : Nat → Nat) (m v j : Nat) : s2 kf m v j ≤ m := by unfold s2; split; exact cL_le _ _ _; exact cE_le _ _ _
theorem s2_all (kf : Nat → Nat) (m n j : Nat) (h : j ≤ n) : s2 kf m n j = cL kf m j := by unfold s2; rw [if_pos h]
theorem s3_step (kf : Nat → Nat) (m k u : Nat) : (if u = kf k then s3 kf m k (kf k) + 1 else s3 kf m k u) = s3 kf m (k + 1) u := by
  unfold s3
  by_cases e : u = kf k
  · subst e; rw [if_pos rfl, cE_same]; omega
  · rw [if_neg e, cE_other kf k u (fun h => e h.symm)]
theorem placed_step (kf : Nat → Nat) (m k j : Nat) : (if j = s3 kf m k (kf k) then (k : Int) else placed kf m k j) = placed kf m (k + 1) j := rfl

/-- The rows that rowsBy hands back. -/
def RowsMade (w : World) (A B : Option Addr) (n ca m cb : Nat) (kf : Nat → Nat) (e : Ending) (w' : World) : Prop :=
  ∃ s L, e = .returned (.agg #[.slice A n ca, .slice B m cb, .slice (some ⟨s, 0, none⟩) (n + 1) (n + 1), .slice (some ⟨L, 0, none⟩) m m]) ∧ w.heap.size ≤ s ∧ w.heap.size ≤ L ∧
    IRow w' s (n + 1) (fun j => (cL kf m j : Nat)) ∧ IRow w' L m (placed kf m m) ∧ Below w.heap.size w w'
def kfF (rs : List (Int × Int × Int)) (i : Nat) : Nat := (arg rs i).1.toNat
def kfT (rs : List (Int × Int × Int)) (i : Nat) : Nat := (arg rs i).2.1.toNat

set_option maxHeartbeats 4000000 in
theorem rowsF_any (A B : Option Addr) (ca cb : Nat) (ps : List (Int × Int)) (rs : List (Int × Int × Int)) (w : World) (hn : ps.length ≤ 20) (hm : rs.length ≤ 70) (hb : IsArcs w B rs) (hk : ∀ i, i < rs.length → 0 ≤ (arg rs i).1 ∧ (arg rs i).1 < ps.length) :
    Calls Try.prog 63 #[.agg #[.slice A ps.length ca, .slice B rs.length cb], .func (.func 78) #[] #[]] w (RowsMade w A B ps.length ca rs.length cb (kfF rs)) := by
  have hmk1 := run_make_row' (P := Try.prog) 40 3 (.int .i64 0) 8 Try.underlying40 Try.infoInt rfl .i64 .i64 (ps.length + 1) (by omega) (by omega)
  rw [show (((ps.length + 1 : Nat)) : Int) = (ps.length : Int) + 1 from by omega] at hmk1
  have hmk2 := run_make_row' (P := Try.prog) 40 3 (.int .i64 0) 8 Try.underlying40 Try.infoInt rfl .i64 .i64 rs.length (by omega) (by omega)
  have HMK2 := Lib.hid hmk2
  clear hmk2
  have HK := Lib.hid hk
  clear hk
  obtain ⟨W, hW⟩ : ∃ W, W = (w.alloc (.cells #[.slice A ps.length ca, .slice B rs.length cb] 32)).alloc (.cells #[.slice none 0 0, .slice none 0 0, .slice none 0 0, .slice none 0 0] 91) := ⟨_, rfl⟩
  have X : Pair W w.heap.size 32 (.slice A ps.length ca) (.slice B rs.length cb) := by rw [hW]; exact (Pair.new w _ _ _).alloc _
  have Y : Quad W (w.heap.size + 1) 91 (.slice none 0 0) (.slice none 0 0) (.slice none 0 0) (.slice none 0 0) := by rw [hW]; have := Quad.new (w.alloc (.cells #[.slice A ps.length ca, .slice B rs.length cb] 32)) 91 (.slice none 0 0) (.slice none 0 0) (.slice none 0 0) (.slice none 0 0); rwa [World.size_alloc] at this
  have K : Below w.heap.size w W := by rw [hW]; exact below2 _ _ _
  have hWs : W.heap.size = w.heap.size + 1 + 1 := by rw [hW]; simp
  have R := IRow.made W (ps.length + 1)
  rw [hWs] at R
  replace X := X.alloc (.cells (madeCells #[.int .i64 0] (ps.length + 1)) 3)
  replace Y := Y.alloc (.cells (madeCells #[.int .i64 0] (ps.length + 1)) 3)
  replace K := K.alloc K.size (.cells (madeCells #[.int .i64 0] (ps.length + 1)) 3)
  rw [hW] at X Y K R
  clear hW hWs W
  go_enter Try.func63, Try.ntmps63
  go_wp2
  clear hmk1
  go_loopw [21] (fun i wr => ∃ k : Nat, k ≤ rs.length ∧ i = .int .i64 k ∧ Pair wr w.heap.size 32 (.slice A ps.length ca) (.slice B rs.length cb) ∧ Quad wr (w.heap.size + 1) 91 (.slice none 0 0) (.slice none 0 0) (.slice none 0 0) (.slice none 0 0) ∧ IRow wr (w.heap.size + 1 + 1) (ps.length + 1) (fun j => (s1 (kfF rs) k j : Nat)) ∧ Below w.heap.size w wr) (fun i _ => rs.length - (intOf i).toNat)
  case atStart => exact ⟨0, by omega, rfl, X, Y, R.congr (fun j _ => by rw [s1_zero]; rfl), K⟩
  case round =>
    clear X Y K R
    obtain ⟨k, hkl, rfl, X, Y, R, K⟩ := hrel
    by_cases hlt : k < rs.length
    · obtain ⟨b, off, rfl, -, c0, c1, c2⟩ := (hb.below K).at_ hlt
      have hq := HK.out k hlt
      obtain ⟨q, hqq⟩ : ∃ q : Nat, (arg rs k).1 = (q : Int) := ⟨((arg rs k).1).toNat, by omega⟩
      have hqk : kfF rs k = q := by unfold kfF; rw [hqq]; rfl
      have hqn : q < ps.length := by omega
      have HST := Lib.hid (fun j => s1_step (kfF rs) k j)
      rw [hqk] at HST
      rw [hqq] at c0
      have b0 := below1 wr (.cells #[.int .i64 (q : Int), .int .i64 (arg rs k).2.1, .int .i64 (arg rs k).2.2] 75)
      clear hqq hq hqk
      go_wp2_with fail
      refine (fromOf_any _ _ _ _).mono ?_; rintro e w1 ⟨rfl, b1⟩
      replace X := (X.below b0).below b1
      replace Y := (Y.below b0).below b1
      replace R := (R.below b0).below b1
      replace K := (K.trans (b0.mono K.size)).trans (b1.mono (Nat.le_trans K.size b0.size))
      clear b0 b1 c0 c1 c2
      have hcr := R.cell (i := q + 1) (by omega)
      have hfr := R.frozen (q + 1)
      have hsl := s1_le (kfF rs) k (q + 1)
      have R2 := R.set (q + 1) ((s1 (kfF rs) k (q + 1) : Nat) + 1)
      replace X := X.far (c := (w.heap.size + 1 + 1)) (by omega) (q + 1) (.int .i64 ((s1 (kfF rs) k (q + 1) : Nat) + 1))
      replace Y := Y.far (c := (w.heap.size + 1 + 1)) (by omega) (q + 1) (.int .i64 ((s1 (kfF rs) k (q + 1) : Nat) + 1))
      replace K := K.setCell (p := ⟨(w.heap.size + 1 + 1), q + 1, none⟩) (by simp; omega) (.int .i64 ((s1 (kfF rs) k (q + 1) : Nat) + 1))
      clear R
      go_wp2
      go_roundw
      case rel => exact ⟨k + 1, by omega, by go_num, X, Y, R2.congr (fun j _ => by have := HST.out j; rw [← this]; split <;> simp), K⟩
      case measure => simp [intOf]; omega
    · obtain rfl : k = rs.length := by omega
      clear hlt hkl
      obtain ⟨x0, x1, -, -⟩ := X.cells
      go_wp2
      clear x0 x1
      go_loopw [38] (fun i wr => ∃ k : Nat, k ≤ ps.length ∧ i = .int .i64 k ∧ Pair wr w.heap.size 32 (.slice A ps.length ca) (.slice B rs.length cb) ∧ Quad wr (w.heap.size + 1) 91 (.slice none 0 0) (.slice none 0 0) (.slice none 0 0) (.slice none 0 0) ∧ IRow wr (w.heap.size + 1 + 1) (ps.length + 1) (fun j => (s2 (kfF rs) rs.length k j : Nat)) ∧ Below w.heap.size w wr) (fun i _ => ps.length - (intOf i).toNat)
      case atStart => exact ⟨0, by omega, rfl, X, Y, R.congr (fun j _ => by rw [s2_zero]), K⟩
      case round =>
        clear X Y K R
        obtain ⟨v, hvl, rfl, X, Y, R, K⟩ := hrel
        by_cases hlt : v < ps.length
        · have hc1 := R.cell (i := v + 1) (by omega)
          have hc0 := R.cell (i := v) (by omega)
          have hf1 := R.frozen (v + 1)
          have l1 := s2_le (kfF rs) rs.length v (v + 1)
          have l0 := s2_le (kfF rs) rs.length v v
          have HST := Lib.hid (fun j => s2_step (kfF rs) rs.length v j)
          have R2 := R.set (v + 1) ((s2 (kfF rs) rs.length v (v + 1) : Nat) + (s2 (kfF rs) rs.length v v : Nat))
          replace X := X.far (c := (w.heap.size + 1 + 1)) (by omega) (v + 1) (.int .i64 ((s2 (kfF rs) rs.length v (v + 1) : Nat) + (s2 (kfF rs) rs.length v v : Nat)))
          replace Y := Y.far (c := (w.heap.size + 1 + 1)) (by omega) (v + 1) (.int .i64 ((s2 (kfF rs) rs.length v (v + 1) : Nat) + (s2 (kfF rs) rs.length v v : Nat)))
          replace K := (K.setCell (p := ⟨(w.heap.size + 1 + 1), v + 1, none⟩) (by simp; omega) (.int .i64 ((s2 (kfF rs) rs.length v (v + 1) : Nat) + (s2 (kfF rs) rs.length v v : Nat)))).drew
          clear R
          go_wp2_with fail
          go_region
          all_goals (
            go_wp2
            go_roundw
            case rel => exact ⟨v + 1, by omega, by go_num, X, Y, R2.congr (fun j _ => by have := HST.out j; rw [← this]; split <;> simp), K⟩
            case measure => simp [intOf]; omega)
        · obtain rfl : v = ps.length := by omega
          clear hlt hvl
          obtain ⟨x0, x1, -, -⟩ := X.cells
          replace R : IRow wr (w.heap.size + 1 + 1) (ps.length + 1) (fun j => (cL (kfF rs) rs.length j : Nat)) := R.congr (fun j hj => by rw [s2_all _ _ _ _ (by omega)])
          have hmk2 := HMK2.out
          have b0 := below1 wr (.cells (madeCells #[.int .i64 0] rs.length) 3)
          have L := IRow.made wr rs.length
          go_wp2_with fail
          clear x0 x1 hmk2
          have hS := R.lt
          have hgl := L.lt
          have hYl := Y.lt
          replace X := X.below b0
          replace Y := Y.below b0
          replace R := R.below b0
          replace K := K.trans (b0.mono K.size)
          have RI := R.ints (n := ps.length + 1) (off := 0) (by omega)
          have hlen : ((List.range (ps.length + 1)).map fun j => ((cL (kfF rs) rs.length (0 + j) : Nat) : Int)).length = ps.length + 1 := by simp
          generalize hzs : ((List.range (ps.length + 1)).map fun j => ((cL (kfF rs) rs.length (0 + j) : Nat) : Int)) = zs at RI hlen
          have hzg : ∀ j, j < ps.length + 1 → zg zs j = ((cL (kfF rs) rs.length j : Nat) : Int) := fun j hj => by rw [← hzs]; simp [zg, hj]
          have HZ := Lib.hid hzg
          clear hzg hzs
          rw [← hlen]
          refine (cloneInts_some _ _ _ zs _ (by omega) RI).mono ?_; rintro e w2 ⟨v', rfl, own, hnn, b2⟩
          obtain ⟨g, cap, rfl, hg, G⟩ := IRow.own own hnn
          rw [hlen] at G ⊢
          rw [World.size_alloc] at hg
          replace X := X.below b2
          replace Y := Y.below b2
          replace R := R.below b2
          replace L := L.below b2
          replace K := K.trans (b2.mono K.size)
          replace G : IRow w2 g (ps.length + 1) (fun j => (s3 (kfF rs) rs.length 0 j : Nat)) := G.congr (fun j hj => by rw [HZ.out j hj]; unfold s3; rw [cE_zero]; simp)
          have hLL : (w.heap.size + 1 + 1) < wr.heap.size := hS
          obtain ⟨lb, hlb⟩ : ∃ lb, lb = wr.heap.size := ⟨_, rfl⟩
          rw [← hlb] at L hg hLL ⊢
          clear hlb own hnn b0 b2 RI HZ hS hgl hYl
          obtain ⟨x0, x1, -, -⟩ := X.cells
          go_wp2
          clear x0 x1
          go_loopw [62] (fun i wr => ∃ k : Nat, k ≤ rs.length ∧ i = .int .i64 k ∧ Pair wr w.heap.size 32 (.slice A ps.length ca) (.slice B rs.length cb) ∧ Quad wr (w.heap.size + 1) 91 (.slice none 0 0) (.slice none 0 0) (.slice none 0 0) (.slice none 0 0) ∧ IRow wr (w.heap.size + 1 + 1) (ps.length + 1) (fun j => (cL (kfF rs) rs.length j : Nat)) ∧ IRow wr lb rs.length (placed (kfF rs) rs.length k) ∧ IRow wr g (ps.length + 1) (fun j => (s3 (kfF rs) rs.length k j : Nat)) ∧ Below w.heap.size w wr) (fun i _ => rs.length - (intOf i).toNat)
          case atStart => exact ⟨0, by omega, rfl, X, Y, R, L.congr (fun j _ => rfl), G, K⟩
          case round =>
            clear X Y K R L G
            obtain ⟨k, hkl, rfl, X, Y, R, L, G, K⟩ := hrel
            by_cases hlt : k < rs.length
            · obtain ⟨b, off, rfl, -, c0, c1, c2⟩ := (hb.below K).at_ hlt
              have hq := HK.out k hlt
              obtain ⟨q, hqq⟩ : ∃ q : Nat, (arg rs k).1 = (q : Int) := ⟨((arg rs k).1).toNat, by omega⟩
              have hqk : kfF rs k = q := by unfold kfF; rw [hqq]; rfl
              have hqn : q < ps.length := by omega
              have HST := Lib.hid (fun j => s3_step (kfF rs) rs.length k j)
              have HPL := Lib.hid (fun j => placed_step (kfF rs) rs.length k j)
              have hP : s3 (kfF rs) rs.length k q < rs.length := by have := pos_lt' (kfF rs) hlt; unfold pos at this; unfold s3; rw [hqk] at this; exact this
              rw [hqk] at HST HPL
              rw [hqq] at c0
              have b0 := below1 wr (.cells #[.int .i64 (q : Int), .int .i64 (arg rs k).2.1, .int .i64 (arg rs k).2.2] 75)
              have AB : ArcBox (wr.alloc (.cells #[.int .i64 (q : Int), .int .i64 (arg rs k).2.1, .int .i64 (arg rs k).2.2] 75)) wr.heap.size (q : Int) (arg rs k).2.1 (arg rs k).2.2 := arc_new wr _ _ _ _
              have hlb := L.lt
              have hgl := G.lt
              clear hqq hq hqk
              go_wp2_with fail
              refine (fromOf_any _ _ _ _).mono ?_; rintro e w3 ⟨rfl, b3⟩
              replace X := (X.below b0).below b3
              replace Y := (Y.below b0).below b3
              replace R := (R.below b0).below b3
              replace L := (L.below b0).below b3
              replace G := (G.below b0).below b3
              replace AB := AB.below b3
              replace K := (K.trans (b0.mono K.size)).trans (b3.mono (Nat.le_trans K.size b0.size))
              clear b0 b3 c0 c1 c2
              have hcg := G.cell (i := q) (by omega)
              have hcl := L.cell (i := s3 (kfF rs) rs.length k q) hP
              have hfl := L.frozen (s3 (kfF rs) rs.length k q)
              have L2 := L.set (s3 (kfF rs) rs.length k q) k
              replace X := X.far (c := lb) (by omega) (s3 (kfF rs) rs.length k q) (.int .i64 k)
              replace Y := Y.far (c := lb) (by omega) (s3 (kfF rs) rs.length k q) (.int .i64 k)
              replace R := R.far (c := lb) (by omega) (s3 (kfF rs) rs.length k q) (.int .i64 k)
              replace G := G.far (c := lb) (by omega) (s3 (kfF rs) rs.length k q) (.int .i64 k)
              replace AB := AB.far (c := lb) (by omega) (s3 (kfF rs) rs.length k q) (.int .i64 k)
              replace K := K.setCell (p := ⟨lb, s3 (kfF rs) rs.length k q, none⟩) (by simp; omega) (.int .i64 k)
              clear L
              obtain ⟨a0, a1, a2⟩ := AB.cells
              go_wp2_with fail
              clear a0 a1 a2 hcg hcl hfl AB
              refine (fromOf_any _ _ _ _).mono ?_; rintro e w4 ⟨rfl, b4⟩
              replace X := X.below b4
              replace Y := Y.below b4
              replace R := R.below b4
              replace L2 := L2.below b4
              replace G := G.below b4
              replace K := K.trans (b4.mono K.size)
              clear b4
              have hcg := G.cell (i := q) (by omega)
              have hfg := G.frozen q
              have G2 := G.set q ((s3 (kfF rs) rs.length k q : Nat) + 1)
              replace X := X.far (c := g) (by omega) q (.int .i64 ((s3 (kfF rs) rs.length k q : Nat) + 1))
              replace Y := Y.far (c := g) (by omega) q (.int .i64 ((s3 (kfF rs) rs.length k q : Nat) + 1))
              replace R := R.far (c := g) (by omega) q (.int .i64 ((s3 (kfF rs) rs.length k q : Nat) + 1))
              replace L2 := L2.far (c := g) (by omega) q (.int .i64 ((s3 (kfF rs) rs.length k q : Nat) + 1))
              replace K := K.setCell (p := ⟨g, q, none⟩) (by simp; omega) (.int .i64 ((s3 (kfF rs) rs.length k q : Nat) + 1))
              clear G
              go_wp2
              go_roundw
              case rel => exact ⟨k + 1, by omega, by go_num, X, Y, R, L2.congr (fun j _ => HPL.out j), G2.congr (fun j _ => by have := HST.out j; rw [← this]; split <;> simp), K⟩
              case measure => simp [intOf]; omega
            · obtain rfl : k = rs.length := by omega
              clear hlt hkl
              obtain ⟨x0, x1, -, -⟩ := X.cells
              obtain ⟨⟨y0, y1, y2, y3⟩, z0, z1, z2, z3⟩ := Y.cells
              have hr := R.lt
              go_wp2
              refine bodyPost_ret (v := .agg #[.slice A ps.length ca, .slice B rs.length cb, .slice (some ⟨(w.heap.size + 1 + 1), 0, none⟩) (ps.length + 1) (ps.length + 1), .slice (some ⟨lb, 0, none⟩) rs.length rs.length]) (by simp [results, Try.results63, go_sem, y0, y1, y2, y3]) rfl ⟨_, _, rfl, by omega, by omega, ?_, ?_, ?_⟩
              · exact (((R.far (by omega) _ _).far (by omega) _ _).far (by omega) _ _).far (by omega) _ _
              · exact (((L.far (by omega) _ _).far (by omega) _ _).far (by omega) _ _).far (by omega) _ _
              · exact (((K.setCell (by simp) _).setCell (by simp) _).setCell (by simp) _).setCell (by simp) _

set_option maxHeartbeats 4000000 in
theorem rowsT_any (A B : Option Addr) (ca cb : Nat) (ps : List (Int × Int)) (rs : List (Int × Int × Int)) (w : World) (hn : ps.length ≤ 20) (hm : rs.length ≤ 70) (hb : IsArcs w B rs) (hk : ∀ i, i < rs.length → 0 ≤ (arg rs i).2.1 ∧ (arg rs i).2.1 < ps.length) :
    Calls Try.prog 63 #[.agg #[.slice A ps.length ca, .slice B rs.length cb], .func (.func 64) #[] #[]] w (RowsMade w A B ps.length ca rs.length cb (kfT rs)) := by
  have hmk1 := run_make_row' (P := Try.prog) 40 3 (.int .i64 0) 8 Try.underlying40 Try.infoInt rfl .i64 .i64 (ps.length + 1) (by omega) (by omega)
  rw [show (((ps.length + 1 : Nat)) : Int) = (ps.length : Int) + 1 from by omega] at hmk1
  have hmk2 := run_make_row' (P := Try.prog) 40 3 (.int .i64 0) 8 Try.underlying40 Try.infoInt rfl .i64 .i64 rs.length (by omega) (by omega)
  have HMK2 := Lib.hid hmk2
  clear hmk2
  have HK := Lib.hid hk
  clear hk
  obtain ⟨W, hW⟩ : ∃ W, W = (w.alloc (.cells #[.slice A ps.length ca, .slice B rs.length cb] 32)).alloc (.cells #[.slice none 0 0, .slice none 0 0, .slice none 0 0, .slice none 0 0] 91) := ⟨_, rfl⟩
  have X : Pair W w.heap.size 32 (.slice A ps.length ca) (.slice B rs.length cb) := by rw [hW]; exact (Pair.new w _ _ _).alloc _
  have Y : Quad W (w.heap.size + 1) 91 (.slice none 0 0) (.slice none 0 0) (.slice none 0 0) (.slice none 0 0) := by rw [hW]; have := Quad.new (w.alloc (.cells #[.slice A ps.length ca, .slice B rs.length cb] 32)) 91 (.slice none 0 0) (.slice none 0 0) (.slice none 0 0) (.slice none 0 0); rwa [World.size_alloc] at this
  have K : Below w.heap.size w W := by rw [hW]; exact below2 _ _ _
  have hWs : W.heap.size = w.heap.size + 1 + 1 := by rw [hW]; simp
  have R := IRow.made W (ps.length + 1)
  rw [hWs] at R
  replace X := X.alloc (.cells (madeCells #[.int .i64 0] (ps.length + 1)) 3)
  replace Y := Y.alloc (.cells (madeCells #[.int .i64 0] (ps.length + 1)) 3)
  replace K := K.alloc K.size (.cells (madeCells #[.int .i64 0] (ps.length + 1)) 3)
  rw [hW] at X Y K R
  clear hW hWs W
  go_enter Try.func63, Try.ntmps63
  go_wp2
  clear hmk1
  go_loopw [21] (fun i wr => ∃ k : Nat, k ≤ rs.length ∧ i = .int .i64 k ∧ Pair wr w.heap.size 32 (.slice A ps.length ca) (.slice B rs.length cb) ∧ Quad wr (w.heap.size + 1) 91 (.slice none 0 0) (.slice none 0 0) (.slice none 0 0) (.slice none 0 0) ∧ IRow wr (w.heap.size + 1 + 1) (ps.length + 1) (fun j => (s1 (kfT rs) k j : Nat)) ∧ Below w.heap.size w wr) (fun i _ => rs.length - (intOf i).toNat)
  case atStart => exact ⟨0, by omega, rfl, X, Y, R.congr (fun j _ => by rw [s1_zero]; rfl), K⟩
  case round =>
    clear X Y K R
    obtain ⟨k, hkl, rfl, X, Y, R, K⟩ := hrel
    by_cases hlt : k < rs.length
    · obtain ⟨b, off, rfl, -, c0, c1, c2⟩ := (hb.below K).at_ hlt
      have hq := HK.out k hlt
      obtain ⟨q, hqq⟩ : ∃ q : Nat, (arg rs k).2.1 = (q : Int) := ⟨((arg rs k).2.1).toNat, by omega⟩
      have hqk : kfT rs k = q := by unfold kfT; rw [hqq]; rfl
      have hqn : q < ps.length := by omega
      have HST := Lib.hid (fun j => s1_step (kfT rs) k j)
      rw [hqk] at HST
      rw [hqq] at c1
      have b0 := below1 wr (.cells #[.int .i64 (arg rs k).1, .int .i64 (q : Int), .int .i64 (arg rs k).2.2] 75)
      clear hqq hq hqk
      go_wp2_with fail
      refine (toOf_any _ _ _ _).mono ?_; rintro e w1 ⟨rfl, b1⟩
      replace X := (X.below b0).below b1
      replace Y := (Y.below b0).below b1
      replace R := (R.below b0).below b1
      replace K := (K.trans (b0.mono K.size)).trans (b1.mono (Nat.le_trans K.size b0.size))
      clear b0 b1 c0 c1 c2
      have hcr := R.cell (i := q + 1) (by omega)
      have hfr := R.frozen (q + 1)
      have hsl := s1_le (kfT rs) k (q + 1)
      have R2 := R.set (q + 1) ((s1 (kfT rs) k (q + 1) : Nat) + 1)
      replace X := X.far (c := (w.heap.size + 1 + 1)) (by omega) (q + 1) (.int .i64 ((s1 (kfT rs) k (q + 1) : Nat) + 1))
      replace Y := Y.far (c := (w.heap.size + 1 + 1)) (by omega) (q + 1) (.int .i64 ((s1 (kfT rs) k (q + 1) : Nat) + 1))
      replace K := K.setCell (p := ⟨(w.heap.size + 1 + 1), q + 1, none⟩) (by simp; omega) (.int .i64 ((s1 (kfT rs) k (q + 1) : Nat) + 1))
      clear R
      go_wp2
      go_roundw
      case rel => exact ⟨k + 1, by omega, by go_num, X, Y, R2.congr (fun j _ => by have := HST.out j; rw [← this]; split <;> simp), K⟩
      case measure => simp [intOf]; omega
    · obtain rfl : k = rs.length := by omega
      clear hlt hkl
      obtain ⟨x0, x1, -, -⟩ := X.cells
      go_wp2
      clear x0 x1
      go_loopw [38] (fun i wr => ∃ k : Nat, k ≤ ps.length ∧ i = .int .i64 k ∧ Pair wr w.heap.size 32 (.slice A ps.length ca) (.slice B rs.length cb) ∧ Quad wr (w.heap.size + 1) 91 (.slice none 0 0) (.slice none 0 0) (.slice none 0 0) (.slice none 0 0) ∧ IRow wr (w.heap.size + 1 + 1) (ps.length + 1) (fun j => (s2 (kfT rs) rs.length k j : Nat)) ∧ Below w.heap.size w wr) (fun i _ => ps.length - (intOf i).toNat)
      case atStart => exact ⟨0, by omega, rfl, X, Y, R.congr (fun j _ => by rw [s2_zero]), K⟩
      case round =>
        clear X Y K R
        obtain ⟨v, hvl, rfl, X, Y, R, K⟩ := hrel
        by_cases hlt : v < ps.length
        · have hc1 := R.cell (i := v + 1) (by omega)
          have hc0 := R.cell (i := v) (by omega)
          have hf1 := R.frozen (v + 1)
          have l1 := s2_le (kfT rs) rs.length v (v + 1)
          have l0 := s2_le (kfT rs) rs.length v v
          have HST := Lib.hid (fun j => s2_step (kfT rs) rs.length v j)
          have R2 := R.set (v + 1) ((s2 (kfT rs) rs.length v (v + 1) : Nat) + (s2 (kfT rs) rs.length v v : Nat))
          replace X := X.far (c := (w.heap.size + 1 + 1)) (by omega) (v + 1) (.int .i64 ((s2 (kfT rs) rs.length v (v + 1) : Nat) + (s2 (kfT rs) rs.length v v : Nat)))
          replace Y := Y.far (c := (w.heap.size + 1 + 1)) (by omega) (v + 1) (.int .i64 ((s2 (kfT rs) rs.length v (v + 1) : Nat) + (s2 (kfT rs) rs.length v v : Nat)))
          replace K := (K.setCell (p := ⟨(w.heap.size + 1 + 1), v + 1, none⟩) (by simp; omega) (.int .i64 ((s2 (kfT rs) rs.length v (v + 1) : Nat) + (s2 (kfT rs) rs.length v v : Nat)))).drew
          clear R
          go_wp2_with fail
          go_region
          all_goals (
            go_wp2
            go_roundw
            case rel => exact ⟨v + 1, by omega, by go_num, X, Y, R2.congr (fun j _ => by have := HST.out j; rw [← this]; split <;> simp), K⟩
            case measure => simp [intOf]; omega)
        · obtain rfl : v = ps.length := by omega
          clear hlt hvl
          obtain ⟨x0, x1, -, -⟩ := X.cells
          replace R : IRow wr (w.heap.size + 1 + 1) (ps.length + 1) (fun j => (cL (kfT rs) rs.length j : Nat)) := R.congr (fun j hj => by rw [s2_all _ _ _ _ (by omega)])
          have hmk2 := HMK2.out
          have b0 := below1 wr (.cells (madeCells #[.int .i64 0] rs.length) 3)
          have L := IRow.made wr rs.length
          go_wp2_with fail
          clear x0 x1 hmk2
          have hS := R.lt
          have hgl := L.lt
          have hYl := Y.lt
          replace X := X.below b0
          replace Y := Y.below b0
          replace R := R.below b0
          replace K := K.trans (b0.mono K.size)
          have RI := R.ints (n := ps.length + 1) (off := 0) (by omega)
          have hlen : ((List.range (ps.length + 1)).map fun j => ((cL (kfT rs) rs.length (0 + j) : Nat) : Int)).length = ps.length + 1 := by simp
          generalize hzs : ((List.range (ps.length + 1)).map fun j => ((cL (kfT rs) rs.length (0 + j) : Nat) : Int)) = zs at RI hlen
          have hzg : ∀ j, j < ps.length + 1 → zg zs j = ((cL (kfT rs) rs.length j : Nat) : Int) := fun j hj => by rw [← hzs]; simp [zg, hj]
          have HZ := Lib.hid hzg
          clear hzg hzs
          rw [← hlen]
          refine (cloneInts_some _ _ _ zs _ (by omega) RI).mono ?_; rintro e w2 ⟨v', rfl, own, hnn, b2⟩
          obtain ⟨g, cap, rfl, hg, G⟩ := IRow.own own hnn
          rw [hlen] at G ⊢
          rw [World.size_alloc] at hg
          replace X := X.below b2
          replace Y := Y.below b2
          replace R := R.below b2
          replace L := L.below b2
          replace K := K.trans (b2.mono K.size)
          replace G : IRow w2 g (ps.length + 1) (fun j => (s3 (kfT rs) rs.length 0 j : Nat)) := G.congr (fun j hj => by rw [HZ.out j hj]; unfold s3; rw [cE_zero]; simp)
          have hLL : (w.heap.size + 1 + 1) < wr.heap.size := hS
          obtain ⟨lb, hlb⟩ : ∃ lb, lb = wr.heap.size := ⟨_, rfl⟩
          rw [← hlb] at L hg hLL ⊢
          clear hlb own hnn b0 b2 RI HZ hS hgl hYl
          obtain ⟨x0, x1, -, -⟩ := X.cells
          go_wp2
          clear x0 x1
          go_loopw [62] (fun i wr => ∃ k : Nat, k ≤ rs.length ∧ i = .int .i64 k ∧ Pair wr w.heap.size 32 (.slice A ps.length ca) (.slice B rs.length cb) ∧ Quad wr (w.heap.size + 1) 91 (.slice none 0 0) (.slice none 0 0) (.slice none 0 0) (.slice none 0 0) ∧ IRow wr (w.heap.size + 1 + 1) (ps.length + 1) (fun j => (cL (kfT rs) rs.length j : Nat)) ∧ IRow wr lb rs.length (placed (kfT rs) rs.length k) ∧ IRow wr g (ps.length + 1) (fun j => (s3 (kfT rs) rs.length k j : Nat)) ∧ Below w.heap.size w wr) (fun i _ => rs.length - (intOf i).toNat)
          case atStart => exact ⟨0, by omega, rfl, X, Y, R, L.congr (fun j _ => rfl), G, K⟩
          case round =>
            clear X Y K R L G
            obtain ⟨k, hkl, rfl, X, Y, R, L, G, K⟩ := hrel
            by_cases hlt : k < rs.length
            · obtain ⟨b, off, rfl, -, c0, c1, c2⟩ := (hb.below K).at_ hlt
              have hq := HK.out k hlt
              obtain ⟨q, hqq⟩ : ∃ q : Nat, (arg rs k).2.1 = (q : Int) := ⟨((arg rs k).2.1).toNat, by omega⟩
              have hqk : kfT rs k = q := by unfold kfT; rw [hqq]; rfl
              have hqn : q < ps.length := by omega
              have HST := Lib.hid (fun j => s3_step (kfT rs) rs.length k j)
              have HPL := Lib.hid (fun j => placed_step (kfT rs) rs.length k j)
              have hP : s3 (kfT rs) rs.length k q < rs.length := by have := pos_lt' (kfT rs) hlt; unfold pos at this; unfold s3; rw [hqk] at this; exact this
              rw [hqk] at HST HPL
              rw [hqq] at c1
              have b0 := below1 wr (.cells #[.int .i64 (arg rs k).1, .int .i64 (q : Int), .int .i64 (arg rs k).2.2] 75)
              have AB : ArcBox (wr.alloc (.cells #[.int .i64 (arg rs k).1, .int .i64 (q : Int), .int .i64 (arg rs k).2.2] 75)) wr.heap.size (arg rs k).1 (q : Int) (arg rs k).2.2 := arc_new wr _ _ _ _
              have hlb := L.lt
              have hgl := G.lt
              clear hqq hq hqk
              go_wp2_with fail
              refine (toOf_any _ _ _ _).mono ?_; rintro e w3 ⟨rfl, b3⟩
              replace X := (X.below b0).below b3
              replace Y := (Y.below b0).below b3
              replace R := (R.below b0).below b3
              replace L := (L.below b0).below b3
              replace G := (G.below b0).below b3
              replace AB := AB.below b3
              replace K := (K.trans (b0.mono K.size)).trans (b3.mono (Nat.le_trans K.size b0.size))
              clear b0 b3 c0 c1 c2
              have hcg := G.cell (i := q) (by omega)
              have hcl := L.cell (i := s3 (kfT rs) rs.length k q) hP
              have hfl := L.frozen (s3 (kfT rs) rs.length k q)
              have L2 := L.set (s3 (kfT rs) rs.length k q) k
              replace X := X.far (c := lb) (by omega) (s3 (kfT rs) rs.length k q) (.int .i64 k)
              replace Y := Y.far (c := lb) (by omega) (s3 (kfT rs) rs.length k q) (.int .i64 k)
              replace R := R.far (c := lb) (by omega) (s3 (kfT rs) rs.length k q) (.int .i64 k)
              replace G := G.far (c := lb) (by omega) (s3 (kfT rs) rs.length k q) (.int .i64 k)
              replace AB := AB.far (c := lb) (by omega) (s3 (kfT rs) rs.length k q) (.int .i64 k)
              replace K := K.setCell (p := ⟨lb, s3 (kfT rs) rs.length k q, none⟩) (by simp; omega) (.int .i64 k)
              clear L
              obtain ⟨a0, a1, a2⟩ := AB.cells
              go_wp2_with fail
              clear a0 a1 a2 hcg hcl hfl AB
              refine (toOf_any _ _ _ _).mono ?_; rintro e w4 ⟨rfl, b4⟩
              replace X := X.below b4
              replace Y := Y.below b4
              replace R := R.below b4
              replace L2 := L2.below b4
              replace G := G.below b4
              replace K := K.trans (b4.mono K.size)
              clear b4
              have hcg := G.cell (i := q) (by omega)
              have hfg := G.frozen q
              have G2 := G.set q ((s3 (kfT rs) rs.length k q : Nat) + 1)
              replace X := X.far (c := g) (by omega) q (.int .i64 ((s3 (kfT rs) rs.length k q : Nat) + 1))
              replace Y := Y.far (c := g) (by omega) q (.int .i64 ((s3 (kfT rs) rs.length k q : Nat) + 1))
              replace R := R.far (c := g) (by omega) q (.int .i64 ((s3 (kfT rs) rs.length k q : Nat) + 1))
              replace L2 := L2.far (c := g) (by omega) q (.int .i64 ((s3 (kfT rs) rs.length k q : Nat) + 1))
              replace K := K.setCell (p := ⟨g, q, none⟩) (by simp; omega) (.int .i64 ((s3 (kfT rs) rs.length k q : Nat) + 1))
              clear G
              go_wp2
              go_roundw
              case rel => exact ⟨k + 1, by omega, by go_num, X, Y, R, L2.congr (fun j _ => HPL.out j), G2.congr (fun j _ => by have := HST.out j; rw [← this]; split <;> simp), K⟩
              case measure => simp [intOf]; omega
            · obtain rfl : k = rs.length := by omega
              clear hlt hkl
              obtain ⟨x0, x1, -, -⟩ := X.cells
              obtain ⟨⟨y0, y1, y2, y3⟩, z0, z1, z2, z3⟩ := Y.cells
              have hr := R.lt
              go_wp2
              refine bodyPost_ret (v := .agg #[.slice A ps.length ca, .slice B rs.length cb, .slice (some ⟨(w.heap.size + 1 + 1), 0, none⟩) (ps.length + 1) (ps.length + 1), .slice (some ⟨lb, 0, none⟩) rs.length rs.length]) (by simp [results, Try.results63, go_sem, y0, y1, y2, y3]) rfl ⟨_, _, rfl, by omega, by omega, ?_, ?_, ?_⟩
              · exact (((R.far (by omega) _ _).far (by omega) _ _).far (by omega) _ _).far (by omega) _ _
              · exact (((L.far (by omega) _ _).far (by omega) _ _).far (by omega) _ _).far (by omega) _ _
              · exact (((K.setCell (by simp) _).setCell (by simp) _).setCell (by simp) _).setCell (by simp) _

end Go.Proofs.Ytcaamhoakhgnhaa
