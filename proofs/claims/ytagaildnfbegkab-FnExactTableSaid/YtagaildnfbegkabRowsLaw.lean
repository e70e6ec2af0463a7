/-
  Rows of numbers as the laws look at them: a slice of structs that hold one slice of numbers each.
-/
import Derived.Test.YtagaildnfbegkabMarks
import Derived.Test.YtagaildnfbegkabSlices
import Derived.Test.YtagaildnfbegkabNetLaws
import Derived.Test.YtagaildnfbegkabNetSpec
import Derived.Deep.RegionHeld3
namespace Go.Proofs.Ytagaildnfbegkab
open Go.RowKit Go.Deep

/-- n rows of m numbers in memory between lo and hi, no two in one block. -/
structure RowsIs (w : World) (lo hi g off n m : Nat) (A : Nat → Option Addr) (c : Nat → Nat) (f : Nat → Nat → Int) : Prop where
  lt : g < w.heap.size
  low : lo ≤ g ∧ g < hi
  cell : ∀ i, i < n → w.cell? ⟨g, off + i, none⟩ = some (.slice (A i) m (c i))
  own : ∀ i, i < n → OwnSl w lo 3 (A i) m (f i)
  inn : ∀ i, i < n → ∀ b, blk (A i) m = some b → lo ≤ b ∧ b < hi ∧ b ≠ g
  sep : ∀ i j, i < n → j < n → i ≠ j → ∀ b, blk (A i) m = some b → blk (A j) m ≠ some b
section
variable {w w' : World} {lo hi g off n m : Nat} {A : Nat → Option Addr} {c : Nat → Nat} {f : Nat → Nat → Int}
theorem RowsIs.of_block (h : RowsIs w lo hi g off n m A c f) (e : ∀ b, lo ≤ b → b < hi → b < w.heap.size → w'.heap[b]? = w.heap[b]?) (hs : w.heap.size ≤ w'.heap.size) : RowsIs w' lo hi g off n m A c f :=
  ⟨Nat.lt_of_lt_of_le h.lt hs, h.low, fun i hi' => (World.cell?_of_block (w := w) (a := ⟨g, off + i, none⟩) (e g h.low.1 h.low.2 h.lt)).trans (h.cell i hi'), fun i hi' => (h.own i hi').of_block (fun b eb hb => e b (h.inn i hi' b eb).1 (h.inn i hi' b eb).2.1 hb), h.inn, h.sep⟩
theorem RowsIs.below (h : RowsIs w lo hi g off n m A c f) (hb : Below w.heap.size w w') : RowsIs w' lo hi g off n m A c f := h.of_block (fun b _ _ hl => hb.block b hl) hb.size
theorem RowsIs.drewN (h : RowsIs w lo hi g off n m A c f) (k : Nat) : RowsIs (w.drewN k) lo hi g off n m A c f := h.of_block (fun _ _ _ _ => rfl) (Nat.le_refl _)
end
/-- .. where there are any. -/
def Rows (w : World) (lo hi : Nat) (R : Option Addr) (n m : Nat) (f : Nat → Nat → Int) : Prop := 0 < n → ∃ g off A c, R = some ⟨g, off, none⟩ ∧ RowsIs w lo hi g off n m A c f
theorem Rows.of_block {w w' : World} {lo hi n m : Nat} {R : Option Addr} {f : Nat → Nat → Int} (h : Rows w lo hi R n m f) (e : ∀ b, lo ≤ b → b < hi → b < w.heap.size → w'.heap[b]? = w.heap[b]?) (hs : w.heap.size ≤ w'.heap.size) : Rows w' lo hi R n m f := fun hp => by
  obtain ⟨g, off, A, c, e1, h⟩ := h hp
  exact ⟨g, off, A, c, e1, h.of_block e hs⟩
theorem Rows.below {w w' : World} {lo hi n m : Nat} {R : Option Addr} {f : Nat → Nat → Int} (h : Rows w lo hi R n m f) (hb : Below w.heap.size w w') : Rows w' lo hi R n m f := h.of_block (fun b _ _ hl => hb.block b hl) hb.size

theorem eqIntS_atF (A B : Option Addr) (ca cb m : Nat) (f : Nat → Int) (lo lo' : Nat) (w : World) (hm : m ≤ 1048576) (ha : OwnSl w lo 3 A m f) (hb : OwnSl w lo' 3 B m f) :
    Calls Try.prog 15 #[.slice A m ca, .slice B m cb] w fun e w' => e = .returned (.bool true) ∧ ∃ n, w' = w.drewN n := by
  have hl : ((List.range m).map f).length = m := by simp
  have hz : ∀ i, i < m → zg ((List.range m).map f) i = f i := fun i hi => by unfold zg; simp [hi]
  have e1 : IsInts w A ((List.range m).map f) := fun hp => by
    rw [hl] at hp
    obtain ⟨g, off, rfl, -, ho⟩ := ha hp
    exact ⟨g, off, rfl, ho.lt, fun i hi => by rw [hl] at hi; rw [hz i hi]; exact ho.cell hi⟩
  have e2 : IsInts w B ((List.range m).map f) := fun hp => by
    rw [hl] at hp
    obtain ⟨g, off, rfl, -, ho⟩ := hb hp
    exact ⟨g, off, rfl, ho.lt, fun i hi => by rw [hl] at hi; rw [hz i hi]; exact ho.cell hi⟩
  have h := eqIntS_same A B ca cb ((List.range m).map f) w (by rw [hl]; exact hm) e1 e2
  rw [hl] at h
  exact h
theorem eqRow_same (A B : Option Addr) (ca cb m : Nat) (f : Nat → Int) (lo lo' : Nat) (w : World) (hm : m ≤ 1048576) (ha : OwnSl w lo 3 A m f) (hb : OwnSl w lo' 3 B m f) :
    Calls Try.prog 57 #[.agg #[.slice A m ca], .agg #[.slice B m cb]] w fun e w' => e = .returned (.bool true) ∧ Below w.heap.size w w' := by
  have K := below2 w (.cells #[.slice A m ca] 80) (.cells #[.slice B m cb] 80)
  have X := heap_alloc_new w (.cells #[.slice A m ca] 80)
  have x0 : ((w.alloc (.cells #[.slice A m ca] 80)).alloc (.cells #[.slice B m cb] 80)).cell? ⟨w.heap.size, 0, none⟩ = some (.slice A m ca) := cell_under (below1 _ _) (cell_of_block X)
  have y0 : ((w.alloc (.cells #[.slice A m ca] 80)).alloc (.cells #[.slice B m cb] 80)).cell? ⟨w.heap.size + 1, 0, none⟩ = some (.slice B m cb) := by
    have h := heap_alloc_new (w.alloc (.cells #[.slice A m ca] 80)) (.cells #[.slice B m cb] 80)
    rw [World.size_alloc] at h
    exact cell_of_block h
  go_enter Try.func57, Try.ntmps57
  go_wp2_with fail
  refine (eqIntS_atF A B ca cb m f lo lo' _ hm (ha.below K) (hb.below K)).mono ?_; rintro e w1 ⟨rfl, kk, rfl⟩
  go_wp2
  go_ret
  exact ⟨rfl, below_drewN K _⟩
/-- The i-th rows of two slices, and nothing older has turned. -/
abbrev RwS (W0 : World) (g o h p : Nat) (u v : Value) (w : World) : Prop := w.cell? ⟨g, o, none⟩ = some u ∧ w.cell? ⟨h, p, none⟩ = some v ∧ Below W0.heap.size W0 w
theorem RwS.under {W0 w w' : World} {g o h p : Nat} {u v : Value} (hb : Below w.heap.size w w') (k : RwS W0 g o h p u v w) : RwS W0 g o h p u v w' := ⟨cell_under hb k.1, cell_under hb k.2.1, k.2.2.trans (hb.mono k.2.2.size)⟩
theorem RwS.drew {W0 w : World} {g o h p : Nat} {u v : Value} (k : RwS W0 g o h p u v w) : RwS W0 g o h p u v w.drew := RwS.under (Below.refl _ _).drew k

set_option maxHeartbeats 4000000 in
theorem eqRowS_same (R S : Option Addr) (cr cs n m lo hi lo' hi' : Nat) (f : Nat → Nat → Int) (w : World) (hn : n ≤ 1048576) (hm : m ≤ 1048576) (ha : Rows w lo hi R n m f) (hb : Rows w lo' hi' S n m f) :
    Calls Try.prog 29 #[.slice R n cr, .slice S n cs] w fun e w' => e = .returned (.bool true) ∧ Below w.heap.size w w' := by
  go_enter Try.func29, Try.ntmps29
  go_wp2
  go_loopw [5] (fun i wr => ∃ k : Nat, k ≤ n ∧ i = .int .i64 k ∧ Below w.heap.size w wr) (fun i _ => n - (intOf i).toNat)
  case atStart => exact ⟨0, by omega, rfl, Below.refl _ _⟩
  case round =>
    obtain ⟨k, hk, rfl, K⟩ := hrel
    by_cases hlt : k < n
    · obtain ⟨g, off, A, c, rfl, RA⟩ := (ha.below K) (by omega)
      obtain ⟨g', off', A', c', rfl, RB⟩ := (hb.below K) (by omega)
      have T : RwS wr g (off + k) g' (off' + k) (.slice (A k) m (c k)) (.slice (A' k) m (c' k)) wr := ⟨RA.cell k hlt, RB.cell k hlt, Below.refl _ _⟩
      have HA := Lib.hid (fun V (b : Below wr.heap.size wr V) => ((RA.below b).own k hlt))
      have HB := Lib.hid (fun V (b : Below wr.heap.size wr V) => ((RB.below b).own k hlt))
      have hki : (k : Int) < n := by omega
      clear RA RB
      generalize A k = Ak at *
      generalize A' k = Bk at *
      generalize c k = ck at *
      generalize c' k = dk at *
      generalize f k = fk at *
      go_wp2_with fail
      go_region_held3 (fun w' => RwS wr g (off + k) g' (off' + k) (.slice Ak m ck) (.slice Bk m dk) w')
        (first | exact RwS.drew T | assumption | (refine RwS.under (by assumption) ?_; assumption))
        (first | (go_at_call 57; refine (eqRow_same Ak Bk ck dk m fk lo lo' _ hm (HA.out _ (And.right (And.right (by assumption)))) (HB.out _ (And.right (And.right (by assumption))))).mono ?_; rintro e w1 ⟨rfl, b1⟩))
      rename_i hU
      have K2 := K.trans (hU.2.2.mono K.size)
      go_wp2
      go_roundw
      case rel => exact ⟨k + 1, by omega, by go_num, K2⟩
      case measure => simp [intOf]; omega
    · go_wp2
      go_ret
      exact ⟨rfl, K⟩

/-- All but what lies from lo to hi is as it was. -/
structure FarR (lo hi : Nat) (w w' : World) : Prop where
  os : w'.os = w.os
  tape : w'.tape = w.tape
  output : w'.output = w.output
  size : w.heap.size ≤ w'.heap.size
  block : ∀ g, g < w.heap.size → (g < lo ∨ hi ≤ g) → w'.heap[g]? = w.heap[g]?
theorem FarR.refl (lo hi : Nat) (w : World) : FarR lo hi w w := ⟨rfl, rfl, rfl, Nat.le_refl _, fun _ _ _ => rfl⟩
theorem FarR.then {lo hi : Nat} {w w1 w2 : World} {r : Option Nat} (h : FarR lo hi w w1) (g : w1.grownBy w2 r) (hr : ∀ b, r = some b → lo ≤ b ∧ b < hi) : FarR lo hi w w2 :=
  ⟨g.os.trans h.os, g.tape.trans h.tape, g.output.trans h.output, Nat.le_trans h.size g.size, fun b hb ho => (g.block b (Nat.lt_of_lt_of_le hb h.size) (fun e => by have := hr b e.symm; omega)).trans (h.block b hb ho)⟩
/-- The numbers that marking lays: the first j rows are marked. -/
def mkF (k : Int) (m : Nat) (f : Nat → Nat → Int) (j : Nat) : Nat → Nat → Int := fun i x => if i < j then k + (i * m : Nat) + x else f i x
theorem RowsIs.mark {w w1 : World} {lo hi g off n m : Nat} {A : Nat → Option Addr} {c : Nat → Nat} {f : Nat → Nat → Int} {k : Int} {j : Nat} (h : RowsIs w lo hi g off n m A c (mkF k m f j)) (hj : j < n)
    (O : OwnSl w1 lo 3 (A j) m (fun x => k + (j * m : Nat) + x)) (G : w.grownBy w1 (blk (A j) m)) : RowsIs w1 lo hi g off n m A c (mkF k m f (j + 1)) := by
  have hg : w1.heap[g]? = w.heap[g]? := G.block g h.lt (fun e => (h.inn j hj g e.symm).2.2 rfl)
  refine ⟨Nat.lt_of_lt_of_le h.lt G.size, h.low, fun i hi' => (World.cell?_of_block (w := w) (a := ⟨g, off + i, none⟩) hg).trans (h.cell i hi'), fun i hi' => ?_, h.inn, h.sep⟩
  by_cases e : i = j
  · subst e
    have : mkF k m f (i + 1) i = fun x : Nat => k + ((i * m : Nat) : Int) + (x : Int) := by funext x; unfold mkF; rw [if_pos (by omega)]
    rw [this]; exact O
  · have : mkF k m f (j + 1) i = mkF k m f j i := by
      funext x; unfold mkF
      by_cases q : i < j
      · rw [if_pos q, if_pos (by omega)]
      · rw [if_neg q, if_neg (by omega)]
    rw [this]
    exact (h.own i hi').of_block (fun b eb hb => G.block b hb (fun e' => h.sep i j hi' hj e b eb e'.symm))

set_option maxHeartbeats 4000000 in
theorem markRowS_any (R : Option Addr) (cr n m lo hi : Nat) (f : Nat → Nat → Int) (k : Int) (w : World) (hn : n ≤ 20) (hm : m ≤ 20) (hk : 0 ≤ k ∧ k ≤ 1000000) (ha : Rows w lo hi R n m f) :
    Calls Try.prog 30 #[.slice R n cr, .int .i64 k] w fun e w' => e = .returned (.int .i64 (k + (n * m : Nat))) ∧ Rows w' lo hi R n m (fun i x => k + (i * m : Nat) + x) ∧ FarR lo hi w w' := by
  rcases Nat.eq_zero_or_pos n with rfl | hp
  · go_enter Try.func30, Try.ntmps30
    go_wp2
    refine wp_loop_rounds 1 ?_; rw [rounds_succ]
    go_wp2
    go_ret
    exact ⟨by simp, fun h => by omega, FarR.refl _ _ _⟩
  · obtain ⟨g, off, A, c, rfl, RA⟩ := ha hp
    have R0 : RowsIs w lo hi g off n m A c (mkF k m f 0) := RA
    go_enter Try.func30, Try.ntmps30
    go_wp2
    go_loopw [1, 5] (fun q i wr => ∃ j : Nat, j ≤ n ∧ i = .int .i64 j ∧ q = .int .i64 (k + (j * m : Nat)) ∧ RowsIs wr lo hi g off n m A c (mkF k m f j) ∧ FarR lo hi w wr) (fun _ i _ => n - (intOf i).toNat)
    case atStart => exact ⟨0, by omega, rfl, by simp, R0, FarR.refl _ _ _⟩
    case round =>
      clear R0 RA
      obtain ⟨j, hj, rfl, rfl, RR, FR⟩ := hrel
      by_cases hlt : j < n
      · have hji : (j : Int) < n := by omega
        have hjm : j * m ≤ 20 * 20 := Nat.mul_le_mul (by omega) hm
        have c0 := RR.cell j hlt
        have OJ := RR.own j hlt
        have HI := Lib.hid (RR.inn j hlt)
        obtain ⟨kk, hkk⟩ : ∃ kk : Int, kk = k + (j * m : Nat) := ⟨_, rfl⟩
        have hb : 0 ≤ kk ∧ kk ≤ 100000000 := by omega
        have HKK := Lib.hid hkk
        rw [← hkk]
        clear hkk
        go_wp2_with fail
        refine (markIntS_any _ lo (A j) m (c j) _ kk (by omega) hb OJ).mono ?_; rintro e w1 ⟨rfl, O1, G, hsz⟩
        rw [HKK.out] at O1
        have RR1 := RR.mark hlt O1 G
        have FR1 := FR.then G (fun b e => ⟨(HI.out b e).1, (HI.out b e).2.1⟩)
        have hq : kk + (m : Nat) = k + ((j + 1) * m : Nat) := by rw [HKK.out, Nat.succ_mul]; omega
        have HQ := Lib.hid hq
        clear O1 G hsz RR FR OJ c0 hq
        go_wp2
        go_roundw
        case rel => exact ⟨j + 1, by omega, by go_num, congrArg (Value.int .i64) HQ.out, RR1, FR1⟩
        case measure => simp [intOf]; omega
      · obtain rfl : j = n := by omega
        have RE : Rows w lo hi (some ⟨g, off, none⟩) j m f := ha
        have hfin : ∀ i, i < j → mkF k m f j i = fun x : Nat => k + ((i * m : Nat) : Int) + (x : Int) := fun i hi' => by funext x; unfold mkF; rw [if_pos hi']
        have HF : Hid (Rows wr lo hi (some ⟨g, off, none⟩) j m (fun i x => k + (i * m : Nat) + x)) := Lib.hid (fun _ => ⟨g, off, A, c, rfl, RR.lt, RR.low, RR.cell, fun i hi' => by rw [← hfin i hi']; exact RR.own i hi', RR.inn, RR.sep⟩)
        clear RR RE hfin
        go_wp2
        go_ret
        exact ⟨rfl, HF.out, FR⟩

set_option maxHeartbeats 4000000 in
theorem heldRowS_any (R : Option Addr) (cr n m lo hi : Nat) (k : Int) (w : World) (hn : n ≤ 20) (hm : m ≤ 20) (hk : 0 ≤ k ∧ k ≤ 1000000) (ha : Rows w lo hi R n m (fun i x => k + (i * m : Nat) + x)) :
    Calls Try.prog 31 #[.slice R n cr, .int .i64 k] w fun e w' => e = .returned (.int .i64 (k + (n * m : Nat))) ∧ w = w' := by
  rcases Nat.eq_zero_or_pos n with rfl | hp
  · go_enter Try.func31, Try.ntmps31
    go_wp2
    refine wp_loop_rounds 1 ?_; rw [rounds_succ]
    go_wp2
    go_ret
    exact ⟨by simp, rfl⟩
  · obtain ⟨g, off, A, c, rfl, RA⟩ := ha hp
    have HC := Lib.hid RA.cell
    have HO := Lib.hid RA.own
    clear RA
    go_enter Try.func31, Try.ntmps31
    go_wp2
    go_loopw [1, 5] (fun q i wr => ∃ j : Nat, j ≤ n ∧ i = .int .i64 j ∧ q = .int .i64 (k + (j * m : Nat)) ∧ wr = w) (fun _ i _ => n - (intOf i).toNat)
    case atStart => exact ⟨0, by omega, rfl, by simp, rfl⟩
    case round =>
      obtain ⟨j, hj, rfl, rfl, rfl⟩ := hrel
      by_cases hlt : j < n
      · have hji : (j : Int) < n := by omega
        have hjm : j * m ≤ 20 * 20 := Nat.mul_le_mul (by omega) hm
        have c0 := HC.out j hlt
        have OJ := HO.out j hlt
        obtain ⟨kk, hkk⟩ : ∃ kk : Int, kk = k + (j * m : Nat) := ⟨_, rfl⟩
        have hb : 0 ≤ kk ∧ kk ≤ 100000000 := by omega
        have hnn : ¬ (kk + (m : Nat) < 0) := by omega
        have hnd : decide (kk + (m : Nat) < 0) = false := decide_eq_false hnn
        have hq : kk + (m : Nat) = k + ((j + 1) * m : Nat) := by rw [hkk, Nat.succ_mul]; omega
        have HQ := Lib.hid hq
        rw [← hkk] at OJ ⊢
        clear hkk hq
        go_wp2_with fail
        refine (heldIntS_any _ lo (A j) m (c j) kk (by omega) hb OJ).mono ?_; rintro e w1 ⟨rfl, rfl⟩
        clear OJ c0
        go_wp2
        go_roundw
        case rel => exact ⟨j + 1, by omega, by go_num, congrArg (Value.int .i64) HQ.out, by first | rfl | trivial⟩
        case measure => simp [intOf]; omega
      · obtain rfl : j = n := by omega
        go_wp2
        go_ret
        exact ⟨rfl, rfl⟩

end Go.Proofs.Ytagaildnfbegkab
