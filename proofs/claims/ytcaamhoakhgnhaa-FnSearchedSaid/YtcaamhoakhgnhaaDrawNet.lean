/-
  What the draws of networks leave: a network of the call's own, whatever its numbers.
-/
import Derived.Test.YtcaamhoakhgnhaaTurn
import Derived.Test.YtcaamhoakhgnhaaDrawPts
import Derived.Test.YtcaamhoakhgnhaaPtMath
import Derived.Deep.AppendLies
import Derived.Deep.RegionLaw
import Derived.Deep.RegionHeld3
namespace Go.Proofs.Ytcaamhoakhgnhaa
open Go.RowKit Go.Deep

/-- What 'size' leaves: a number of 0..16. -/
def Sized (w : World) (c : Nat) (A : Option Addr) (len cap m : Nat) (e : Ending) (w' : World) : Prop :=
  ∃ v : Int, e = .returned (.int .i64 v) ∧ 0 ≤ v ∧ v ≤ 16 ∧ CurAt w' c A len cap (m + 1) ∧ w.grownBy w' (some c)

theorem size_any (w : World) (c : Nat) (A : Option Addr) (len cap m : Nat) (hm : m ≤ 1000000) (h : CurAt w c A len cap m) :
    Calls Try.prog 96 #[.pointer (some ⟨c, 0, none⟩), .int .i64 16] w (Sized w c A len cap m) := by
  have hcur := h
  obtain ⟨at_, seed, hb, -, -, -, -, -, hlen⟩ := h
  have c0 : w.cell? ⟨c, 0, none⟩ = some (.slice A len cap) := by rw [cell_of_block hb]; rfl
  have hq : (len : Int).tdiv 8 = ((len / 8 : Nat) : Int) := by rw [Int.tdiv_eq_ediv_of_nonneg (by omega)]; omega
  clear hb
  by_cases hk : 1 + len / 8 ≤ 16
  · have hd : ¬ ((16 : Int) < 1 + ((len / 8 : Nat) : Int)) := by omega
    have hd' : decide ((16 : Int) < 1 + ((len / 8 : Nat) : Int)) = false := decide_eq_false hd
    have hw1 : IntKind.i64.wrap (1 + ((len / 8 : Nat) : Int)) = 1 + ((len / 8 : Nat) : Int) := IntWalk.i64_in _ (by omega)
    have hw2 : IntKind.i64.wrap (1 + ((len / 8 : Nat) : Int) + 1) = 1 + ((len / 8 : Nat) : Int) + 1 := IntWalk.i64_in _ (by omega)
    go_enter Try.func96, Try.ntmps96
    go_wp2_with fail
    refine (pick_any _ c A len cap m _ (by omega) hcur (by omega)).mono ?_
    rintro e w1 ⟨v, rfl, hv0, hv1, -, k1, g1, -⟩
    have hv2 := hv1 (by omega)
    clear hv1
    go_wp2
    go_ret
    exact ⟨v, rfl, hv0, by omega, k1, g1⟩
  · have hd : (16 : Int) < 1 + ((len / 8 : Nat) : Int) := by omega
    have hd' : decide ((16 : Int) < 1 + ((len / 8 : Nat) : Int)) = true := decide_eq_true hd
    have hw1 : IntKind.i64.wrap (1 + ((len / 8 : Nat) : Int)) = 1 + ((len / 8 : Nat) : Int) := IntWalk.i64_in _ (by omega)
    go_enter Try.func96, Try.ntmps96
    go_wp2_with fail
    refine (pick_any _ c A len cap m _ (by omega) hcur (by omega)).mono ?_
    rintro e w1 ⟨v, rfl, hv0, hv1, -, k1, g1, -⟩
    have hv2 := hv1 (by omega)
    clear hv1
    go_wp2
    go_ret
    exact ⟨v, rfl, hv0, by omega, k1, g1⟩

theorem putA_small {l : List A3} {a : A3} (hl : ∀ x ∈ l, Small x) (ha : Small a) : ∀ x ∈ putA l a, Small x := by
  induction l with
  | nil => intro x hx; simp [putA] at hx; rw [hx]; exact ha
  | cons y r ih =>
    intro x hx
    have hy := hl y (by simp)
    have hr := fun z hz => hl z (List.mem_cons_of_mem _ hz)
    rw [putA] at hx
    split at hx
    · rcases List.mem_cons.1 hx with rfl | hx
      · exact hy
      · exact ih hr x hx
    · split at hx
      · rcases List.mem_cons.1 hx with rfl | hx
        · exact ha
        · exact hr x hx
      · rcases List.mem_cons.1 hx with rfl | hx
        · exact ha
        · exact hl x hx
theorem putA_le (l : List A3) (a : A3) : (putA l a).length ≤ l.length + 1 := by
  induction l with
  | nil => simp [putA]
  | cons y r ih =>
    rw [putA]
    split
    · simp only [List.length_cons]; omega
    · split <;> simp
/-- The cells of a literal slice of one point. -/
theorem cells2_new (w : World) (p : Int × Int) (t : TypeId) : ∀ j u, (cellsP [p])[j]? = some u → (w.alloc (.cells #[.int .i64 p.1, .int .i64 p.2] t)).cell? ((⟨w.heap.size, 0, none⟩ : Addr).add j) = some u := by
  intro j u hj
  have hlt : j < 2 := by have := (List.getElem?_eq_some_iff.1 hj).1; rw [cellsP_len] at this; simpa using this
  rw [Addr.add_lit, cell_of_block (heap_alloc_new w _), ← hj]
  match j, hlt with
  | 0, _ => rfl
  | 1, _ => rfl

/-- A network that is being drawn: n's box in block ob, the result's in rb, both new; the cursor in c. -/
def NB (w : World) (c rb ob : Nat) (C : Option Addr) (len cap m : Nat) (NV V : Value) (ps : List (Int × Int)) (rs : List A3) (wr : World) : Prop :=
  CurAt wr c C len cap m ∧ w.grownBy wr (some c) ∧ Pair wr rb 32 (.slice none 0 0) (.slice none 0 0) ∧ Pair wr ob 32 NV V ∧
  wr.ownsRow (ob + 1) 85 2 NV ps.length (cellsP ps) ∧ wr.ownsRow (ob + 1) 75 3 V rs.length (cellsA rs) ∧ ∀ g, NV.ownBlock = some g → V.ownBlock ≠ some g

theorem grown_new {a w w' : World} {row r : Option Nat} (h : a.grownBy w row) (k : w.grownBy w' r) (hr : ∀ g, r = some g → a.heap.size ≤ g) : a.grownBy w' row :=
  ⟨k.os.trans h.os, k.tape.trans h.tape, k.output.trans h.output, Nat.le_trans h.size k.size, fun b hb hne => (k.block b (Nat.lt_of_lt_of_le hb h.size) (fun e => by have := hr b e.symm; omega)).trans (h.block b hb hne)⟩
theorem OwnSl.ptsD {w : World} {base : Nat} {A : Option Addr} {cap : Nat} {ps : List (Int × Int)} (h : w.ownsRow base 85 2 (.slice A ps.length cap) ps.length (cellsP ps)) : IsPts w A ps := fun hp => by
  obtain ⟨A', cap', e, -, hA⟩ := ownP_is h
  obtain ⟨g, rfl, -, ho⟩ := hA hp
  injection e with e1 e2 e3
  subst e1
  exact ⟨g, 0, rfl, ho.lt, fun i hi => ⟨by rw [ho.cell (i := i * 2) (by omega), flatP_0], by rw [show 0 + i * 2 + 1 = 0 + (i * 2 + 1) by omega, ho.cell (i := i * 2 + 1) (by omega), flatP_1]⟩⟩
theorem CurAt.below {w w' : World} {c : Nat} {A : Option Addr} {len cap m : Nat} (h : CurAt w c A len cap m) (hb : Below w.heap.size w w') : CurAt w' c A len cap m :=
  h.later (row := none) ⟨hb.os, hb.tape, hb.output, hb.size, fun k hk _ => hb.block k hk⟩ (fun g e => by cases e)
/-- What l03Put leaves of arcs that are being drawn. -/
def ArcsDrawn (w : World) (n : Nat) (e : Ending) (w' : World) : Prop :=
  ∃ (VA : Option Addr) (cV : Nat) (rs1 : List A3), e = .returned (.slice VA rs1.length cV) ∧ rs1.length ≤ n + 1 ∧ (∀ x ∈ rs1, Small x) ∧ w'.ownsRow w.heap.size 75 3 (.slice VA rs1.length cV) rs1.length (cellsA rs1) ∧ Below w.heap.size w w'
theorem put_drawn {w : World} {base : Nat} {V : Value} {rs : List A3} (h : w.ownsRow base 75 3 V rs.length (cellsA rs)) (hm : rs.length ≤ 1000) (hs : ∀ x ∈ rs, Small x) (u v : Nat) (L : Int) (hu : u ≤ 1000) (hv : v ≤ 1000) :
    Calls Try.prog 60 #[V, .agg #[.int .i64 (u : Int), .int .i64 (v : Int), .int .i64 L]] w (ArcsDrawn w rs.length) := by
  have hsa : Small ((u : Int), (v : Int), L) := ⟨by simp, by simp; omega, by simp, by simp; omega⟩
  refine (l03Put_own h ((u : Int), (v : Int), L) hm hs hsa).mono ?_
  rintro e w' ⟨v5, rfl, own5, b5⟩
  obtain ⟨VA, cV, rfl, -⟩ := ownA_is own5
  exact ⟨VA, cV, _, rfl, putA_le _ _, putA_small hs hsa, own5, b5⟩
/-- What the distance of two drawn nodes reads. -/
abbrev DistS (ob : Nat) (nv : Value) (g u v : Nat) (a b c d : Int) (w : World) : Prop :=
  w.cell? ⟨ob, 0, none⟩ = some nv ∧ w.cell? ⟨g, u * 2, none⟩ = some (.int .i64 a) ∧ w.cell? ⟨g, u * 2 + 1, none⟩ = some (.int .i64 b) ∧ w.cell? ⟨g, v * 2, none⟩ = some (.int .i64 c) ∧ w.cell? ⟨g, v * 2 + 1, none⟩ = some (.int .i64 d)
theorem cell_only {w w' : World} {r : Option Nat} {b i : Nat} {v : Value} (hg : w.grownBy w' r) (h : w.cell? ⟨b, i, none⟩ = some v) (hr : r ≠ some b) : w'.cell? ⟨b, i, none⟩ = some v := by
  have hb : b < w.heap.size := by simpa using World.block_lt_of_cell? w _ h
  exact (World.cell?_of_block (w := w) (a := ⟨b, i, none⟩) (hg.block b hb (fun e => hr e.symm))).trans h
section
variable {ob : Nat} {nv : Value} {g u v : Nat} {a b c d : Int} {w w' : World}
theorem DistS.under (hb : Below w.heap.size w w') (h : DistS ob nv g u v a b c d w) : DistS ob nv g u v a b c d w' := ⟨cell_under hb h.1, cell_under hb h.2.1, cell_under hb h.2.2.1, cell_under hb h.2.2.2.1, cell_under hb h.2.2.2.2⟩
theorem DistS.drew (h : DistS ob nv g u v a b c d w) : DistS ob nv g u v a b c d w.drew := h
theorem DistS.only {r : Option Nat} (hg : w.grownBy w' r) (h1 : r ≠ some ob) (h2 : r ≠ some g) (h : DistS ob nv g u v a b c d w) : DistS ob nv g u v a b c d w' := ⟨cell_only hg h.1 h1, cell_only hg h.2.1 h2, cell_only hg h.2.2.1 h2, cell_only hg h.2.2.2.1 h2, cell_only hg h.2.2.2.2 h2⟩
end
/-- What a draw of a network leaves. -/
def NetDrawn (w : World) (c : Nat) (C : Option Addr) (len cap m : Nat) (e : Ending) (w' : World) : Prop :=
  ∃ (NV V : Value) (ps : List (Int × Int)) (rs : List A3), e = .returned (.agg #[NV, V]) ∧ 2 ≤ ps.length ∧ ps.length ≤ 8 ∧ rs.length ≤ 40 ∧ w'.ownsRow w.heap.size 85 2 NV ps.length (cellsP ps) ∧ w'.ownsRow w.heap.size 75 3 V rs.length (cellsA rs) ∧ (∀ g, NV.ownBlock = some g → V.ownBlock ≠ some g) ∧
    CurAt w' c C len cap (m + 1000) ∧ w.grownBy w' (some c)
theorem cellsP_append (a b : List (Int × Int)) : cellsP (a ++ b) = cellsP a ++ cellsP b := List.flatMap_append

set_option maxRecDepth 100000 in
set_option maxHeartbeats 4000000 in
theorem net_any (w : World) (c : Nat) (C : Option Addr) (len cap m : Nat) (hm : m ≤ 100000) (h : CurAt w c C len cap m) :
    Calls Try.prog 71 #[.pointer (some ⟨c, 0, none⟩)] w (NetDrawn w c C len cap m) := by
  obtain ⟨i0, hi, hz0, hz1, hz2⟩ := info_parts Try.infoPt
  have hcl := h.lt
  have k0 := (h.alloc (.cells #[.slice none 0 0, .slice none 0 0] 32)).alloc (.cells #[.slice none 0 0, .slice none 0 0] 32)
  have R0 := (Pair.new w 32 (.slice none 0 0) (.slice none 0 0)).alloc (.cells #[.slice none 0 0, .slice none 0 0] 32)
  have Q0 : Pair ((w.alloc (.cells #[.slice none 0 0, .slice none 0 0] 32)).alloc (.cells #[.slice none 0 0, .slice none 0 0] 32)) (w.heap.size + 1) 32 (.slice none 0 0) (.slice none 0 0) := by
    have := Pair.new (w.alloc (.cells #[.slice none 0 0, .slice none 0 0] 32)) 32 (.slice none 0 0) (.slice none 0 0); rwa [World.size_alloc] at this
  have G0 := only_alloc (only_alloc (World.grownBy.refl w (some c)) (.cells #[.slice none 0 0, .slice none 0 0] 32)) (.cells #[.slice none 0 0, .slice none 0 0] 32)
  go_enter Try.func71, Try.ntmps71
  go_wp2_with fail
  refine (pick_any _ c C len cap m 7 (by omega) k0 (by omega)).mono ?_
  rintro e w1 ⟨n1, rfl, hn0, hn1, -, k1, g1, -⟩
  have hn2 := hn1 (by omega)
  clear hn1
  replace R0 := R0.grown' g1 (fun g e => by injection e with e; omega)
  replace Q0 := Q0.grown' g1 (fun g e => by injection e with e; omega)
  replace G0 := only_trans G0 g1
  clear g1 k0
  go_wp2
  go_loopw [4] (fun i wr => ∃ (k : Nat) (NV : Value) (ps : List (Int × Int)), k + ps.length ≤ 8 ∧ 2 ≤ k + ps.length ∧ i = .int .i64 k ∧ NB w c w.heap.size (w.heap.size + 1) C len cap (m + 1 + 2 * (8 - k)) NV (.slice none 0 0) ps [] wr) (fun i _ => (intOf i).toNat)
  case atStart =>
    obtain ⟨k, rfl⟩ : ∃ k : Nat, n1 = (k : Int) := ⟨n1.toNat, by omega⟩
    exact ⟨k + 2, .slice none 0 0, [], by simp; omega, by simp, congrArg (Value.int .i64) (by omega), k1.more (by omega), G0, R0, Q0, World.ownsRow_nil _ _ _ _, World.ownsRow_nil _ _ _ _, fun g e => by simp [Value.ownBlock] at e⟩
  case round =>
    clear k1 G0 R0 Q0 hn0 hn2
    obtain ⟨k, NV, ps, hk1, hk2, rfl, k1, G, R, Q, own, ownA, -⟩ := hrel
    have ql := Q.lt
    by_cases hk0 : 0 < k
    · obtain ⟨j, hj⟩ : ∃ j, j + 1 = k := ⟨k - 1, by omega⟩
      have ej : IntKind.i64.wrap ((k : Int) - 1) = j := by rw [show (k : Int) - 1 = j by omega]; exact IntWalk.i64_in _ (by omega)
      have hd0 : decide ((0 : Int) < k) = true := decide_eq_true (by omega)
      obtain ⟨NA, nc, rfl, -, -⟩ := ownP_is own
      replace k1 : CurAt wr.drew c C len cap (m + 1 + 2 * (8 - k)) := k1
      replace R : Pair wr.drew w.heap.size 32 (.slice none 0 0) (.slice none 0 0) := R
      replace Q : Pair wr.drew (w.heap.size + 1) 32 (.slice NA ps.length nc) (.slice none 0 0) := Q
      replace own : wr.drew.ownsRow (w.heap.size + 1 + 1) 85 2 (.slice NA ps.length nc) ps.length (cellsP ps) := own
      replace G : w.grownBy wr.drew (some c) := ⟨G.os, G.tape, G.output, G.size, G.block⟩
      have qd := Q.cells.1
      have qld : w.heap.size + 1 < wr.drew.heap.size := ql
      go_wp2_with fail
      go_region_law (first
        | (refine step_append_lies _ rfl (.tmp 18) (.tmp 26) 29 rfl (w.heap.size + 1 + 1) 85 i0 (.agg #[.int .i64 0, .int .i64 0]) 2 16 Try.underlying29 hi hz0 hz1 hz2 rfl (by decide) _ ps.length _ rfl (own2.alloc _) ⟨w2.heap.size, 0, none⟩ 1 1 (cellsP [(IntKind.i64.wrap (10 * v1), IntKind.i64.wrap (10 * v2))]) rfl rfl (cells2_new _ (IntKind.i64.wrap (10 * v1), IntKind.i64.wrap (10 * v2)) _) (cellsP_one _) (by decide) (by unfold maxLen; omega) (by omega) (by rw [World.size_alloc]; have := g1.size; have := g2.size; omega) _ rfl ?_; intro g6 cap6 w6 own6 gr6 hg6 hl6; have Q6 := Q3.grownUp gr6 (fun g e => by have := ownsRow_block own2 g e; omega); obtain ⟨q60, q61, q62, q63⟩ := Q6.cells)
        | (go_simp; go_at_call 73; refine (pick_at _ c C len cap _ 6 k1 (by omega) (by omega)).mono ?_; rintro e w1 ⟨v1, rfl, hv10, hv11, -, kk1, g1, -⟩; have Q1 := Q.grown' g1 (fun g e => by injection e with e; omega); have q1 := Q1.cells.1; have own1 := ownsRow_only own g1 (by omega))
        | (go_simp; go_at_call 73; refine (pick_at _ c C len cap _ 6 kk1 (by omega) (by omega)).mono ?_; rintro e w2 ⟨v2, rfl, hv20, hv21, -, kk2, g2, -⟩; have Q2 := Q1.grown' g2 (fun g e => by injection e with e; omega); have q2 := Q2.cells.1; have own2 := ownsRow_only own1 g2 (by omega); have Q3 := Q2.alloc (.cells #[.int .i64 (IntKind.i64.wrap (10 * v1)), .int .i64 (IntKind.i64.wrap (10 * v2))] 85); have q3 := Q3.cells.1))
      all_goals (
        have hbk := ownsRow_block own2
        have kd := (kk2.alloc (.cells #[.int .i64 (IntKind.i64.wrap (10 * v1)), .int .i64 (IntKind.i64.wrap (10 * v2))] 85)).later gr6 (fun g e => by have := hbk g e; omega)
        have Rd := ((R.grown' g1 (fun g e => by injection e with e; omega)).grown' g2 (fun g e => by injection e with e; omega)).alloc (.cells #[.int .i64 (IntKind.i64.wrap (10 * v1)), .int .i64 (IntKind.i64.wrap (10 * v2))] 85)
        replace Rd := Rd.grownUp gr6 (fun g e => by have := hbk g e; omega)
        have Gd := grown_new (only_alloc (only_trans (only_trans G g1) g2) (.cells #[.int .i64 (IntKind.i64.wrap (10 * v1)), .int .i64 (IntKind.i64.wrap (10 * v2))] 85)) gr6 (fun g e => by have := hbk g e; omega)
        have own7 : w6.ownsRow (w.heap.size + 1 + 1) 85 2 (.slice (some ⟨g6, 0, none⟩) (ps.length + 1) cap6) (ps ++ [(IntKind.i64.wrap (10 * v1), IntKind.i64.wrap (10 * v2))]).length (cellsP (ps ++ [(IntKind.i64.wrap (10 * v1), IntKind.i64.wrap (10 * v2))])) := by rw [cellsP_append, List.length_append]; exact own6
        clear q60 q61 q62 q63 Q Q1 q1 Q2 q2 Q3 q3 own own1 own2 own6 gr6 g1 g2 k1 kk1 kk2 R G qd hbk
        replace kd := kd.set (b := w.heap.size + 1) (i := 0) (by omega) (.slice (some ⟨g6, 0, none⟩) (ps.length + 1) cap6)
        replace Rd := Rd.far (c := w.heap.size + 1) (by omega) 0 (.slice (some ⟨g6, 0, none⟩) (ps.length + 1) cap6)
        replace Q6 := Q6.set0 (.slice (some ⟨g6, 0, none⟩) (ps.length + 1) cap6)
        replace Gd := only_set Gd (b := w.heap.size + 1) (i := 0) (by omega) (.slice (some ⟨g6, 0, none⟩) (ps.length + 1) cap6)
        replace own7 := ownsRow_far (c := w.heap.size + 1) own7 (by omega) 0 (.slice (some ⟨g6, 0, none⟩) (ps.length + 1) cap6)
        go_wp2
        go_roundw
        case rel => exact ⟨j, _, ps ++ [(IntKind.i64.wrap (10 * v1), IntKind.i64.wrap (10 * v2))], by rw [List.length_append]; simp; omega, by rw [List.length_append]; simp; omega, by first | rfl | exact congrArg (Value.int .i64) (by omega), kd.more (by omega), Gd, Rd, Q6, own7, World.ownsRow_nil _ _ _ _, fun g _ e => by simp [Value.ownBlock] at e⟩
        case measure => simp [intOf]; omega)
    · obtain rfl : k = 0 := by omega
      obtain ⟨NA, nc, rfl, -, -⟩ := ownP_is own
      clear hk0
      replace hk1 : ps.length ≤ 8 := by omega
      replace hk2 : 2 ≤ ps.length := by omega
      obtain ⟨q0, q1, q2, q3⟩ := Q.cells
      go_wp2_with fail
      clear q0 q1 q2 q3
      refine (size_any _ c C len cap _ (by omega) k1).mono ?_
      rintro e w2 ⟨n2, rfl, hn20, hn21, k2, g2⟩
      replace R := R.grown' g2 (fun g e => by injection e with e; omega)
      replace Q := Q.grown' g2 (fun g e => by injection e with e; omega)
      replace own := ownsRow_only own g2 (by omega)
      replace G := only_trans G g2
      have IP : IsPts w2 NA ps := OwnSl.ptsD own
      clear g2 k1 ownA
      go_wp2
      go_loopw [5] (fun i wr => ∃ (k : Nat) (V : Value) (rs : List A3), k ≤ 18 ∧ rs.length ≤ 2 * (18 - k) ∧ (∀ x ∈ rs, Small x) ∧ i = .int .i64 k ∧ NB w c w.heap.size (w.heap.size + 1) C len cap (m + 40 + 5 * (18 - k)) (.slice NA ps.length nc) V ps rs wr) (fun i _ => (intOf i).toNat)
      case atStart =>
        obtain ⟨k, rfl⟩ : ∃ k : Nat, n2 = (k : Int) := ⟨n2.toNat, by omega⟩
        exact ⟨k + 2, .slice none 0 0, [], by omega, by simp, by simp, congrArg (Value.int .i64) (by omega), k2.more (by omega), G, R, Q, own, World.ownsRow_nil _ _ _ _, fun g _ e => by simp [Value.ownBlock] at e⟩
      case round =>
        clear k2 G R Q own hn20 hn21 IP
        obtain ⟨k, V, rs, hk18, hrl, hsm, rfl, k1, G, R, Q, own, ownA, hpt⟩ := hrel
        have HSM := Lib.hid hsm
        have HPT := Lib.hid hpt
        clear hsm hpt
        have ql := Q.lt
        by_cases hk0 : 0 < k
        · obtain ⟨j, hj⟩ : ∃ j, j + 1 = k := ⟨k - 1, by omega⟩
          have ej : IntKind.i64.wrap ((k : Int) - 1) = j := by rw [show (k : Int) - 1 = j by omega]; exact IntWalk.i64_in _ (by omega)
          have hd0 : decide ((0 : Int) < k) = true := decide_eq_true (by omega)
          have qd := Q.cells.1
          have k1d := k1.drew
          have HEJ := Lib.hid ej
          clear ej
          go_wp2_with fail
          go_region_held3 (fun w' => w'.cell? ⟨w.heap.size + 1, 0, none⟩ = some (.slice NA ps.length nc)) (first | exact qd | assumption)
            (first
              | (go_at_call 73; refine (pick_at _ c C len cap _ _ k1d (by omega) (by omega)).mono ?_; rintro e w3 ⟨v1, rfl, hv10, hv11, -, k3, g3, -⟩; have Q3 := (show Pair wr.drew (w.heap.size + 1) 32 (.slice NA ps.length nc) V from Q).grown' g3 (fun g e => by injection e with e; omega); have q3 := Q3.cells.1)
              | (go_at_call 73; refine (pick_at _ c C len cap _ _ k3 (by omega) (by omega)).mono ?_; rintro e w4 ⟨v2, rfl, hv20, hv21, -, k4, g4, -⟩; have Q4 := Q3.grown' g4 (fun g e => by injection e with e; omega); have q4 := Q4.cells.1))
          have hu := hv11 (by omega)
          have hv := hv21 (by omega)
          obtain ⟨u, rfl⟩ : ∃ u : Nat, v1 = (u : Int) := ⟨v1.toNat, by omega⟩
          obtain ⟨v, rfl⟩ : ∃ v : Nat, v2 = (v : Int) := ⟨v2.toNat, by omega⟩
          replace R := ((show Pair wr.drew w.heap.size 32 (.slice none 0 0) (.slice none 0 0) from R).grown' g3 (fun g e => by injection e with e; omega)).grown' g4 (fun g e => by injection e with e; omega)
          replace own := ownsRow_only (ownsRow_only (show wr.drew.ownsRow (w.heap.size + 1 + 1) 85 2 (.slice NA ps.length nc) ps.length (cellsP ps) from own) g3 (by omega)) g4 (by omega)
          replace ownA := ownsRow_only (ownsRow_only (show wr.drew.ownsRow (w.heap.size + 1 + 1) 75 3 V rs.length (cellsA rs) from ownA) g3 (by omega)) g4 (by omega)
          replace G := only_trans (only_trans (show w.grownBy wr.drew (some c) from ⟨G.os, G.tape, G.output, G.size, G.block⟩) g3) g4
          clear Q q3 Q3 k3 k1 k1d g3 g4 qd hv10 hv11 hv20 hv21 q4 ql
          have Q := Q4
          clear Q4
          have kc := k4
          clear k4
          by_cases huv : u = v
          · subst huv
            go_wp2
            have ej := HEJ.out
            go_roundw
            case rel => exact ⟨j, _, rs, by omega, by omega, HSM.out, by first | rfl | exact congrArg (Value.int .i64) (by omega), kc.more (by omega), G, R, Q, own, ownA, HPT.out⟩
            case measure => simp [intOf]; omega
          · have hne : ((u : Int) == (v : Int)) = false := by rw [beq_eq_false_iff_ne]; omega
            obtain ⟨NA', nc', eN, -, hNA⟩ := ownP_is own
            injection eN with e1 e2 e3
            subst e1 e3
            obtain ⟨ng, rfl, hng, ho⟩ := hNA (by omega)
            have ngl := ho.lt
            have T : DistS (w.heap.size + 1) (.slice (some ⟨ng, 0, none⟩) ps.length nc) ng u v (flatP ps (u * 2)) (flatP ps (u * 2 + 1)) (flatP ps (v * 2)) (flatP ps (v * 2 + 1)) w4 :=
              ⟨Q.cells.1, by have := ho.cell (i := u * 2) (by omega); rwa [Nat.zero_add] at this, by have := ho.cell (i := u * 2 + 1) (by omega); rwa [Nat.zero_add] at this, by have := ho.cell (i := v * 2) (by omega); rwa [Nat.zero_add] at this, by have := ho.cell (i := v * 2 + 1) (by omega); rwa [Nat.zero_add] at this⟩
            have kd := kc.drew
            clear ho hNA
            go_wp2_with fail
            go_region_held3 (fun w' => DistS (w.heap.size + 1) (.slice (some ⟨ng, 0, none⟩) ps.length nc) ng u v (flatP ps (u * 2)) (flatP ps (u * 2 + 1)) (flatP ps (v * 2)) (flatP ps (v * 2 + 1)) w') (first | exact DistS.drew T | assumption)
              (first
                | (go_at_call 97; refine (specDistOf_any _ _ _ _ _).mono ?_; rintro e w5 ⟨rfl, b5⟩; have k5 := kd.below b5; have S5 := DistS.under b5 (DistS.drew T))
                | (go_at_call 73; refine (pick_at _ c C len cap _ 4 k5 (by omega) (by omega)).mono ?_; rintro e w6 ⟨v3, rfl, hv30, hv31, -, k6, g6, -⟩; have S6 := DistS.only g6 (fun e => by injection e with e; omega) (fun e => by injection e with e; omega) S5))
            all_goals (
              have b5d : Below w4.heap.size w4 w5 := ⟨b5.os, b5.tape, b5.output, b5.size, b5.block⟩
              replace R := (R.below b5d).grown' g6 (fun g e => by injection e with e; omega)
              replace Q := (Q.below b5d).grown' g6 (fun g e => by injection e with e; omega)
              replace own := ownsRow_only (ownsRow_below own b5d) g6 (by omega)
              replace ownA := ownsRow_only (ownsRow_below ownA b5d) g6 (by omega)
              replace G := only_trans (grown_new (r := none) G ⟨b5d.os, b5d.tape, b5d.output, b5d.size, fun k hk _ => b5d.block k hk⟩ (fun g e => by cases e)) g6
              clear kd kc k5 S5 S6 T b5 b5d g6 hv30 hv31 hne
              have kc := k6
              clear k6
              obtain ⟨q0, q1, q2, q3⟩ := Q.cells
              have HPD := Lib.hid (fun L => put_drawn ownA (by omega) HSM.out u v L (by omega) (by omega))
              go_wp2_with fail
              clear q0 q1 q2 q3
              refine (HPD.out _).mono ?_; rintro e w7 ⟨VA1, cV1, rs1, rfl, hl1, hs1, ownN, b7⟩
              clear HPD HSM HPT ownA
              have HSM := Lib.hid hs1
              clear hs1
              have hwz := b7.size
              have hpt : ∀ g, (Value.slice (some ⟨ng, 0, none⟩) ps.length nc).ownBlock = some g → (Value.slice VA1 rs1.length cV1).ownBlock ≠ some g := fun g e e' => by have := (World.ownsRow.lt own g e).2; have := ownsRow_block ownN g e'; omega
              have HPT := Lib.hid hpt
              clear hpt
              have ql1 := Q.lt
              have ownA := ownsRow_base ownN (show w.heap.size + 1 + 1 ≤ w6.heap.size by omega)
              replace own := ownsRow_below own b7
              replace R := R.below b7
              replace Q := Q.below b7
              replace G := grown_new (r := none) G ⟨b7.os, b7.tape, b7.output, b7.size, fun k hk _ => b7.block k hk⟩ (fun g e => by cases e)
              have kc := kc.below b7
              clear b7 ownN
              obtain ⟨q0, q1, q2, q3⟩ := Q.cells
              replace R := R.far (c := w.heap.size + 1) (by omega) 1 (.slice VA1 rs1.length cV1)
              replace Q := Q.set1 (.slice VA1 rs1.length cV1)
              replace own := ownsRow_far (c := w.heap.size + 1) own (by omega) 1 (.slice VA1 rs1.length cV1)
              replace ownA := ownsRow_far (c := w.heap.size + 1) ownA (by omega) 1 (.slice VA1 rs1.length cV1)
              replace G := only_set G (b := w.heap.size + 1) (i := 1) (by omega) (.slice VA1 rs1.length cV1)
              replace kc := kc.set (b := w.heap.size + 1) (i := 1) (by omega) (.slice VA1 rs1.length cV1)
              have kq := kc
              go_wp2_with fail
              refine (pick_any _ c C len cap _ 3 (by omega) kq (by omega)).mono ?_
              rintro e w8 ⟨v4, rfl, hv40, hv41, -, k8, g8, -⟩
              replace R := R.grown' g8 (fun g e => by injection e with e; omega)
              replace Q := Q.grown' g8 (fun g e => by injection e with e; omega)
              replace own := ownsRow_only own g8 (by omega)
              replace ownA := ownsRow_only ownA g8 (by omega)
              replace G := only_trans G g8
              clear g8 kc kq q0 q1 q2 q3 hv41
              have kc := k8
              clear k8
              by_cases hv4 : 0 < v4
              · have hd4 : decide (0 < v4) = true := decide_eq_true hv4
                obtain ⟨q0, q1, q2, q3⟩ := Q.cells
                have HPD := Lib.hid (fun L => put_drawn ownA (by omega) HSM.out v u L (by omega) (by omega))
                go_wp2_with fail
                clear q0 q1 q2 q3
                refine (HPD.out _).mono ?_; rintro e w9 ⟨VA2, cV2, rs2, rfl, hl2, hs2, ownN, b9⟩
                clear HPD HSM HPT ownA
                have HSM := Lib.hid hs2
                clear hs2
                have hwz := b9.size
                have hpt : ∀ g, (Value.slice (some ⟨ng, 0, none⟩) ps.length nc).ownBlock = some g → (Value.slice VA2 rs2.length cV2).ownBlock ≠ some g := fun g e e' => by have := (World.ownsRow.lt own g e).2; have := ownsRow_block ownN g e'; omega
                have HPT := Lib.hid hpt
                clear hpt
                have ql2 := Q.lt
                have ownA := ownsRow_base ownN (show w.heap.size + 1 + 1 ≤ w8.heap.size by omega)
                replace own := ownsRow_below own b9
                replace R := R.below b9
                replace Q := Q.below b9
                replace G := grown_new (r := none) G ⟨b9.os, b9.tape, b9.output, b9.size, fun k hk _ => b9.block k hk⟩ (fun g e => by cases e)
                have kc := kc.below b9
                clear b9 ownN
                obtain ⟨q0, q1, q2, q3⟩ := Q.cells
                replace R := R.far (c := w.heap.size + 1) (by omega) 1 (.slice VA2 rs2.length cV2)
                replace Q := Q.set1 (.slice VA2 rs2.length cV2)
                replace own := ownsRow_far (c := w.heap.size + 1) own (by omega) 1 (.slice VA2 rs2.length cV2)
                replace ownA := ownsRow_far (c := w.heap.size + 1) ownA (by omega) 1 (.slice VA2 rs2.length cV2)
                replace G := only_set G (b := w.heap.size + 1) (i := 1) (by omega) (.slice VA2 rs2.length cV2)
                replace kc := kc.set (b := w.heap.size + 1) (i := 1) (by omega) (.slice VA2 rs2.length cV2)
                go_wp2
                have ej := HEJ.out
                go_roundw
                case rel => exact ⟨j, _, rs2, by omega, by omega, HSM.out, by first | rfl | exact congrArg (Value.int .i64) (by omega), kc.more (by omega), G, R, Q, own, ownA, HPT.out⟩
                case measure => simp [intOf]; omega
              · have hd4 : decide (0 < v4) = false := decide_eq_false hv4
                go_wp2
                have ej := HEJ.out
                go_roundw
                case rel => exact ⟨j, _, rs1, by omega, by omega, HSM.out, by first | rfl | exact congrArg (Value.int .i64) (by omega), kc.more (by omega), G, R, Q, own, ownA, HPT.out⟩
                case measure => simp [intOf]; omega)
        · obtain rfl : k = 0 := by omega
          clear hk0
          obtain ⟨r0, r1, r2, r3⟩ := R.cells
          obtain ⟨q0, q1, -, -⟩ := Q.cells
          obtain ⟨VA, cV, rfl, -⟩ := ownA_is ownA
          go_wp2
          refine bodyPost_ret (v := .agg #[.slice NA ps.length nc, .slice VA rs.length cV]) (by simp [results, Try.results71, go_sem, r0, r1]) rfl
            ⟨.slice NA ps.length nc, .slice VA rs.length cV, ps, rs, rfl, hk2, hk1, by omega, ?_, ?_, HPT.out, ?_, ?_⟩
          · exact ownsRow_base (ownsRow_far (c := w.heap.size) (ownsRow_far (c := w.heap.size) own (by omega) 0 _) (by omega) 1 _) (by omega)
          · exact ownsRow_base (ownsRow_far (c := w.heap.size) (ownsRow_far (c := w.heap.size) ownA (by omega) 0 _) (by omega) 1 _) (by omega)
          · exact ((k1.set (b := w.heap.size) (i := 0) hcl _).set (b := w.heap.size) (i := 1) hcl _).more (by omega)
          · exact only_set (only_set G (b := w.heap.size) (i := 0) (Nat.le_refl _) _) (b := w.heap.size) (i := 1) (Nat.le_refl _) _

end Go.Proofs.Ytcaamhoakhgnhaa
