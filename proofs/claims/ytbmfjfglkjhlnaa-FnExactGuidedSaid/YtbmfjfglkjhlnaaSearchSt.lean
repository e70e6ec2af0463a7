/-
  The state of spec.l06Search; what the stores leave when a node is settled.
-/
import Derived.Test.YtbmfjfglkjhlnaaSearchIm
namespace Go.Proofs.Ytbmfjfglkjhlnaa
open Go.RowKit Go.Deep Go.Maps

/-- Keys less the numbers of their nodes. -/
def dsL (zs : List Int) (L : List (Int × Int)) : List Int := L.map fun p => p.1 - zg zs p.2.toNat
theorem dsL_zero (n : Nat) (L : List (Int × Int)) : dsL (List.replicate n 0) L = keysL L := by
  unfold dsL keysL; refine List.map_congr_left fun p _ => ?_; rw [zg_zeros]; omega

/-- The state of a search. -/
structure SpW (w : World) (A B : Option Addr) (n ca cb : Nat) (rs : List A3) (zs : List Int) (V1 V2 : Value) (D : List (Int × Int)) (wr : World) : Prop where
  X : Pair wr w.heap.size 34 (.slice A n ca) (.slice B rs.length cb)
  R : Pair wr (w.heap.size + 1) 29 (.slice none 0 0) (.slice none 0 0)
  O : Pair wr (w.heap.size + 2) 29 V1 V2
  S : BRow wr (w.heap.size + 3) n (fun j => idsIn D (j : Int))
  I : ∃ g, IRow wr (w.heap.size + 4) n g
  o1 : wr.ownsRow (w.heap.size + 5) 3 1 V1 D.length ((idsL D).map (Value.int .i64))
  o2 : wr.ownsRow (w.heap.size + 5) 3 1 V2 D.length ((dsL zs D).map (Value.int .i64))
  ne : ∀ g, V1.ownBlock = some g → V2.ownBlock ≠ some g
  K : Below w.heap.size w wr
theorem SpW.below {w : World} {A B : Option Addr} {n ca cb : Nat} {rs : List A3} {zs : List Int} {V1 V2 : Value} {D : List (Int × Int)} {wr w' : World} (h : SpW w A B n ca cb rs zs V1 V2 D wr) (b : Below wr.heap.size wr w') : SpW w A B n ca cb rs zs V1 V2 D w' :=
  ⟨h.X.below b, h.R.below b, h.O.below b, h.S.below b, by obtain ⟨g, hg⟩ := h.I; exact ⟨g, hg.below b⟩, ownsRow_below h.o1 b, ownsRow_below h.o2 b, h.ne, h.K.trans (b.mono h.K.size)⟩
/-- Where the queue lies: behind the search's own boxes, in no row that grows. -/
def QAt (w : World) (V1 V2 : Value) (A : Option Addr) : Prop := ∀ a, A = some a → w.heap.size + 5 ≤ a.block ∧ V1.ownBlock ≠ some a.block ∧ V2.ownBlock ≠ some a.block

theorem pts_apart {wa wb : World} {A : Option Addr} {q : List (Int × Int)} (h : IsPts wa A q) (e : ∀ a, A = some a → a.block < wa.heap.size → wb.heap[a.block]? = wa.heap[a.block]?) (hs : wa.heap.size ≤ wb.heap.size) : IsPts wb A q := fun hp => by
  obtain ⟨b, off, rfl, hb, hc⟩ := h hp
  have e' : wb.heap[b]? = wa.heap[b]? := e _ rfl hb
  exact ⟨b, off, rfl, by omega, fun i hi => ⟨(World.cell?_of_block (w := wa) (a := ⟨b, off + i * 2, none⟩) e').trans (hc i hi).1, (World.cell?_of_block (w := wa) (a := ⟨b, off + i * 2 + 1, none⟩) e').trans (hc i hi).2⟩⟩
/-- A row that was made behind all. -/
theorem qAt_fresh {w wr wz : World} {A B : Option Addr} {n ca cb : Nat} {rs : List A3} {zs : List Int} {V1 V2 : Value} {D : List (Int × Int)} (U : SpW w A B n ca cb rs zs V1 V2 D wr) {base : Nat} {A' : Option Addr} {N c : Nat} {xs : List Value} (own : wz.ownsRow base 78 2 (.slice A' N c) N xs) (hb : wr.heap.size ≤ base) : QAt w V1 V2 A' := fun a e => by
  subst e
  have h := (World.ownsRow.lt own a.block rfl).1
  obtain ⟨g, hg⟩ := U.I
  have := hg.lt
  refine ⟨by omega, fun e => ?_, fun e => ?_⟩
  · have := (World.ownsRow.lt U.o1 _ e).2; omega
  · have := (World.ownsRow.lt U.o2 _ e).2; omega
set_option maxHeartbeats 2000000 in
/-- A node is settled: what the four stores leave. -/
theorem SpW.settle {w : World} {A B : Option Addr} {n ca cb : Nat} {rs : List A3} {zs : List Int} {A1 A2 : Option Addr} {d1 d2 : Nat} {D : List (Int × Int)} {wd : World} (U : SpW w A B n ca cb rs zs (.slice A1 D.length d1) (.slice A2 D.length d2) D wd) {UU : Nat} (hU : UU < n) (hD : D.length ≤ 1000) (xk dz : Int) (hdz : dz = xk - zg zs UU) :
    ∃ B1 e1 w1 B2 e2 w2,
      (Builtin.append_ #[27, 27] 27 #[.slice A1 D.length d1, .slice (some ⟨wd.heap.size, 0, none⟩) 1 1]).run Try.prog (((wd.setCell ⟨w.heap.size + 3, UU, none⟩ (.bool true)).setCell ⟨w.heap.size + 4, UU, none⟩ (.int .i64 dz)).alloc (.cells #[.int .i64 (UU : Int)] 3)) = .ok (.slice B1 (D.length + 1) e1) w1 ∧
      (Builtin.append_ #[27, 27] 27 #[.slice A2 D.length d2, .slice (some ⟨w1.heap.size, 0, none⟩) 1 1]).run Try.prog ((w1.setCell ⟨w.heap.size + 2, 0, none⟩ (.slice B1 (D.length + 1) e1)).alloc (.cells #[.int .i64 dz] 3)) = .ok (.slice B2 (D.length + 1) e2) w2 ∧
      SpW w A B n ca cb rs zs (.slice B1 (D.length + 1) e1) (.slice B2 (D.length + 1) e2) (D ++ [(xk, (UU : Int))]) (w2.setCell ⟨w.heap.size + 2, 1, none⟩ (.slice B2 (D.length + 1) e2)) ∧
      Pair ((wd.setCell ⟨w.heap.size + 3, UU, none⟩ (.bool true)).setCell ⟨w.heap.size + 4, UU, none⟩ (.int .i64 dz)) (w.heap.size + 2) 29 (.slice A1 D.length d1) (.slice A2 D.length d2) ∧
      Pair w1 (w.heap.size + 2) 29 (.slice A1 D.length d1) (.slice A2 D.length d2) ∧
      Pair w2 (w.heap.size + 2) 29 (.slice B1 (D.length + 1) e1) (.slice A2 D.length d2) ∧
      ∀ A' q, IsPts wd A' q → QAt w (.slice A1 D.length d1) (.slice A2 D.length d2) A' → (∀ a, A' = some a → a.block < wd.heap.size) → IsPts (w2.setCell ⟨w.heap.size + 2, 1, none⟩ (.slice B2 (D.length + 1) e2)) A' q ∧ QAt w (.slice B1 (D.length + 1) e1) (.slice B2 (D.length + 1) e2) A' := by
  obtain ⟨g, hg⟩ := U.I
  have l1 := World.ownsRow.lt U.o1
  have l2 := World.ownsRow.lt U.o2
  have hol := U.O.lt
  have hIl := hg.lt
  have hsz : ((wd.setCell ⟨w.heap.size + 3, UU, none⟩ (.bool true)).setCell ⟨w.heap.size + 4, UU, none⟩ (.int .i64 dz)).heap.size = wd.heap.size := by simp [World.setCell]
  have far2 : ∀ c, c ≠ w.heap.size + 3 → c ≠ w.heap.size + 4 → ((wd.setCell ⟨w.heap.size + 3, UU, none⟩ (.bool true)).setCell ⟨w.heap.size + 4, UU, none⟩ (.int .i64 dz)).heap[c]? = wd.heap[c]? := fun c h3 h4 => by
    rw [Below.heap_setCell _ _ _ _ (by simpa using h4), Below.heap_setCell _ _ _ _ (by simpa using h3)]
  have Xb : Pair ((wd.setCell ⟨w.heap.size + 3, UU, none⟩ (.bool true)).setCell ⟨w.heap.size + 4, UU, none⟩ (.int .i64 dz)) w.heap.size 34 (.slice A n ca) (.slice B rs.length cb) := (far2 _ (by omega) (by omega)).trans U.X
  have Rb : Pair ((wd.setCell ⟨w.heap.size + 3, UU, none⟩ (.bool true)).setCell ⟨w.heap.size + 4, UU, none⟩ (.int .i64 dz)) (w.heap.size + 1) 29 (.slice none 0 0) (.slice none 0 0) := (far2 _ (by omega) (by omega)).trans U.R
  have Ob : Pair ((wd.setCell ⟨w.heap.size + 3, UU, none⟩ (.bool true)).setCell ⟨w.heap.size + 4, UU, none⟩ (.int .i64 dz)) (w.heap.size + 2) 29 (.slice A1 D.length d1) (.slice A2 D.length d2) := (far2 _ (by omega) (by omega)).trans U.O
  have Sb : BRow ((wd.setCell ⟨w.heap.size + 3, UU, none⟩ (.bool true)).setCell ⟨w.heap.size + 4, UU, none⟩ (.int .i64 dz)) (w.heap.size + 3) n (fun j => idsIn (D ++ [(xk, (UU : Int))]) (j : Int)) :=
    ((U.S.set UU true).congr (idsIn_row rfl)).of_block (Below.heap_setCell _ _ _ _ (by simp))
  have Ib := (hg.far (c := w.heap.size + 3) (by omega) UU (.bool true)).set UU dz
  have ob1 := ownsRow_far (c := w.heap.size + 4) (ownsRow_far (c := w.heap.size + 3) U.o1 (by omega) UU (.bool true)) (by omega) UU (.int .i64 dz)
  have ob2 := ownsRow_far (c := w.heap.size + 4) (ownsRow_far (c := w.heap.size + 3) U.o2 (by omega) UU (.bool true)) (by omega) UU (.int .i64 dz)
  have Kb := (U.K.setCell (p := ⟨w.heap.size + 3, UU, none⟩) (by simp) (.bool true)).setCell (p := ⟨w.heap.size + 4, UU, none⟩) (by simp) (.int .i64 dz)
  generalize (wd.setCell ⟨w.heap.size + 3, UU, none⟩ (.bool true)).setCell ⟨w.heap.size + 4, UU, none⟩ (.int .i64 dz) = wb at hsz far2 Xb Rb Ob Sb Ib ob1 ob2 Kb ⊢
  have kc := below1 wb (.cells #[.int .i64 (UU : Int)] 3)
  obtain ⟨v1, w1, hr1, p1, g1, hv1⟩ := run_append_int (w := wb) 27 (w.heap.size + 5) _ D.length _ ob1 (UU : Int) (by omega) (by omega)
  obtain ⟨B1, e1, rfl⟩ := own_form' p1
  have hg1s := g1.size
  rw [World.size_alloc, hsz] at hg1s
  rw [hsz] at hr1 hv1
  have m1 := World.ownsRow.lt p1
  have hb1 : ∀ g, Value.ownBlock (.slice A1 D.length d1) = some g → w.heap.size + 5 ≤ g := fun g e => (l1 g e).1
  have O1 := (Ob.below kc).grownUp g1 (fun g e => by have := (l1 g e).1; omega)
  have X1 := ((Xb.below kc).grownUp g1 (fun g e => by have := (l1 g e).1; omega)).far (c := w.heap.size + 2) (by omega) 0 (.slice B1 (D.length + 1) e1)
  have R1 := ((Rb.below kc).grownUp g1 (fun g e => by have := (l1 g e).1; omega)).far (c := w.heap.size + 2) (by omega) 0 (.slice B1 (D.length + 1) e1)
  have O1s := O1.set0 (.slice B1 (D.length + 1) e1)
  have S1 : BRow (w1.setCell ⟨w.heap.size + 2, 0, none⟩ (.slice B1 (D.length + 1) e1)) (w.heap.size + 3) n (fun j => idsIn (D ++ [(xk, (UU : Int))]) (j : Int)) := ((Sb.below kc).of_block (g1.block _ (Sb.below kc).lt (fun e => by have := (l1 _ e.symm).1; omega))).of_block (Below.heap_setCell _ _ _ _ (by simp))
  have I1a : IRow w1 (w.heap.size + 4) n (fun j => if j = UU then dz else g j) := OwnAt.of_block (Ib.below kc) (g1.block _ (Ib.below kc).lt (fun e => by have := (l1 _ e.symm).1; omega))
  have I1 := I1a.far (c := w.heap.size + 2) (by omega) 0 (.slice B1 (D.length + 1) e1)
  have p1s := ownsRow_far (c := w.heap.size + 2) p1 (by omega) 0 (.slice B1 (D.length + 1) e1)
  have o2s := ownsRow_far (c := w.heap.size + 2) (kept_apart (ownsRow_below ob2 kc) g1 U.ne) (by omega) 0 (.slice B1 (D.length + 1) e1)
  have K1 := ((Kb.trans (kc.mono Kb.size)).grown g1 (by have := Kb.size; rw [World.size_alloc]; omega) (fun g e => by have := (l1 g e).1; omega)).setCell (p := ⟨w.heap.size + 2, 0, none⟩) (by simp) (.slice B1 (D.length + 1) e1)
  have hsz1 : (w1.setCell ⟨w.heap.size + 2, 0, none⟩ (.slice B1 (D.length + 1) e1)).heap.size = w1.heap.size := by simp [World.setCell]
  have kd := below1 (w1.setCell ⟨w.heap.size + 2, 0, none⟩ (.slice B1 (D.length + 1) e1)) (.cells #[.int .i64 dz] 3)
  obtain ⟨v2, w2, hr2, p2, g2, hv2⟩ := run_append_int (w := w1.setCell ⟨w.heap.size + 2, 0, none⟩ (.slice B1 (D.length + 1) e1)) 27 (w.heap.size + 5) _ D.length _ o2s dz (by omega) (by omega)
  obtain ⟨B2, e2, rfl⟩ := own_form' p2
  have hg2s := g2.size
  rw [World.size_alloc, hsz1] at hg2s
  rw [hsz1] at hr2 hv2
  have HD1 : ∀ g, Value.ownBlock (.slice A2 D.length d2) = some g → Value.ownBlock (.slice B1 (D.length + 1) e1) ≠ some g := fun g e e' => by
    rcases hv1 with hv | hv
    · exact U.ne g (hv.symm.trans e') e
    · rw [hv] at e'; injection e' with e'; have := (l2 g e).2; omega
  refine ⟨B1, e1, w1, B2, e2, w2, hr1, hr2, SpW.mk ?_ ?_ ?_ ?_ ⟨fun j => if j = UU then dz else g j, ?_⟩ ?_ ?_ ?_ ?_, Ob, O1, (O1s.below kd).grownUp g2 (fun g e => by have := (l2 g e).1; omega), fun A' q hq hqa hql => ?_⟩
  · exact ((X1.below kd).grownUp g2 (fun g e => by have := (l2 g e).1; omega)).far (c := w.heap.size + 2) (by omega) 1 _
  · exact ((R1.below kd).grownUp g2 (fun g e => by have := (l2 g e).1; omega)).far (c := w.heap.size + 2) (by omega) 1 _
  · exact ((O1s.below kd).grownUp g2 (fun g e => by have := (l2 g e).1; omega)).set1 _
  · exact ((S1.below kd).of_block (g2.block _ (S1.below kd).lt (fun e => by have := (l2 _ e.symm).1; omega))).of_block (Below.heap_setCell _ _ _ _ (by simp))
  · have I2a : IRow w2 (w.heap.size + 4) n (fun j => if j = UU then dz else g j) := OwnAt.of_block (I1.below kd) (g2.block _ (I1.below kd).lt (fun e => by have := (l2 _ e.symm).1; omega))
    exact I2a.far (c := w.heap.size + 2) (by omega) 1 _
  · have := ownsRow_far (c := w.heap.size + 2) (kept_apart (ownsRow_below p1s kd) g2 HD1) (by omega) 1 (.slice B2 (D.length + 1) e2)
    rw [show (D ++ [(xk, (UU : Int))]).length = D.length + 1 by simp, show (idsL (D ++ [(xk, (UU : Int))])).map (Value.int .i64) = (idsL D).map (Value.int .i64) ++ [.int .i64 (UU : Int)] by simp [idsL]]
    exact this
  · have := ownsRow_far (c := w.heap.size + 2) p2 (by omega) 1 (.slice B2 (D.length + 1) e2)
    rw [show (D ++ [(xk, (UU : Int))]).length = D.length + 1 by simp, show (dsL zs (D ++ [(xk, (UU : Int))])).map (Value.int .i64) = (dsL zs D).map (Value.int .i64) ++ [.int .i64 dz] by simp [dsL, hdz]]
    exact this
  · intro g e e'
    have hm := (m1 g e).2
    rcases hv2 with hv | hv
    · exact HD1 g (hv.symm.trans e') e
    · rw [hv] at e'; injection e' with e'; omega
  · exact ((K1.trans (kd.mono K1.size)).grown g2 (by have := K1.size; rw [World.size_alloc]; omega) (fun g e => by have := (l2 g e).1; omega)).setCell (p := ⟨w.heap.size + 2, 1, none⟩) (by simp) _
  · refine ⟨pts_apart hq (fun a e hl => ?_) ?_, fun a e => ?_⟩
    · obtain ⟨q5, q1, q2⟩ := hqa a e
      have hlb : a.block < wb.heap.size := by omega
      rw [Below.heap_setCell _ _ _ _ (by simp; omega), g2.block a.block (by rw [World.size_alloc, hsz1]; omega) (fun e => q2 e.symm), (kd.block a.block (by rw [hsz1]; omega)), Below.heap_setCell _ _ _ _ (by simp; omega), g1.block a.block (by rw [World.size_alloc]; omega) (fun e => q1 e.symm), (kc.block a.block hlb), far2 _ (by omega) (by omega)]
    · have : (w2.setCell ⟨w.heap.size + 2, 1, none⟩ (.slice B2 (D.length + 1) e2)).heap.size = w2.heap.size := by simp [World.setCell]
      omega
    · obtain ⟨q5, q1, q2⟩ := hqa a e
      have hl := hql a e
      refine ⟨q5, fun h => ?_, fun h => ?_⟩
      · rcases hv1 with hv | hv
        · exact q1 (hv.symm.trans h)
        · rw [hv] at h; injection h with h; omega
      · rcases hv2 with hv | hv
        · exact q2 (hv.symm.trans h)
        · rw [hv] at h; injection h with h; omega

end Go.Proofs.Ytbmfjfglkjhlnaa
