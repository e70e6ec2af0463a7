/-
  The state of spec.l06Search; what the stores leave when a node is settled. What spec.l06Search computes.
-/
import Derived.Test.YtcaamhoakhgnhaaSearchIm
namespace Go.Proofs.Ytcaamhoakhgnhaa
open Go.RowKit Go.Deep Go.Maps

/-- Keys less the numbers of their nodes. -/
def dsL (zs : List Int) (L : List (Int × Int)) : List Int := L.map fun p => p.1 - zg zs p.2.toNat
theorem dsL_zero (n : Nat) (L : List (Int × Int)) : dsL (List.replicate n 0) L = keysL L := by
  unfold dsL keysL; refine List.map_congr_left fun p _ => ?_; rw [zg_zeros]; omega

/-- The state of a search. -/
structure SpW (w : World) (A B : Option Addr) (n ca cb : Nat) (rs : List A3) (zs : List Int) (V1 V2 : Value) (D : List (Int × Int)) (wr : World) : Prop where
  X : Pair wr w.heap.size 32 (.slice A n ca) (.slice B rs.length cb)
  R : Pair wr (w.heap.size + 1) 42 (.slice none 0 0) (.slice none 0 0)
  O : Pair wr (w.heap.size + 2) 42 V1 V2
  S : BRow wr (w.heap.size + 3) n (fun j => idsIn D (j : Int))
  I : ∃ g, IRow wr (w.heap.size + 4) n g
  o1 : wr.ownsRow (w.heap.size + 5) 3 1 V1 D.length ((idsL D).map (Value.int .i64))
  o2 : wr.ownsRow (w.heap.size + 5) 3 1 V2 D.length ((dsL zs D).map (Value.int .i64))
  ne : ∀ g, V1.ownBlock = some g → V2.ownBlock ≠ some g
  K : Below w.heap.size w wr
theorem SpW.below {w : World} {A B : Option Addr} {n ca cb : Nat} {rs : List A3} {zs : List Int} {V1 V2 : Value} {D : List (Int × Int)} {wr w' : World} (h : SpW w A B n ca cb rs zs V1 V2 D wr) (b : Below wr.heap.size wr w') : SpW w A B n ca cb rs zs V1 V2 D w' :=
  ⟨h.X.below b, h.R.below b, h.O.below b, h.S.below b, by obtain ⟨g, hg⟩ := h.I; exact ⟨g, hg.below b⟩, ownsRow_below h.o1 b, ownsRow_below h.o2 b, h.ne, h.K.trans (b.mono h.K.size)⟩
/-- Where the queue lies: behind the search's own boxes, in no row that grows. -/
def QAt (w : World) (V1 V2 : Value) (A : Option Addr) : Prop := ∀ a, A = some a → w.heap.size + 5 ≤ a.block ∧ V1.ownBlock ≠ some a.block ∧ V2.ownBlock ≠ some a.block

theorem pts_apart {wa wb : World} {A : Option Addr} {q : List (Int × Int)} (h : IsPts wa A q) (e : ∀ a, A = some a → a.block < wa.heap.size → wb.heap[a.block]? = wa.heap[a.block]?) (hs : wa.heap.size ≤ wb.heap.size) : IsPts wb A q := fun hp => by
  obtain ⟨b, off, rfl, hb, hc⟩ := h hp
  have e' : wb.heap[b]? = wa.heap[b]? := e _ rfl hb
  exact ⟨b, off, rfl, by omega, fun i hi => ⟨(World.cell?_of_block (w := wa) (a := ⟨b, off + i * 2, none⟩) e').trans (hc i hi).1, (World.cell?_of_block (w := wa) (a := ⟨b, off + i * 2 + 1, none⟩) e').trans (hc i hi).2⟩⟩
/-- A row that was made behind all. -/
theorem qAt_fresh {w wr wz : World} {A B : Option Addr} {n ca cb : Nat} {rs : List A3} {zs : List Int} {V1 V2 : Value} {D : List (Int × Int)} (U : SpW w A B n ca cb rs zs V1 V2 D wr) {base : Nat} {A' : Option Addr} {N c : Nat} {xs : List Value} (own : wz.ownsRow base 73 2 (.slice A' N c) N xs) (hb : wr.heap.size ≤ base) : QAt w V1 V2 A' := fun a e => by
  subst e
  have h := (World.ownsRow.lt own a.block rfl).1
  obtain ⟨g, hg⟩ := U.I
  have := hg.lt
  refine ⟨by omega, fun e => ?_, fun e => ?_⟩
  · have := (World.ownsRow.lt U.o1 _ e).2; omega
  · have := (World.ownsRow.lt U.o2 _ e).2; omega
set_option maxHeartbeats 2000000 in
/-- A node is settled: what the four stores leave. -/
theorem SpW.settle {w : World} {A B : Option Addr} {n ca cb : Nat} {rs : List A3} {zs : List Int} {A1 A2 : Option Addr} {d1 d2 : Nat} {D : List (Int × Int)} {wd : World} (U : SpW w A B n ca cb rs zs (.slice A1 D.length d1) (.slice A2 D.length d2) D wd) {UU : Nat} (_hU : UU < n) (hD : D.length ≤ 1000) (xk dz : Int) (hdz : dz = xk - zg zs UU) :
    ∃ B1 e1 w1 B2 e2 w2,
      (Builtin.append_ #[40, 40] 40 #[.slice A1 D.length d1, .slice (some ⟨wd.heap.size, 0, none⟩) 1 1]).run Try.prog (((wd.setCell ⟨w.heap.size + 3, UU, none⟩ (.bool true)).setCell ⟨w.heap.size + 4, UU, none⟩ (.int .i64 dz)).alloc (.cells #[.int .i64 (UU : Int)] 3)) = .ok (.slice B1 (D.length + 1) e1) w1 ∧
      (Builtin.append_ #[40, 40] 40 #[.slice A2 D.length d2, .slice (some ⟨w1.heap.size, 0, none⟩) 1 1]).run Try.prog ((w1.setCell ⟨w.heap.size + 2, 0, none⟩ (.slice B1 (D.length + 1) e1)).alloc (.cells #[.int .i64 dz] 3)) = .ok (.slice B2 (D.length + 1) e2) w2 ∧
      SpW w A B n ca cb rs zs (.slice B1 (D.length + 1) e1) (.slice B2 (D.length + 1) e2) (D ++ [(xk, (UU : Int))]) (w2.setCell ⟨w.heap.size + 2, 1, none⟩ (.slice B2 (D.length + 1) e2)) ∧
      Pair ((wd.setCell ⟨w.heap.size + 3, UU, none⟩ (.bool true)).setCell ⟨w.heap.size + 4, UU, none⟩ (.int .i64 dz)) (w.heap.size + 2) 42 (.slice A1 D.length d1) (.slice A2 D.length d2) ∧
      Pair w1 (w.heap.size + 2) 42 (.slice A1 D.length d1) (.slice A2 D.length d2) ∧
      Pair w2 (w.heap.size + 2) 42 (.slice B1 (D.length + 1) e1) (.slice A2 D.length d2) ∧
      ∀ A' q, IsPts wd A' q → QAt w (.slice A1 D.length d1) (.slice A2 D.length d2) A' → (∀ a, A' = some a → a.block < wd.heap.size) → IsPts (w2.setCell ⟨w.heap.size + 2, 1, none⟩ (.slice B2 (D.length + 1) e2)) A' q ∧ QAt w (.slice B1 (D.length + 1) e1) (.slice B2 (D.length + 1) e2) A' := by
  obtain ⟨g, hg⟩ := U.I
  have l1 := World.ownsRow.lt U.o1
  have l2 := World.ownsRow.lt U.o2
  have hol := U.O.lt
  have hIl := hg.lt
  have hsz : ((wd.setCell ⟨w.heap.size + 3, UU, none⟩ (.bool true)).setCell ⟨w.heap.size + 4, UU, none⟩ (.int .i64 dz)).heap.size = wd.heap.size := by simp [World.setCell]
  have far2 : ∀ c, c ≠ w.heap.size + 3 → c ≠ w.heap.size + 4 → ((wd.setCell ⟨w.heap.size + 3, UU, none⟩ (.bool true)).setCell ⟨w.heap.size + 4, UU, none⟩ (.int .i64 dz)).heap[c]? = wd.heap[c]? := fun c h3 h4 => by
    rw [Below.heap_setCell _ _ _ _ (by simpa using h4), Below.heap_setCell _ _ _ _ (by simpa using h3)]
  have Xb : Pair ((wd.setCell ⟨w.heap.size + 3, UU, none⟩ (.bool true)).setCell ⟨w.heap.size + 4, UU, none⟩ (.int .i64 dz)) w.heap.size 32 (.slice A n ca) (.slice B rs.length cb) := (far2 _ (by omega) (by omega)).trans U.X
  have Rb : Pair ((wd.setCell ⟨w.heap.size + 3, UU, none⟩ (.bool true)).setCell ⟨w.heap.size + 4, UU, none⟩ (.int .i64 dz)) (w.heap.size + 1) 42 (.slice none 0 0) (.slice none 0 0) := (far2 _ (by omega) (by omega)).trans U.R
  have Ob : Pair ((wd.setCell ⟨w.heap.size + 3, UU, none⟩ (.bool true)).setCell ⟨w.heap.size + 4, UU, none⟩ (.int .i64 dz)) (w.heap.size + 2) 42 (.slice A1 D.length d1) (.slice A2 D.length d2) := (far2 _ (by omega) (by omega)).trans U.O
  have Sb : BRow ((wd.setCell ⟨w.heap.size + 3, UU, none⟩ (.bool true)).setCell ⟨w.heap.size + 4, UU, none⟩ (.int .i64 dz)) (w.heap.size + 3) n (fun j => idsIn (D ++ [(xk, (UU : Int))]) (j : Int)) :=
    ((U.S.set UU true).congr (idsIn_row rfl)).of_block (Below.heap_setCell _ _ _ _ (by simp))
  have Ib := (hg.far (c := w.heap.size + 3) (by omega) UU (.bool true)).set UU dz
  have ob1 := ownsRow_far (c := w.heap.size + 4) (ownsRow_far (c := w.heap.size + 3) U.o1 (by omega) UU (.bool true)) (by omega) UU (.int .i64 dz)
  have ob2 := ownsRow_far (c := w.heap.size + 4) (ownsRow_far (c := w.heap.size + 3) U.o2 (by omega) UU (.bool true)) (by omega) UU (.int .i64 dz)
  have Kb := (U.K.setCell (p := ⟨w.heap.size + 3, UU, none⟩) (by simp) (.bool true)).setCell (p := ⟨w.heap.size + 4, UU, none⟩) (by simp) (.int .i64 dz)
  generalize (wd.setCell ⟨w.heap.size + 3, UU, none⟩ (.bool true)).setCell ⟨w.heap.size + 4, UU, none⟩ (.int .i64 dz) = wb at hsz far2 Xb Rb Ob Sb Ib ob1 ob2 Kb ⊢
  have kc := below1 wb (.cells #[.int .i64 (UU : Int)] 3)
  obtain ⟨v1, w1, hr1, p1, g1, hv1⟩ := run_append_int (w := wb) 40 (w.heap.size + 5) _ D.length _ ob1 (UU : Int) (by omega) (by omega)
  obtain ⟨B1, e1, rfl⟩ := own_form' p1
  have hg1s := g1.size
  rw [World.size_alloc, hsz] at hg1s
  rw [hsz] at hr1 hv1
  have m1 := World.ownsRow.lt p1
  have hb1 : ∀ g, Value.ownBlock (.slice A1 D.length d1) = some g → w.heap.size + 5 ≤ g := fun g e => (l1 g e).1
  have O1 := (Ob.below kc).grownUp g1 (fun g e => by have := (l1 g e).1; omega)
  have X1 := ((Xb.below kc).grownUp g1 (fun g e => by have := (l1 g e).1; omega)).far (c := w.heap.size + 2) (by omega) 0 (.slice B1 (D.length + 1) e1)
  have R1 := ((Rb.below kc).grownUp g1 (fun g e => by have := (l1 g e).1; omega)).far (c := w.heap.size + 2) (by omega) 0 (.slice B1 (D.length + 1) e1)
  have O1s := O1.set0 (.slice B1 (D.length + 1) e1)
  have S1 : BRow (w1.setCell ⟨w.heap.size + 2, 0, none⟩ (.slice B1 (D.length + 1) e1)) (w.heap.size + 3) n (fun j => idsIn (D ++ [(xk, (UU : Int))]) (j : Int)) := ((Sb.below kc).of_block (g1.block _ (Sb.below kc).lt (fun e => by have := (l1 _ e.symm).1; omega))).of_block (Below.heap_setCell _ _ _ _ (by simp))
  have I1a : IRow w1 (w.heap.size + 4) n (fun j => if j = UU then dz else g j) := OwnAt.of_block (Ib.below kc) (g1.block _ (Ib.below kc).lt (fun e => by have := (l1 _ e.symm).1; omega))
  have I1 := I1a.far (c := w.heap.size + 2) (by omega) 0 (.slice B1 (D.length + 1) e1)
  have p1s := ownsRow_far (c := w.heap.size + 2) p1 (by omega) 0 (.slice B1 (D.length + 1) e1)
  have o2s := ownsRow_far (c := w.heap.size + 2) (kept_apart (ownsRow_below ob2 kc) g1 U.ne) (by omega) 0 (.slice B1 (D.length + 1) e1)
  have K1 := ((Kb.trans (kc.mono Kb.size)).grown g1 (by have := Kb.size; rw [World.size_alloc]; omega) (fun g e => by have := (l1 g e).1; omega)).setCell (p := ⟨w.heap.size + 2, 0, none⟩) (by simp) (.slice B1 (D.length + 1) e1)
  have hsz1 : (w1.setCell ⟨w.heap.size + 2, 0, none⟩ (.slice B1 (D.length + 1) e1)).heap.size = w1.heap.size := by simp [World.setCell]
  have kd := below1 (w1.setCell ⟨w.heap.size + 2, 0, none⟩ (.slice B1 (D.length + 1) e1)) (.cells #[.int .i64 dz] 3)
  obtain ⟨v2, w2, hr2, p2, g2, hv2⟩ := run_append_int (w := w1.setCell ⟨w.heap.size + 2, 0, none⟩ (.slice B1 (D.length + 1) e1)) 40 (w.heap.size + 5) _ D.length _ o2s dz (by omega) (by omega)
  obtain ⟨B2, e2, rfl⟩ := own_form' p2
  have hg2s := g2.size
  rw [World.size_alloc, hsz1] at hg2s
  rw [hsz1] at hr2 hv2
  have HD1 : ∀ g, Value.ownBlock (.slice A2 D.length d2) = some g → Value.ownBlock (.slice B1 (D.length + 1) e1) ≠ some g := fun g e e' => by
    rcases hv1 with hv | hv
    · exact U.ne g (hv.symm.trans e') e
    · rw [hv] at e'; injection e' with e'; have := (l2 g e).2; omega
  refine ⟨B1, e1, w1, B2, e2, w2, hr1, hr2, SpW.mk ?_ ?_ ?_ ?_ ⟨fun j => if j = UU then dz else g j, ?_⟩ ?_ ?_ ?_ ?_, Ob, O1, (O1s.below kd).grownUp g2 (fun g e => by have := (l2 g e).1; omega), fun A' q hq hqa hql => ?_⟩
  · exact ((X1.below kd).grownUp g2 (fun g e => by have := (l2 g e).1; omega)).far (c := w.heap.size + 2) (by omega) 1 _
  · exact ((R1.below kd).grownUp g2 (fun g e => by have := (l2 g e).1; omega)).far (c := w.heap.size + 2) (by omega) 1 _
  · exact ((O1s.below kd).grownUp g2 (fun g e => by have := (l2 g e).1; omega)).set1 _
  · exact ((S1.below kd).of_block (g2.block _ (S1.below kd).lt (fun e => by have := (l2 _ e.symm).1; omega))).of_block (Below.heap_setCell _ _ _ _ (by simp))
  · have I2a : IRow w2 (w.heap.size + 4) n (fun j => if j = UU then dz else g j) := OwnAt.of_block (I1.below kd) (g2.block _ (I1.below kd).lt (fun e => by have := (l2 _ e.symm).1; omega))
    exact I2a.far (c := w.heap.size + 2) (by omega) 1 _
  · have := ownsRow_far (c := w.heap.size + 2) (kept_apart (ownsRow_below p1s kd) g2 HD1) (by omega) 1 (.slice B2 (D.length + 1) e2)
    rw [show (D ++ [(xk, (UU : Int))]).length = D.length + 1 by simp, show (idsL (D ++ [(xk, (UU : Int))])).map (Value.int .i64) = (idsL D).map (Value.int .i64) ++ [.int .i64 (UU : Int)] by simp [idsL]]
    exact this
  · have := ownsRow_far (c := w.heap.size + 2) p2 (by omega) 1 (.slice B2 (D.length + 1) e2)
    rw [show (D ++ [(xk, (UU : Int))]).length = D.length + 1 by simp, show (dsL zs (D ++ [(xk, (UU : Int))])).map (Value.int .i64) = (dsL zs D).map (Value.int .i64) ++ [.int .i64 dz] by simp [dsL, hdz]]
    exact this
  · intro g e e'
    have hm := (m1 g e).2
    rcases hv2 with hv | hv
    · exact HD1 g (hv.symm.trans e') e
    · rw [hv] at e'; injection e' with e'; omega
  · exact ((K1.trans (kd.mono K1.size)).grown g2 (by have := K1.size; rw [World.size_alloc]; omega) (fun g e => by have := (l2 g e).1; omega)).setCell (p := ⟨w.heap.size + 2, 1, none⟩) (by simp) _
  · refine ⟨pts_apart hq (fun a e hl => ?_) ?_, fun a e => ?_⟩
    · obtain ⟨q5, q1, q2⟩ := hqa a e
      have hlb : a.block < wb.heap.size := by omega
      rw [Below.heap_setCell _ _ _ _ (by simp; omega), g2.block a.block (by rw [World.size_alloc, hsz1]; omega) (fun e => q2 e.symm), (kd.block a.block (by rw [hsz1]; omega)), Below.heap_setCell _ _ _ _ (by simp; omega), g1.block a.block (by rw [World.size_alloc]; omega) (fun e => q1 e.symm), (kc.block a.block hlb), far2 _ (by omega) (by omega)]
    · have : (w2.setCell ⟨w.heap.size + 2, 1, none⟩ (.slice B2 (D.length + 1) e2)).heap.size = w2.heap.size := by simp [World.setCell]
      omega
    · obtain ⟨q5, q1, q2⟩ := hqa a e
      have hl := hql a e
      refine ⟨q5, fun h => ?_, fun h => ?_⟩
      · rcases hv1 with hv | hv
        · exact q1 (hv.symm.trans h)
        · rw [hv] at h; injection h with h; omega
      · rcases hv2 with hv | hv
        · exact q2 (hv.symm.trans h)
        · rw [hv] at h; injection h with h; omega

end Go.Proofs.Ytcaamhoakhgnhaa

namespace Go.Proofs.Ytcaamhoakhgnhaa
open Go.RowKit Go.Deep Go.Maps

/-- How many nodes are settled. -/
def outLen (w wr : World) : Nat := match wr.cell? ⟨w.heap.size + 2, 0, none⟩ with
  | some v => sliceLen v
  | none => 0

/-- What the last region reads: an arc's copy and the number of its To. -/
abbrev RdS (ab : Nat) (F T : Nat) (Ln : Int) (db j : Nat) (pt : Int) (w : World) : Prop :=
  (w.cell? ⟨ab, 0, none⟩ = some (.int .i64 (F : Int)) ∧ w.cell? ⟨ab, 1, none⟩ = some (.int .i64 (T : Int)) ∧ w.cell? ⟨ab, 2, none⟩ = some (.int .i64 Ln)) ∧ w.cell? ⟨db, j, none⟩ = some (.int .i64 pt)
theorem RdS.under {ab F T db j : Nat} {Ln pt : Int} {w w' : World} (hb : Below w.heap.size w w') (h : RdS ab F T Ln db j pt w) : RdS ab F T Ln db j pt w' := ⟨⟨cell_under hb h.1.1, cell_under hb h.1.2.1, cell_under hb h.1.2.2⟩, cell_under hb h.2⟩

set_option maxRecDepth 1000000 in
set_option maxHeartbeats 8000000 in
theorem l06Search_any (A B C : Option Addr) (ca cb cc n : Nat) (rs : List A3) (zs : List Int) (S t : Nat) (w : World) (hz : NetZ n rs zs) (hS : S < n) (hb : IsArcs w B rs) (hzz : IsInts w C zs) :
    Calls Try.prog 51 #[.agg #[.slice A n ca, .slice B rs.length cb], .int .i64 (S : Int), .int .i64 (t : Int), .slice C zs.length cc] w (SeenMade w (idsL (took n rs zs S t)) (dsL zs (took n rs zs S t))) := by
  have hn20 := hz.n20
  have hm70 := hz.m70
  have HZL := Lib.hid hz.len
  have hSI := SI.start hS hz.len hz.pin
  have HZ := Lib.hid hz
  have HSI := Lib.hid hSI
  have HL : Hid (srch zs rs t (n + 1) [(zg zs S, (S : Int))] [] = took n rs zs S t) := Lib.hid rfl
  obtain ⟨L, hL⟩ : ∃ L, L = took n rs zs S t := ⟨_, rfl⟩
  rw [← hL] at HL ⊢
  clear hL
  have hSz : S < zs.length := by have := hz.len; omega
  obtain ⟨db, dof, rfl, -, dS⟩ := hzz.at_ hSz
  obtain ⟨z0, hz0⟩ : ∃ z0, z0 = zg zs S := ⟨_, rfl⟩
  rw [← hz0] at HL HSI dS
  clear hz hSI hz0
  have hmk1 := fun V => run_make_row' (P := Try.prog) (w := V) 106 4 (.bool false) 1 Try.underlying106 Try.infoBool rfl .i64 .i64 n (by omega) (by omega)
  have hmk2 := fun V => run_make_row' (P := Try.prog) (w := V) 40 3 (.int .i64 0) 8 Try.underlying40 Try.infoInt rfl .i64 .i64 n (by omega) (by omega)
  have k1 := below1 w (.cells #[.slice A n ca, .slice B rs.length cb] 32)
  have k2 := below1 (w.alloc (.cells #[.slice A n ca, .slice B rs.length cb] 32)) (.cells #[.slice none 0 0, .slice none 0 0] 42)
  have k3 := below1 ((w.alloc (.cells #[.slice A n ca, .slice B rs.length cb] 32)).alloc (.cells #[.slice none 0 0, .slice none 0 0] 42)) (.cells #[.slice none 0 0, .slice none 0 0] 42)
  have k4 := below1 (((w.alloc (.cells #[.slice A n ca, .slice B rs.length cb] 32)).alloc (.cells #[.slice none 0 0, .slice none 0 0] 42)).alloc (.cells #[.slice none 0 0, .slice none 0 0] 42)) (.cells (madeCells #[.bool false] n) 4)
  have k5 := below1 ((((w.alloc (.cells #[.slice A n ca, .slice B rs.length cb] 32)).alloc (.cells #[.slice none 0 0, .slice none 0 0] 42)).alloc (.cells #[.slice none 0 0, .slice none 0 0] 42)).alloc (.cells (madeCells #[.bool false] n) 4)) (.cells (madeCells #[.int .i64 0] n) 3)
  have k6 := below1 (((((w.alloc (.cells #[.slice A n ca, .slice B rs.length cb] 32)).alloc (.cells #[.slice none 0 0, .slice none 0 0] 42)).alloc (.cells #[.slice none 0 0, .slice none 0 0] 42)).alloc (.cells (madeCells #[.bool false] n) 4)).alloc (.cells (madeCells #[.int .i64 0] n) 3)) (.cells #[.int .i64 z0, .int .i64 (S : Int)] 73)
  have s1 : (w.alloc (.cells #[.slice A n ca, .slice B rs.length cb] 32)).heap.size = w.heap.size + 1 := World.size_alloc _ _
  have s2 : ((w.alloc (.cells #[.slice A n ca, .slice B rs.length cb] 32)).alloc (.cells #[.slice none 0 0, .slice none 0 0] 42)).heap.size = w.heap.size + 2 := by rw [World.size_alloc, s1]
  have s3 : (((w.alloc (.cells #[.slice A n ca, .slice B rs.length cb] 32)).alloc (.cells #[.slice none 0 0, .slice none 0 0] 42)).alloc (.cells #[.slice none 0 0, .slice none 0 0] 42)).heap.size = w.heap.size + 3 := by rw [World.size_alloc, s2]
  have s4 : ((((w.alloc (.cells #[.slice A n ca, .slice B rs.length cb] 32)).alloc (.cells #[.slice none 0 0, .slice none 0 0] 42)).alloc (.cells #[.slice none 0 0, .slice none 0 0] 42)).alloc (.cells (madeCells #[.bool false] n) 4)).heap.size = w.heap.size + 4 := by rw [World.size_alloc, s3]
  have s5 : (((((w.alloc (.cells #[.slice A n ca, .slice B rs.length cb] 32)).alloc (.cells #[.slice none 0 0, .slice none 0 0] 42)).alloc (.cells #[.slice none 0 0, .slice none 0 0] 42)).alloc (.cells (madeCells #[.bool false] n) 4)).alloc (.cells (madeCells #[.int .i64 0] n) 3)).heap.size = w.heap.size + 5 := by rw [World.size_alloc, s4]
  have X3 := ((Pair.new w 32 (.slice A n ca) (.slice B rs.length cb)).below k2).below k3
  have X4 := X3.below k4
  have X6 := (X4.below k5).below k6
  have R6 : Pair ((((((w.alloc (.cells #[.slice A n ca, .slice B rs.length cb] 32)).alloc (.cells #[.slice none 0 0, .slice none 0 0] 42)).alloc (.cells #[.slice none 0 0, .slice none 0 0] 42)).alloc (.cells (madeCells #[.bool false] n) 4)).alloc (.cells (madeCells #[.int .i64 0] n) 3)).alloc (.cells #[.int .i64 z0, .int .i64 (S : Int)] 73)) (w.heap.size + 1) 42 (.slice none 0 0) (.slice none 0 0) := by
    have := ((((Pair.new (w.alloc (.cells #[.slice A n ca, .slice B rs.length cb] 32)) 42 (.slice none 0 0) (.slice none 0 0)).below k3).below k4).below k5).below k6
    rw [s1] at this; exact this
  have O6 : Pair ((((((w.alloc (.cells #[.slice A n ca, .slice B rs.length cb] 32)).alloc (.cells #[.slice none 0 0, .slice none 0 0] 42)).alloc (.cells #[.slice none 0 0, .slice none 0 0] 42)).alloc (.cells (madeCells #[.bool false] n) 4)).alloc (.cells (madeCells #[.int .i64 0] n) 3)).alloc (.cells #[.int .i64 z0, .int .i64 (S : Int)] 73)) (w.heap.size + 2) 42 (.slice none 0 0) (.slice none 0 0) := by
    have := (((Pair.new ((w.alloc (.cells #[.slice A n ca, .slice B rs.length cb] 32)).alloc (.cells #[.slice none 0 0, .slice none 0 0] 42)) 42 (.slice none 0 0) (.slice none 0 0)).below k4).below k5).below k6
    rw [s2] at this; exact this
  have S6 : BRow ((((((w.alloc (.cells #[.slice A n ca, .slice B rs.length cb] 32)).alloc (.cells #[.slice none 0 0, .slice none 0 0] 42)).alloc (.cells #[.slice none 0 0, .slice none 0 0] 42)).alloc (.cells (madeCells #[.bool false] n) 4)).alloc (.cells (madeCells #[.int .i64 0] n) 3)).alloc (.cells #[.int .i64 z0, .int .i64 (S : Int)] 73)) (w.heap.size + 3) n (fun j => idsIn [] (j : Int)) := by
    have := ((BRow.made (((w.alloc (.cells #[.slice A n ca, .slice B rs.length cb] 32)).alloc (.cells #[.slice none 0 0, .slice none 0 0] 42)).alloc (.cells #[.slice none 0 0, .slice none 0 0] 42)) n).below k5).below k6
    rw [s3] at this; exact this
  have I6 : IRow ((((((w.alloc (.cells #[.slice A n ca, .slice B rs.length cb] 32)).alloc (.cells #[.slice none 0 0, .slice none 0 0] 42)).alloc (.cells #[.slice none 0 0, .slice none 0 0] 42)).alloc (.cells (madeCells #[.bool false] n) 4)).alloc (.cells (madeCells #[.int .i64 0] n) 3)).alloc (.cells #[.int .i64 z0, .int .i64 (S : Int)] 73)) (w.heap.size + 4) n (fun _ => 0) := by
    have := (IRow.made ((((w.alloc (.cells #[.slice A n ca, .slice B rs.length cb] 32)).alloc (.cells #[.slice none 0 0, .slice none 0 0] 42)).alloc (.cells #[.slice none 0 0, .slice none 0 0] 42)).alloc (.cells (madeCells #[.bool false] n) 4)) n).below k6
    rw [s4] at this; exact this
  have Q6 : IsPts ((((((w.alloc (.cells #[.slice A n ca, .slice B rs.length cb] 32)).alloc (.cells #[.slice none 0 0, .slice none 0 0] 42)).alloc (.cells #[.slice none 0 0, .slice none 0 0] 42)).alloc (.cells (madeCells #[.bool false] n) 4)).alloc (.cells (madeCells #[.int .i64 0] n) 3)).alloc (.cells #[.int .i64 z0, .int .i64 (S : Int)] 73)) (some ⟨w.heap.size + 5, 0, none⟩) [(z0, (S : Int))] := by
    have := one_pts (((((w.alloc (.cells #[.slice A n ca, .slice B rs.length cb] 32)).alloc (.cells #[.slice none 0 0, .slice none 0 0] 42)).alloc (.cells #[.slice none 0 0, .slice none 0 0] 42)).alloc (.cells (madeCells #[.bool false] n) 4)).alloc (.cells (madeCells #[.int .i64 0] n) 3)) z0 (S : Int)
    rw [s5] at this; exact this
  have K5 : Below w.heap.size w (((((w.alloc (.cells #[.slice A n ca, .slice B rs.length cb] 32)).alloc (.cells #[.slice none 0 0, .slice none 0 0] 42)).alloc (.cells #[.slice none 0 0, .slice none 0 0] 42)).alloc (.cells (madeCells #[.bool false] n) 4)).alloc (.cells (madeCells #[.int .i64 0] n) 3)) := (((k1.trans (k2.mono k1.size)).trans (k3.mono (k1.trans (k2.mono k1.size)).size)).trans (k4.mono (by rw [s3]; omega))).trans (k5.mono (by rw [s4]; omega))
  have K6 := K5.trans (k6.mono K5.size)
  have dS5 := cell_under (K5.mono (Nat.le_refl _)) dS
  have hSP : SpW w A B n ca cb rs zs (.slice none 0 0) (.slice none 0 0) [] ((((((w.alloc (.cells #[.slice A n ca, .slice B rs.length cb] 32)).alloc (.cells #[.slice none 0 0, .slice none 0 0] 42)).alloc (.cells #[.slice none 0 0, .slice none 0 0] 42)).alloc (.cells (madeCells #[.bool false] n) 4)).alloc (.cells (madeCells #[.int .i64 0] n) 3)).alloc (.cells #[.int .i64 z0, .int .i64 (S : Int)] 73)) := ⟨X6, R6, O6, S6, ⟨_, I6⟩, World.ownsRow_nil _ _ _ _, World.ownsRow_nil _ _ _ _, fun g e => by simp [Value.ownBlock] at e, K6⟩
  obtain ⟨x0, x1, -, -⟩ := X3.cells
  obtain ⟨y0, y1, -, -⟩ := X4.cells
  have hSl : (S : Int) < zs.length := by omega
  have HSP := Lib.hid hSP
  have HQ6 := Lib.hid Q6
  have h1 := hmk1 (((w.alloc (.cells #[.slice A n ca, .slice B rs.length cb] 32)).alloc (.cells #[.slice none 0 0, .slice none 0 0] 42)).alloc (.cells #[.slice none 0 0, .slice none 0 0] 42))
  have h2 := hmk2 ((((w.alloc (.cells #[.slice A n ca, .slice B rs.length cb] 32)).alloc (.cells #[.slice none 0 0, .slice none 0 0] 42)).alloc (.cells #[.slice none 0 0, .slice none 0 0] 42)).alloc (.cells (madeCells #[.bool false] n) 4))
  clear k1 k2 k3 k4 k5 k6 s1 s2 s3 s4 s5 X3 X4 X6 R6 O6 S6 I6 Q6 K5 K6 hSP dS hmk1 hmk2
  go_enter Try.func51, Try.ntmps51
  go_wp2_with fail
  obtain ⟨W6, hW6⟩ : ∃ W6, W6 = ((((((w.alloc (.cells #[.slice A n ca, .slice B rs.length cb] 32)).alloc (.cells #[.slice none 0 0, .slice none 0 0] 42)).alloc (.cells #[.slice none 0 0, .slice none 0 0] 42)).alloc (.cells (madeCells #[.bool false] n) 4)).alloc (.cells (madeCells #[.int .i64 0] n) 3)).alloc (.cells #[.int .i64 z0, .int .i64 (S : Int)] 73)) := ⟨_, rfl⟩
  rw [← hW6] at HSP HQ6 ⊢
  clear hW6 x0 x1 y0 y1 h1 h2 dS5
  rw [show w.heap.size + 1 + 1 = w.heap.size + 2 from rfl, show w.heap.size + 2 + 1 = w.heap.size + 3 from rfl, show w.heap.size + 3 + 1 = w.heap.size + 4 from rfl, show w.heap.size + 4 + 1 = w.heap.size + 5 from rfl]
  have HZC : Hid (∀ V, Below w.heap.size w V → ∀ i, i < zs.length → V.cell? ⟨db, dof + i, none⟩ = some (.int .i64 (zg zs i))) := Lib.hid fun V k i hi => by
    obtain ⟨b', o', e, -, c⟩ := (hzz.below k).at_ hi
    injection e with e
    injection e with e1 e2
    subst e1 e2
    exact c
  go_loopw [12] (fun v wr => ∃ (A' : Option Addr) (ca' f : Nat) (q D : List (Int × Int)) (V1 V2 : Value), v = .slice A' q.length ca' ∧ q.length ≤ ca' ∧ IsPts wr A' q ∧ Hid (QAt w V1 V2 A') ∧ SpW w A B n ca cb rs zs V1 V2 D wr ∧ Hid (SI n q D) ∧ Hid (f + D.length = n + 1) ∧ Hid (srch zs rs t f q D = L)) (fun _ wr => n + 1 - outLen w wr)
  case atStart => exact ⟨_, _, n + 1, [(z0, (S : Int))], [], _, _, rfl, by simp, HQ6.out, Lib.hid fun a e => by (injection e with e; subst e; exact ⟨by simp, by simp [Value.ownBlock], by simp [Value.ownBlock]⟩), HSP.out, HSI, Lib.hid (by simp), HL⟩
  case round =>
    clear HSP HQ6 HSI HL
    obtain ⟨A', ca', f, q, D, V1, V2, rfl, hca, hQ, HQA, U, HSI, HF, HL⟩ := hrel
    obtain ⟨A1, d1, rfl⟩ := own_form' U.o1
    obtain ⟨A2, d2, rfl⟩ := own_form' U.o2
    have HM0 := Lib.hid (show outLen w wr = D.length by unfold outLen; rw [U.O.cells.1]; rfl)
    cases q with
    | nil =>
      have HLD := Lib.hid (show D = L by rw [← HL.out, srch_nil])
      have o1 := ownsRow_far (c := w.heap.size + 1) (ownsRow_far (c := w.heap.size + 1) U.o1 (by omega) 0 (.slice A1 D.length d1)) (by omega) 1 (.slice A2 D.length d2)
      have o2 := ownsRow_far (c := w.heap.size + 1) (ownsRow_far (c := w.heap.size + 1) U.o2 (by omega) 0 (.slice A1 D.length d1)) (by omega) 1 (.slice A2 D.length d2)
      have KF := (U.K.setCell (p := ⟨w.heap.size + 1, 0, none⟩) (by simp) (.slice A1 D.length d1)).setCell (p := ⟨w.heap.size + 1, 1, none⟩) (by simp) (.slice A2 D.length d2)
      have HE := Lib.hid (seen_end (os := idsL D) (ds := dsL zs D) (by rw [show (idsL D).length = D.length by simp [idsL]]; exact o1) (by rw [show (dsL zs D).length = D.length by simp [dsL]]; exact o2) (by omega) U.ne KF)
      obtain ⟨r0, r1, r2, r3⟩ := U.R.cells
      obtain ⟨q0, q1, -, -⟩ := U.O.cells
      obtain ⟨u0, u1, -, -⟩ := ((U.R.set0 (.slice A1 D.length d1)).set1 (.slice A2 D.length d2)).cells
      clear o1 o2 KF U
      go_wp2
      exact bodyPost_ret (v := .agg #[.slice A1 D.length d1, .slice A2 D.length d2]) (by simp [results, Try.results51, go_sem, u0, u1]) rfl (by rw [← HLD.out]; exact HE.out)
    | cons x q' =>
      have HBD := Lib.hid (HSI.out.bd x (by simp))
      have hxi := HSI.out.qin x (by simp)
      obtain ⟨xk, UU, hxe⟩ : ∃ (xk : Int) (UU : Nat), x = (xk, (UU : Int)) := ⟨x.1, x.2.toNat, Prod.ext rfl (by show x.2 = _; omega)⟩
      subst hxe
      have hUn : UU < n := by have := hxi.2; simpa using this
      have hUz : UU < zs.length := by have := HZL.out; omega
      have hUi : (UU : Int) < zs.length := by omega
      obtain ⟨qb, qo, rfl, hql, c0, c1⟩ := hQ.at_ (k := 0) (by simp)
      have c0' : wr.cell? ⟨qb, qo, none⟩ = some (.int .i64 xk) := by simpa [ptg] using c0
      have c1' : wr.cell? ⟨qb, qo + 1, none⟩ = some (.int .i64 (UU : Int)) := by simpa [ptg] using c1
      have pU := HZC.out _ U.K UU hUz
      have hpb := pot_bd HZ.out.pin hUz
      have hDl := HSI.out.dlen
      have hbd : 0 ≤ xk ∧ xk ≤ 1000000 + 2000000 * (D.length : Int) := HBD.out
      have HDI := Lib.hid (show xk - zg zs UU = xk - zg zs UU from rfl)
      obtain ⟨pz, hpz⟩ : ∃ pz, pz = zg zs UU := ⟨_, rfl⟩
      rw [← hpz] at pU hpb
      have HPZ := Lib.hid hpz
      have hwr : IntKind.i64.wrap (xk - pz) = xk - pz := IntWalk.i64_in _ (by omega)
      have HU := Lib.hid (fun m => (⟨U.below (below_drewN (Below.refl _ wr) m), hQ.below (below_drewN (Below.refl _ wr) m)⟩ : SpW w A B n ca cb rs zs (.slice A1 D.length d1) (.slice A2 D.length d2) D (wr.drewN m) ∧ IsPts (wr.drewN m) (some ⟨qb, qo, none⟩) ((xk, (UU : Int)) :: q')))
      have hl1 : ((((xk, (UU : Int)) :: q').length : Int) > 0) := by simp
      have hl2 : (0 : Int) < ((xk, (UU : Int)) :: q').length := hl1
      clear c0 c1 hpz hxi U hQ hbd HDI
      go_wp2_with fail
      go_quiet (fail)
      have UQ := HU.out nq
      generalize World.drewN wr nq = wd at UQ ⊢
      obtain ⟨U, hQ⟩ := UQ
      have hql2 : qb < wd.heap.size := by obtain ⟨b', o', e, hh, -⟩ := hQ (by simp); injection e with e; injection e with e1 _; omega
      clear HU c0' c1' pU
      have sc := U.S.cell hUn
      have sf := U.S.frozen UU
      obtain ⟨g, hg⟩ := U.I
      have ic := (hg.far (c := w.heap.size + 3) (by omega) UU (.bool true)).cell hUn
      have if_ := (hg.far (c := w.heap.size + 3) (by omega) UU (.bool true)).frozen UU
      clear hg
      obtain ⟨B1, e1, w1, B2, e2, w2, hr1, hr2, U2, Ob, O1, O2, HQK⟩ := U.settle hUn (by omega) xk (xk - pz) (by rw [HPZ.out])
      obtain ⟨a0, a1, -, -⟩ := Ob.cells
      obtain ⟨b0, b1, b2, -⟩ := O1.cells
      obtain ⟨d0, d1', -, -⟩ := (O1.set0 (.slice B1 (D.length + 1) e1)).cells
      obtain ⟨f0, f1, -, f3⟩ := O2.cells
      have hU2 := Lib.hid U2
      have hHQ := Lib.hid HQK
      have hcc : 1 ≤ ca' := by simp at hca; omega
      have hcl : q'.length + 1 ≤ ca' := by simpa using hca
      clear U Ob O1 O2 U2 HQK hca hl1 hl2
      obtain ⟨f', hf'⟩ : ∃ f', f = f' + 1 := ⟨f - 1, by have := HF.out; have := HSI.out.dlen; omega⟩
      subst hf'
      by_cases hut : UU = t
      · subst hut
        have HLD := Lib.hid (show D ++ [(xk, (UU : Int))] = L by rw [← HL.out]; exact (srch_goal (x := (xk, (UU : Int))) rfl).symm)
        by_cases hc : ca' = 1
        · have hq0 : q' = [] := List.eq_nil_of_length_eq_zero (by omega)
          subst hq0
          subst hc
          have UN := hU2.out
          have o1 := ownsRow_far (c := w.heap.size + 1) (ownsRow_far (c := w.heap.size + 1) UN.o1 (by omega) 0 (.slice B1 (D.length + 1) e1)) (by omega) 1 (.slice B2 (D.length + 1) e2)
          have o2 := ownsRow_far (c := w.heap.size + 1) (ownsRow_far (c := w.heap.size + 1) UN.o2 (by omega) 0 (.slice B1 (D.length + 1) e1)) (by omega) 1 (.slice B2 (D.length + 1) e2)
          have KF := (UN.K.setCell (p := ⟨w.heap.size + 1, 0, none⟩) (by simp) (.slice B1 (D.length + 1) e1)).setCell (p := ⟨w.heap.size + 1, 1, none⟩) (by simp) (.slice B2 (D.length + 1) e2)
          have HE := Lib.hid (seen_end (os := idsL (D ++ [(xk, (UU : Int))])) (ds := dsL zs (D ++ [(xk, (UU : Int))])) (by rw [show (idsL (D ++ [(xk, (UU : Int))])).length = (D ++ [(xk, (UU : Int))]).length by simp [idsL]]; exact o1) (by rw [show (dsL zs (D ++ [(xk, (UU : Int))])).length = (D ++ [(xk, (UU : Int))]).length by simp [dsL]]; exact o2) (by omega) UN.ne KF)
          obtain ⟨r0, r1, r2, r3⟩ := UN.R.cells
          obtain ⟨q0, q1, -, -⟩ := UN.O.cells
          obtain ⟨u0, u1, -, -⟩ := ((UN.R.set0 (.slice B1 (D.length + 1) e1)).set1 (.slice B2 (D.length + 1) e2)).cells
          clear o1 o2 KF UN
          go_wp2_with (at_builtin; first | (refine Lib.wpList_append_run _ rfl _ _ _ _ rfl _ _ rfl rfl _ _ hr1 ?_) | (refine Lib.wpList_append_run _ rfl _ _ _ _ rfl _ _ rfl rfl _ _ hr2 ?_))
          exact bodyPost_ret (v := .agg #[.slice B1 (D.length + 1) e1, .slice B2 (D.length + 1) e2]) (by simp [results, Try.results51, go_sem, u0, u1]) rfl (by rw [← HLD.out]; exact HE.out)
        · have hc2 : 1 < ca' := by omega
          have UN := hU2.out
          have o1 := ownsRow_far (c := w.heap.size + 1) (ownsRow_far (c := w.heap.size + 1) UN.o1 (by omega) 0 (.slice B1 (D.length + 1) e1)) (by omega) 1 (.slice B2 (D.length + 1) e2)
          have o2 := ownsRow_far (c := w.heap.size + 1) (ownsRow_far (c := w.heap.size + 1) UN.o2 (by omega) 0 (.slice B1 (D.length + 1) e1)) (by omega) 1 (.slice B2 (D.length + 1) e2)
          have KF := (UN.K.setCell (p := ⟨w.heap.size + 1, 0, none⟩) (by simp) (.slice B1 (D.length + 1) e1)).setCell (p := ⟨w.heap.size + 1, 1, none⟩) (by simp) (.slice B2 (D.length + 1) e2)
          have HE := Lib.hid (seen_end (os := idsL (D ++ [(xk, (UU : Int))])) (ds := dsL zs (D ++ [(xk, (UU : Int))])) (by rw [show (idsL (D ++ [(xk, (UU : Int))])).length = (D ++ [(xk, (UU : Int))]).length by simp [idsL]]; exact o1) (by rw [show (dsL zs (D ++ [(xk, (UU : Int))])).length = (D ++ [(xk, (UU : Int))]).length by simp [dsL]]; exact o2) (by omega) UN.ne KF)
          obtain ⟨r0, r1, r2, r3⟩ := UN.R.cells
          obtain ⟨q0, q1, -, -⟩ := UN.O.cells
          obtain ⟨u0, u1, -, -⟩ := ((UN.R.set0 (.slice B1 (D.length + 1) e1)).set1 (.slice B2 (D.length + 1) e2)).cells
          clear o1 o2 KF UN
          go_wp2_with (at_builtin; first | (refine Lib.wpList_append_run _ rfl _ _ _ _ rfl _ _ rfl rfl _ _ hr1 ?_) | (refine Lib.wpList_append_run _ rfl _ _ _ _ rfl _ _ rfl rfl _ _ hr2 ?_))
          exact bodyPost_ret (v := .agg #[.slice B1 (D.length + 1) e1, .slice B2 (D.length + 1) e2]) (by simp [results, Try.results51, go_sem, u0, u1]) rfl (by rw [← HLD.out]; exact HE.out)
      · have hutb : ((UU : Int) == (t : Int)) = false := by simp; omega
        have HUT := Lib.hid hut
        obtain ⟨Q, hQe⟩ : ∃ Q : Nat → List (Int × Int), Q = puK zs rs (xk, (UU : Int)) (D ++ [(xk, (UU : Int))]) q' := ⟨_, rfl⟩
        have HQ0 : Hid (Q 0 = q') := Lib.hid (by rw [hQe]; rfl)
        have HQS : Hid (∀ i, i ≤ rs.length → SI n (Q i) (D ++ [(xk, (UU : Int))])) := Lib.hid (by rw [hQe]; exact HSI.out.next HZ.out)
        have HQP : Hid (∀ i, (arg rs i).1 = (UU : Int) → idsIn (D ++ [(xk, (UU : Int))]) (arg rs i).2.1 = false → Q (i + 1) = putL (Q i) (xk + red rs zs i, (arg rs i).2.1)) := Lib.hid (by rw [hQe]; exact fun i h1 h2 => puK_put h1 h2)
        have HQN : Hid (∀ i, ¬ ((arg rs i).1 = (UU : Int) ∧ idsIn (D ++ [(xk, (UU : Int))]) (arg rs i).2.1 = false) → Q (i + 1) = Q i) := Lib.hid (by rw [hQe]; exact fun i h => puK_skip h)
        have HLN : Hid (srch zs rs t f' (Q rs.length) (D ++ [(xk, (UU : Int))]) = L) := Lib.hid (by rw [hQe]; exact ((srch_on (x := (xk, (UU : Int))) (fun e => HUT.out (by have : (UU : Int) = t := e; omega))).symm.trans HL.out))
        have HFN := Lib.hid (show f' + (D ++ [(xk, (UU : Int))]).length = n + 1 by have := HF.out; simp; omega)
        clear hQe hut
        by_cases hc : ca' = 1
        · have hq0 : q' = [] := List.eq_nil_of_length_eq_zero (by omega)
          subst hq0
          subst hc
          go_wp2_with (at_builtin; first | (refine Lib.wpList_append_run _ rfl _ _ _ _ rfl _ _ rfl rfl _ _ hr1 ?_) | (refine Lib.wpList_append_run _ rfl _ _ _ _ rfl _ _ rfl rfl _ _ hr2 ?_))
          obtain ⟨QI0, QA0⟩ := hHQ.out (some ⟨qb, qo, none⟩) [] (fun h => absurd h (by simp)) HQA.out (fun a e => by injection e with e; subst e; exact hql2)
          have UN := hU2.out
          clear hU2 hHQ hr1 hr2 a0 a1 b0 b1 b2 d0 d1' f0 f1 f3 sc sf ic if_ hQ
          obtain ⟨W3, hW3⟩ : ∃ W3, W3 = w2.setCell ⟨w.heap.size + 2, 1, none⟩ (.slice B2 (D.length + 1) e2) := ⟨_, rfl⟩
          rw [← hW3] at UN QI0 ⊢
          clear hW3
          rw [← HQ0.out] at QI0
          have HQA0 := Lib.hid QA0
          clear QA0
          go_loopw [12, 15] (fun vq vi wr => ∃ (i : Nat) (A3 : Option Addr) (c3 : Nat), i ≤ rs.length ∧ vi = .int .i64 i ∧ vq = .slice A3 (Q i).length c3 ∧ (Q i).length ≤ c3 ∧ IsPts wr A3 (Q i) ∧ Hid (QAt w (.slice B1 (D.length + 1) e1) (.slice B2 (D.length + 1) e2) A3) ∧ SpW w A B n ca cb rs zs (.slice B1 (D.length + 1) e1) (.slice B2 (D.length + 1) e2) (D ++ [(xk, (UU : Int))]) wr) (fun _ i _ => rs.length - (intOf i).toNat)
          case atStart => exact ⟨0, _, _, by omega, rfl, (by rw [HQ0.out]; rfl), by rw [HQ0.out]; simp, QI0, HQA0, UN⟩
          case round =>
            clear QI0 HQA0 UN
            obtain ⟨i, A3, c3, hi, rfl, rfl, hc3, QI, HQA, U⟩ := hrel
            obtain ⟨x0, x1, -, -⟩ := U.X.cells
            by_cases hlt : i < rs.length
            · obtain ⟨bb, bo, rfl, -, c0, c1, c2⟩ := (hb.below U.K).at_ hlt
              obtain ⟨⟨f0, f1⟩, ⟨t0, t1⟩, hft, l0, l1⟩ := HZ.out.arcs _ (arg_mem hlt)
              have HPi := Lib.hid (HQP.out i)
              have HNi := Lib.hid (HQN.out i)
              have HRi : Hid (red rs zs i = (arg rs i).2.2 + zg zs (arg rs i).2.1.toNat - zg zs (arg rs i).1.toNat) := Lib.hid rfl
              have HSi := Lib.hid (HQS.out i hi)
              generalize hred : red rs zs i = rd at HPi HRi
              clear hred
              generalize arg rs i = a at c0 c1 c2 f0 f1 t0 t1 hft l0 l1 HPi HNi HRi
              obtain ⟨f, tt, Ln⟩ := a
              obtain ⟨F, rfl⟩ : ∃ F : Nat, f = (F : Int) := ⟨f.toNat, by simp at f0; omega⟩
              obtain ⟨T, rfl⟩ : ∃ T : Nat, tt = (T : Int) := ⟨tt.toNat, by simp at t0; omega⟩
              simp only at c0 c1 c2 f0 f1 t0 t1 hft l0 l1 HPi HNi HRi
              have hF : F < n := by omega
              have hT : T < n := by omega
              have HLn := Lib.hid (And.intro l0 l1)
              have k1 := below1 wr (.cells #[.int .i64 (F : Int), .int .i64 (T : Int), .int .i64 Ln] 75)
              have Y : ArcBox (wr.alloc (.cells #[.int .i64 (F : Int), .int .i64 (T : Int), .int .i64 Ln] 75)) wr.heap.size F T Ln := arc_new wr F T Ln _
              have hVs := k1.size
              have U1 := U.below k1
              have QI1 := QI.below k1
              have sc := U1.S.cell hT
              obtain ⟨y0, y1, y2⟩ := Y.cells
              have hTn : (T : Int) < n := by omega
              have HUo := Lib.hid U
              clear U QI k1 f0 f1 t0 t1 hft l0 l1
              by_cases hFU : F = UU
              · subst hFU
                have hfe : ((F : Int) == (F : Int)) = true := by simp
                cases hd : idsIn (D ++ [(xk, (F : Int))]) (T : Int) with
                | true =>
                  rw [hd] at sc
                  have HNX := Lib.hid (HNi.out (fun h => by rw [hd] at h; cases h.2))
                  clear hd
                  go_wp2
                  go_roundw
                  case rel => exact ⟨i + 1, _, _, by omega, by go_num, by rw [HNX.out], by rw [HNX.out]; exact hc3, by rw [HNX.out]; exact QI1, HQA, U1⟩
                  case measure => simp [intOf]; omega
                | false =>
                  rw [hd] at sc
                  have hTz : T < zs.length := by have := HZL.out; omega
                  have hTzi : (T : Int) < zs.length := by omega
                  have pT := HZC.out _ U1.K T hTz
                  have hpT := pot_bd HZ.out.pin hTz
                  have HNX := Lib.hid (HPi.out rfl hd)
                  have HRr := Lib.hid (show xk + rd = xk - pz + Ln + zg zs T by have := HRi.out; rw [this, HPZ.out]; simp; omega)
                  rw [HRr.out] at HNX
                  obtain ⟨pt, hpt⟩ : ∃ pt, pt = zg zs T := ⟨_, rfl⟩
                  rw [← hpt] at pT hpT HNX
                  have hL0 : 1 ≤ Ln := HLn.out.1
                  have hL1 : Ln ≤ 10000 := HLn.out.2
                  have hxb : 0 ≤ xk ∧ xk ≤ 1000000 + 2000000 * (D.length : Int) := HBD.out
                  have hDn : D.length ≤ 20 := by have := HSI.out.dlen; omega
                  have hw1 : IntKind.i64.wrap (xk - pz + Ln) = xk - pz + Ln := IntWalk.i64_in _ (by omega)
                  have hw2 : IntKind.i64.wrap (xk - pz + Ln + pt) = xk - pz + Ln + pt := IntWalk.i64_in _ (by omega)
                  have hql : (Q i).length ≤ 1048576 := by have := HSi.out.qlen; omega
                  clear hd hpt hxb hDn hL0 hL1
                  go_wp2_with fail
                  obtain ⟨V, hV⟩ : ∃ V, V = (wr.alloc (.cells #[.int .i64 (F : Int), .int .i64 (T : Int), .int .i64 Ln] 75)) := ⟨_, rfl⟩
                  rw [← hV] at U1 Y QI1 hVs pT y0 y1 y2 ⊢
                  clear hV sc x0 x1 c0 c1 c2
                  have hTS : RdS wr.heap.size F T Ln db (dof + T) pt V.drew := ⟨⟨y0, y1, y2⟩, pT⟩
                  have hQd : IsPts V.drew A3 (Q i) := QI1.below (Below.refl V.heap.size V).drew
                  have HU1 := Lib.hid U1
                  clear U1 Y QI1
                  go_region_held3 (fun w' => RdS wr.heap.size F T Ln db (dof + T) pt w')
                    (first | exact hTS | assumption | (refine RdS.under (by assumption) ?_; first | exact hTS | assumption))
                    (first | (go_at_call 86; refine (l06Put_any A3 c3 (Q i) (xk - pz + Ln + pt) (T : Int) V.drew hql hQd).mono ?_; rintro e wz ⟨v, rfl, own, bz⟩))
                  all_goals (
                    obtain ⟨A4, c4, rfl, hc4, hA4⟩ := ownI_is own
                    have UZ := HU1.out.below ((Below.refl V.heap.size V).drew.trans bz)
                    have HQZ := Lib.hid (qAt_fresh HUo.out own (by exact hVs))
                    have IZ : IsPts wz A4 (putL (Q i) (xk - pz + Ln + pt, (T : Int))) := fun hp => by
                      obtain ⟨g, rfl, -, ho⟩ := hA4 hp
                      exact ⟨g, 0, rfl, ho.lt, fun i hi => ⟨by rw [ho.cell (i := i * 2) (by omega), flatP_0], by rw [show 0 + i * 2 + 1 = 0 + (i * 2 + 1) by omega, ho.cell (i := i * 2 + 1) (by omega), flatP_1]⟩⟩
                    rw [← HNX.out] at IZ hc4 ⊢
                    clear own hA4 bz hTS hQd y0 y1 y2 pT
                    go_wp2
                    go_roundw
                    case rel => exact ⟨i + 1, _, _, by omega, by go_num, rfl, hc4, IZ, HQZ, UZ⟩
                    case measure => simp [intOf]; omega)
              · have hfe : ((F : Int) == (UU : Int)) = false := by simp; omega
                have HNX := Lib.hid (HNi.out (fun h => hFU (by have := h.1; omega)))
                go_wp2
                go_roundw
                case rel => exact ⟨i + 1, _, _, by omega, by go_num, by rw [HNX.out], by rw [HNX.out]; exact hc3, by rw [HNX.out]; exact QI1, HQA, U1⟩
                case measure => simp [intOf]; omega
            · obtain rfl : i = rs.length := by omega
              have HSN := Lib.hid (HQS.out rs.length (Nat.le_refl _))
              have HMN := Lib.hid (show outLen w wr = D.length + 1 by unfold outLen; rw [U.O.cells.1]; rfl)
              have HDL := Lib.hid HSI.out.dlen
              go_wp2
              go_roundw
              case rel => exact ⟨A3, c3, f', Q rs.length, _, _, _, rfl, hc3, QI, HQA, U, HSN, HFN, HLN⟩
              case measure => rw [HM0.out, HMN.out]; have := HDL.out; omega
        · have hc2 : 1 < ca' := by omega
          have QT : IsPts wd (some ⟨qb, qo + 2, none⟩) q' := by have := isPts_drop 1 hQ; simpa using this
          go_wp2_with (at_builtin; first | (refine Lib.wpList_append_run _ rfl _ _ _ _ rfl _ _ rfl rfl _ _ hr1 ?_) | (refine Lib.wpList_append_run _ rfl _ _ _ _ rfl _ _ rfl rfl _ _ hr2 ?_))
          obtain ⟨QI0, QA0⟩ := hHQ.out (some ⟨qb, qo + 2, none⟩) q' QT (fun a e => by injection e with e; subst e; exact HQA.out ⟨qb, qo, none⟩ rfl) (fun a e => by injection e with e; subst e; exact hql2)
          have UN := hU2.out
          clear hU2 hHQ hr1 hr2 a0 a1 b0 b1 b2 d0 d1' f0 f1 f3 sc sf ic if_ hQ
          obtain ⟨W3, hW3⟩ : ∃ W3, W3 = w2.setCell ⟨w.heap.size + 2, 1, none⟩ (.slice B2 (D.length + 1) e2) := ⟨_, rfl⟩
          rw [← hW3] at UN QI0 ⊢
          clear hW3
          rw [← HQ0.out] at QI0 ⊢
          have HQA0 := Lib.hid QA0
          clear QA0
          go_loopw [12, 15] (fun vq vi wr => ∃ (i : Nat) (A3 : Option Addr) (c3 : Nat), i ≤ rs.length ∧ vi = .int .i64 i ∧ vq = .slice A3 (Q i).length c3 ∧ (Q i).length ≤ c3 ∧ IsPts wr A3 (Q i) ∧ Hid (QAt w (.slice B1 (D.length + 1) e1) (.slice B2 (D.length + 1) e2) A3) ∧ SpW w A B n ca cb rs zs (.slice B1 (D.length + 1) e1) (.slice B2 (D.length + 1) e2) (D ++ [(xk, (UU : Int))]) wr) (fun _ i _ => rs.length - (intOf i).toNat)
          case atStart => exact ⟨0, _, _, by omega, rfl, rfl, by rw [HQ0.out]; omega, QI0, HQA0, UN⟩
          case round =>
            clear QI0 HQA0 UN
            obtain ⟨i, A3, c3, hi, rfl, rfl, hc3, QI, HQA, U⟩ := hrel
            obtain ⟨x0, x1, -, -⟩ := U.X.cells
            by_cases hlt : i < rs.length
            · obtain ⟨bb, bo, rfl, -, c0, c1, c2⟩ := (hb.below U.K).at_ hlt
              obtain ⟨⟨f0, f1⟩, ⟨t0, t1⟩, hft, l0, l1⟩ := HZ.out.arcs _ (arg_mem hlt)
              have HPi := Lib.hid (HQP.out i)
              have HNi := Lib.hid (HQN.out i)
              have HRi : Hid (red rs zs i = (arg rs i).2.2 + zg zs (arg rs i).2.1.toNat - zg zs (arg rs i).1.toNat) := Lib.hid rfl
              have HSi := Lib.hid (HQS.out i hi)
              generalize hred : red rs zs i = rd at HPi HRi
              clear hred
              generalize arg rs i = a at c0 c1 c2 f0 f1 t0 t1 hft l0 l1 HPi HNi HRi
              obtain ⟨f, tt, Ln⟩ := a
              obtain ⟨F, rfl⟩ : ∃ F : Nat, f = (F : Int) := ⟨f.toNat, by simp at f0; omega⟩
              obtain ⟨T, rfl⟩ : ∃ T : Nat, tt = (T : Int) := ⟨tt.toNat, by simp at t0; omega⟩
              simp only at c0 c1 c2 f0 f1 t0 t1 hft l0 l1 HPi HNi HRi
              have hF : F < n := by omega
              have hT : T < n := by omega
              have HLn := Lib.hid (And.intro l0 l1)
              have k1 := below1 wr (.cells #[.int .i64 (F : Int), .int .i64 (T : Int), .int .i64 Ln] 75)
              have Y : ArcBox (wr.alloc (.cells #[.int .i64 (F : Int), .int .i64 (T : Int), .int .i64 Ln] 75)) wr.heap.size F T Ln := arc_new wr F T Ln _
              have hVs := k1.size
              have U1 := U.below k1
              have QI1 := QI.below k1
              have sc := U1.S.cell hT
              obtain ⟨y0, y1, y2⟩ := Y.cells
              have hTn : (T : Int) < n := by omega
              have HUo := Lib.hid U
              clear U QI k1 f0 f1 t0 t1 hft l0 l1
              by_cases hFU : F = UU
              · subst hFU
                have hfe : ((F : Int) == (F : Int)) = true := by simp
                cases hd : idsIn (D ++ [(xk, (F : Int))]) (T : Int) with
                | true =>
                  rw [hd] at sc
                  have HNX := Lib.hid (HNi.out (fun h => by rw [hd] at h; cases h.2))
                  clear hd
                  go_wp2
                  go_roundw
                  case rel => exact ⟨i + 1, _, _, by omega, by go_num, by rw [HNX.out], by rw [HNX.out]; exact hc3, by rw [HNX.out]; exact QI1, HQA, U1⟩
                  case measure => simp [intOf]; omega
                | false =>
                  rw [hd] at sc
                  have hTz : T < zs.length := by have := HZL.out; omega
                  have hTzi : (T : Int) < zs.length := by omega
                  have pT := HZC.out _ U1.K T hTz
                  have hpT := pot_bd HZ.out.pin hTz
                  have HNX := Lib.hid (HPi.out rfl hd)
                  have HRr := Lib.hid (show xk + rd = xk - pz + Ln + zg zs T by have := HRi.out; rw [this, HPZ.out]; simp; omega)
                  rw [HRr.out] at HNX
                  obtain ⟨pt, hpt⟩ : ∃ pt, pt = zg zs T := ⟨_, rfl⟩
                  rw [← hpt] at pT hpT HNX
                  have hL0 : 1 ≤ Ln := HLn.out.1
                  have hL1 : Ln ≤ 10000 := HLn.out.2
                  have hxb : 0 ≤ xk ∧ xk ≤ 1000000 + 2000000 * (D.length : Int) := HBD.out
                  have hDn : D.length ≤ 20 := by have := HSI.out.dlen; omega
                  have hw1 : IntKind.i64.wrap (xk - pz + Ln) = xk - pz + Ln := IntWalk.i64_in _ (by omega)
                  have hw2 : IntKind.i64.wrap (xk - pz + Ln + pt) = xk - pz + Ln + pt := IntWalk.i64_in _ (by omega)
                  have hql : (Q i).length ≤ 1048576 := by have := HSi.out.qlen; omega
                  clear hd hpt hxb hDn hL0 hL1
                  go_wp2_with fail
                  obtain ⟨V, hV⟩ : ∃ V, V = (wr.alloc (.cells #[.int .i64 (F : Int), .int .i64 (T : Int), .int .i64 Ln] 75)) := ⟨_, rfl⟩
                  rw [← hV] at U1 Y QI1 hVs pT y0 y1 y2 ⊢
                  clear hV sc x0 x1 c0 c1 c2
                  have hTS : RdS wr.heap.size F T Ln db (dof + T) pt V.drew := ⟨⟨y0, y1, y2⟩, pT⟩
                  have hQd : IsPts V.drew A3 (Q i) := QI1.below (Below.refl V.heap.size V).drew
                  have HU1 := Lib.hid U1
                  clear U1 Y QI1
                  go_region_held3 (fun w' => RdS wr.heap.size F T Ln db (dof + T) pt w')
                    (first | exact hTS | assumption | (refine RdS.under (by assumption) ?_; first | exact hTS | assumption))
                    (first | (go_at_call 86; refine (l06Put_any A3 c3 (Q i) (xk - pz + Ln + pt) (T : Int) V.drew hql hQd).mono ?_; rintro e wz ⟨v, rfl, own, bz⟩))
                  all_goals (
                    obtain ⟨A4, c4, rfl, hc4, hA4⟩ := ownI_is own
                    have UZ := HU1.out.below ((Below.refl V.heap.size V).drew.trans bz)
                    have HQZ := Lib.hid (qAt_fresh HUo.out own (by exact hVs))
                    have IZ : IsPts wz A4 (putL (Q i) (xk - pz + Ln + pt, (T : Int))) := fun hp => by
                      obtain ⟨g, rfl, -, ho⟩ := hA4 hp
                      exact ⟨g, 0, rfl, ho.lt, fun i hi => ⟨by rw [ho.cell (i := i * 2) (by omega), flatP_0], by rw [show 0 + i * 2 + 1 = 0 + (i * 2 + 1) by omega, ho.cell (i := i * 2 + 1) (by omega), flatP_1]⟩⟩
                    rw [← HNX.out] at IZ hc4 ⊢
                    clear own hA4 bz hTS hQd y0 y1 y2 pT
                    go_wp2
                    go_roundw
                    case rel => exact ⟨i + 1, _, _, by omega, by go_num, rfl, hc4, IZ, HQZ, UZ⟩
                    case measure => simp [intOf]; omega)
              · have hfe : ((F : Int) == (UU : Int)) = false := by simp; omega
                have HNX := Lib.hid (HNi.out (fun h => hFU (by have := h.1; omega)))
                go_wp2
                go_roundw
                case rel => exact ⟨i + 1, _, _, by omega, by go_num, by rw [HNX.out], by rw [HNX.out]; exact hc3, by rw [HNX.out]; exact QI1, HQA, U1⟩
                case measure => simp [intOf]; omega
            · obtain rfl : i = rs.length := by omega
              have HSN := Lib.hid (HQS.out rs.length (Nat.le_refl _))
              have HMN := Lib.hid (show outLen w wr = D.length + 1 by unfold outLen; rw [U.O.cells.1]; rfl)
              have HDL := Lib.hid HSI.out.dlen
              go_wp2
              go_roundw
              case rel => exact ⟨A3, c3, f', Q rs.length, _, _, _, rfl, hc3, QI, HQA, U, HSN, HFN, HLN⟩
              case measure => rw [HM0.out, HMN.out]; have := HDL.out; omega

end Go.Proofs.Ytcaamhoakhgnhaa
