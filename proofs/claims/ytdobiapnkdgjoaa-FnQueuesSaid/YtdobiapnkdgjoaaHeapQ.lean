/-
  The queue that container/heap works on: its items in a row, their places in a map; what its methods do.
-/
import Derived.Test.YtdobiapnkdgjoaaQueuePop
import Derived.Test.YtdobiapnkdgjoaaDrawAny
import Derived.BigRegion
import Derived.WideKeyEntry
namespace Go.Proofs.Ytdobiapnkdgjoaa
open Go.RowKit Go.Deep Go.Maps
open Go.ChangeMaps (setBlock heap_setBlock_same)

/-- A map of the places of items with different Ids. -/
structure PlOf (q : List (Int × Int)) (D : DataW Unit) : Prop where
  tidy : Tidy D
  size : Maps.size D = q.length
  has : ∀ x, Maps.has D (kI x) = true ↔ ∃ i, i < q.length ∧ idg q i = x
  at_ : ∀ i, i < q.length → ∀ z, D.atKey (kI (idg q i)) z = .lit (kI (i : Int))
  apart : ∀ i, i < q.length → ∀ j, j < i → idg q j ≠ idg q i

theorem plOf_up {q : List (Int × Int)} {D : DataW Unit} (h : PlUp q q.length D) (ha : ∀ i, i < q.length → ∀ j, j < i → idg q j ≠ idg q i) : PlOf q D :=
  ⟨h.tidy, by rw [h.size]; exact cntU_all.2 ha, h.has, fun i hi z => h.at_ i hi (fun j hj hl e => ha j hl i hj e.symm) z, ha⟩
theorem PlOf.inj {q : List (Int × Int)} {D : DataW Unit} (h : PlOf q D) {i j : Nat} (hi : i < q.length) (hj : j < q.length) (e : idg q i = idg q j) : i = j := by
  rcases Nat.lt_trichotomy i j with g | g | g
  · exact absurd e (h.apart j hj i g)
  · exact g
  · exact absurd e.symm (h.apart i hi j g)

theorem ownsMap_size {w : World} {b n : Nat} {D : DataW Unit} (h : w.ownsMap Try.prog 3 (plainElem Try.prog 3) b n D) : w.ownsMap Try.prog 3 (plainElem Try.prog 3) b (Maps.size D) D := by
  obtain ⟨es, clock, hb, F, hs, hD⟩ := h
  refine ⟨es, clock, hb, F, ?_, hD⟩
  rw [hD]; simp [Maps.size, length_sorted]

theorem grown_setBlock {w : World} {b : Nat} {o : Obj} : w.grownBy (setBlock w b o) (some b) :=
  ⟨rfl, rfl, rfl, by simp [setBlock], fun k hk hne => by simp only [setBlock, Array.getElem?_setIfInBounds]; rw [if_neg (fun e => hne (by rw [e]))]⟩
theorem setBlock_twice (w : World) (b : Nat) (o o' : Obj) : setBlock (setBlock w b o) b o' = setBlock w b o' := by
  unfold setBlock; simp

/-- An entry that is there, looked up and written. -/
theorem entry_own {w : World} {B n : Nat} {D : DataW Unit} (h : w.ownsMap Try.prog 3 (plainElem Try.prog 3) B n D) (hn : n < maxLen) {x y : Int} (hx : In64 x) (hy : In64 y) (hhas : Maps.has D (kI x) = true) :
    ∃ v0 st w1 w2, (Instr.mapEntry 105 (.map (some B)) (.int .i64 x)).run Try.prog w = .ok (.tuple #[v0, .int .i64 st]) w1 ∧ (Instr.entryStore 105 (.map (some B)) (.int .i64 st) (.int .i64 y)).run Try.prog w1 = .ok () w2 ∧
      w2.ownsMap Try.prog 3 (plainElem Try.prog 3) B (n + 1) (D.put (kI x) (.lit (kI y))) ∧ w.grownBy w1 (some B) ∧ w1.grownBy w2 (some B) := by
  have hkey : keyOf Try.prog 3 (.int .i64 x) = some (kI x) := keyOf_int_mk Try.underlying3 (WalkArith.wf_i64 hx)
  obtain ⟨w', hup, hown', -⟩ := h.store Try.law Try.underlying105 hn hkey (plainElem_int Try.underlying3 (WalkArith.wf_i64 hy))
  obtain ⟨v1, p1, hlook, -⟩ := h.look_ok Try.law Try.underlying105 (Try.zeroI w) (plainElem_int Try.underlying3 (a := 0) (by decide)) hkey
  obtain ⟨es, clock, hb, F, hs, hD⟩ := h
  rcases Try.law.find w hkey es.toList F.keys with ⟨h1, h2⟩ | ⟨j, e0, h1, h2, h3⟩
  · exfalso
    rw [hhas] at hlook
    simp [Instr.lookup, run_underlying Try.underlying105, MapKept.run_getObj_map hb, Try.law.check w es.isEmpty hkey, h1, Try.zeroI] at hlook
  · obtain ⟨s1, s2, -⟩ := F.stamped
    have hj : es[j]? = some e0 := by simpa using h2
    have hjl : j < es.size := (Array.getElem?_eq_some_iff.1 hj).1
    have hje : es[j] = e0 := (Array.getElem?_eq_some_iff.1 hj).2
    have hsame : es.modify j (fun e => { e with key := .int .i64 x }) = es := by
      apply Array.ext_getElem?
      intro k
      rw [Array.getElem?_modify]
      by_cases e : j = k
      · subst e; rw [if_pos rfl, hj]; simp [← h3]
      · rw [if_neg e]
    have hidx : es.findIdx? (fun e => ((e.born : Nat) : Int) == ((e0.born : Nat) : Int)) = some j := by
      rw [Go.WideElems.findIdx_arr]; exact Go.WideElems.findIdx_born s2 h2
    have hmod : es.modify j (fun e => { e with val := .int .i64 y }) = es.modify j (fun e' => { e' with key := .int .i64 x, val := .int .i64 y }) := by
      apply Array.ext_getElem?
      intro k
      rw [Array.getElem?_modify, Array.getElem?_modify]
      by_cases e : j = k
      · subst e; rw [if_pos rfl, if_pos rfl, hj]; simp [← h3]
      · rw [if_neg e, if_neg e]
    have hb1 : (setBlock w B (.map es clock)).heap[B]? = some (.map es clock) := heap_setBlock_same hb _
    have r1 : (Instr.mapEntry 105 (.map (some B)) (.int .i64 x)).run Try.prog w = .ok (.tuple #[e0.val, .int .i64 (e0.born : Int)]) (setBlock w B (.map es clock)) := by
      simp [Instr.mapEntry, run_underlying Try.underlying105, MapKept.run_getObj_map hb, Try.law.check w false hkey, h1, hj, h3, Try.law.stays w hkey, hsame, MapKept.run_setObj_map _ hb, Result.andThen, setBlock, goInt]
    have r2 : ∀ W : World, W.heap[B]? = some (.map es clock) → (Instr.entryStore 105 (.map (some B)) (.int .i64 (e0.born : Int)) (.int .i64 y)).run Try.prog W = .ok () (setBlock W B (.map (es.modify j (fun e' => { e' with key := .int .i64 x, val := .int .i64 y })) clock)) := by
      intro W hW
      simp [Instr.entryStore, MapKept.run_getObj_map hW, asInt, asIntOf, hidx, hmod, MapKept.run_setObj_map _ hW, Result.andThen, setBlock]
    have r3 : (Instr.mapUpdate 105 (.map (some B)) (.int .i64 x) (.int .i64 y)).run Try.prog w = .ok () (setBlock w B (.map (es.modify j (fun e' => { e' with key := .int .i64 x, val := .int .i64 y })) clock)) := by
      simp [Instr.mapUpdate, run_underlying Try.underlying105, MapKept.run_getObj_map hb, Try.law.check w false hkey, h1, hj, h3, Try.law.stays w hkey, MapKept.run_setObj_map _ hb, Result.andThen, setBlock]
    have e : w' = setBlock w B (.map (es.modify j (fun e' => { e' with key := .int .i64 x, val := .int .i64 y })) clock) := by
      have := hup.symm.trans r3
      injection this
    refine ⟨e0.val, _, _, _, r1, r2 _ hb1, ?_, grown_setBlock, grown_setBlock⟩
    rw [setBlock_twice, ← e]; exact hown'

/-- The queue at block qa: its items, and the map of their places. -/
def QSt (w : World) (base qa : Nat) (q : List (Int × Int)) : Prop :=
  ∃ (v : Value) (B : Nat) (D : DataW Unit), Pair w qa 107 v (.map (some B)) ∧ w.ownsRow base 45 2 v q.length (cellsP q) ∧ w.ownsMap Try.prog 3 (plainElem Try.prog 3) B q.length D ∧ PlOf q D ∧ base ≤ qa ∧ base ≤ B ∧ ∀ i, i < q.length → In64 (idg q i)

/-- Two items exchanged. -/
def swq (q : List (Int × Int)) (i j : Nat) : List (Int × Int) := (q.set i (ptg q j)).set j (ptg q i)
theorem swq_len (q : List (Int × Int)) (i j : Nat) : (swq q i j).length = q.length := by simp [swq]
theorem ptg_set (q : List (Int × Int)) (i k : Nat) (x : Int × Int) (hi : i < q.length) : ptg (q.set i x) k = if i = k then x else ptg q k := by
  unfold ptg
  by_cases e : i = k
  · subst e; rw [if_pos rfl]; simp [hi]
  · rw [if_neg e]; simp [List.getElem?_set, e]
theorem swq_at {q : List (Int × Int)} {i j : Nat} (hi : i < q.length) (hj : j < q.length) (k : Nat) : ptg (swq q i j) k = if k = j then ptg q i else if k = i then ptg q j else ptg q k := by
  unfold swq
  rw [ptg_set _ _ _ _ (by simpa using hj), ptg_set _ _ _ _ hi]
  by_cases h1 : k = j
  · subst h1; simp
  · rw [if_neg (fun e => h1 e.symm), if_neg h1]
    by_cases h2 : k = i
    · subst h2; simp
    · rw [if_neg (fun e => h2 e.symm), if_neg h2]
theorem swq_perm (q : List (Int × Int)) {i j : Nat} (hi : i < q.length) (hj : j < q.length) : (swq q i j).Perm q := by
  have e1 : ptg q i = q[i] := by unfold ptg; simp [hi]
  have e2 : ptg q j = q[j] := by unfold ptg; simp [hj]
  unfold swq; rw [e1, e2]
  exact List.set_set_perm hi hj

/-- Cells of a row of items. -/
theorem QSt.cells_at {w : World} {base : Nat} {v : Value} {q : List (Int × Int)} (own : w.ownsRow base 45 2 v q.length (cellsP q)) {i : Nat} (hi : i < q.length) : ∃ g cap cur, v = .slice (some ⟨g, 0, none⟩) q.length cap ∧ q.length ≤ cap ∧ base ≤ g ∧ w.heap[g]? = some (.cells cur 45 (0, 0)) := by
  rcases own.2 with ⟨-, h2⟩ | ⟨g, cap, cur, h1, h2, h3, h4, -⟩
  · omega
  · exact ⟨g, cap, cur, h1, h4, h2, h3⟩
theorem row_cell {w : World} {base g cap : Nat} {q : List (Int × Int)} (own : w.ownsRow base 45 2 (.slice (some ⟨g, 0, none⟩) q.length cap) q.length (cellsP q)) {i : Nat} (hi : i < q.length) :
    w.cell? ⟨g, i * 2, none⟩ = some (.int .i64 (ptg q i).1) ∧ w.cell? ⟨g, i * 2 + 1, none⟩ = some (.int .i64 (ptg q i).2) ∧ w.frozen? ⟨g, i * 2, none⟩ = false ∧ w.frozen? ⟨g, i * 2 + 1, none⟩ = false := by
  obtain ⟨A, c, e, -, hA⟩ := ownI_is own
  obtain ⟨g', e', -, ho⟩ := hA (by omega)
  cases e; cases e'
  have h0 := ho.cell (i := i * 2) (by omega)
  have h1 := ho.cell (i := i * 2 + 1) (by omega)
  rw [flatP_0, Nat.zero_add] at h0
  rw [flatP_1, Nat.zero_add] at h1
  exact ⟨h0, h1, ho.frozen _, ho.frozen _⟩

-- SWAP BEGINS
theorem cellsP_set2 : ∀ (q : List (Int × Int)) (i : Nat) (x : Int × Int), ((cellsP q).set (i * 2) (.int .i64 x.1)).set (i * 2 + 1) (.int .i64 x.2) = cellsP (q.set i x)
  | [], i, x => by simp [cellsP]
  | a :: r, 0, x => by simp [cellsP]
  | a :: r, i + 1, x => by
    have ih := cellsP_set2 r i x
    have e : cellsP (a :: r) = .int .i64 a.1 :: .int .i64 a.2 :: cellsP r := by simp [cellsP]
    have e2 : cellsP ((a :: r).set (i + 1) x) = .int .i64 a.1 :: .int .i64 a.2 :: cellsP (r.set i x) := by simp [cellsP]
    rw [e, e2, ← ih, show (i + 1) * 2 = i * 2 + 1 + 1 by omega]
    simp

/-- The places behind an exchange. -/
theorem PlOf.swap {q : List (Int × Int)} {D : DataW Unit} (h : PlOf q D) {i j : Nat} (hi : i < q.length) (hj : j < q.length) (hne : i ≠ j) : PlOf (swq q i j) ((D.put (kI (idg q j)) (.lit (kI (i : Int)))).put (kI (idg q i)) (.lit (kI (j : Int)))) := by
  have hm := h.tidy.isMap
  have t1 := h.tidy.put (isKey_int (idg q j)) (.lit (kI (i : Int)))
  have hd : idg q i ≠ idg q j := fun e => hne (h.inj hi hj e)
  have hid : ∀ k, idg (swq q i j) k = if k = j then idg q i else if k = i then idg q j else idg q k := fun k => by
    unfold idg; rw [swq_at hi hj]; split
    · rfl
    · split <;> rfl
  have hhj : Maps.has D (kI (idg q j)) = true := (h.has _).2 ⟨j, hj, rfl⟩
  have hhi : Maps.has (D.put (kI (idg q j)) (.lit (kI (i : Int)))) (kI (idg q i)) = true := by rw [has_put_other (kI_ne hd)]; exact (h.has _).2 ⟨i, hi, rfl⟩
  refine ⟨t1.put (isKey_int _) _, ?_, fun x => ?_, fun k hk z => ?_, fun a ha b hb => ?_⟩
  · rw [size_put t1, if_pos hhi, size_put h.tidy, if_pos hhj, h.size, swq_len]
  · rw [swq_len]
    have e : Maps.has ((D.put (kI (idg q j)) (.lit (kI (i : Int)))).put (kI (idg q i)) (.lit (kI (j : Int)))) (kI x) = true ↔ Maps.has D (kI x) = true := by
      by_cases e1 : x = idg q i
      · subst e1; rw [has_put_same t1.isMap (isKey_int _)]; exact ⟨fun _ => (h.has _).2 ⟨i, hi, rfl⟩, fun _ => rfl⟩
      · rw [has_put_other (kI_ne e1)]
        by_cases e2 : x = idg q j
        · subst e2; rw [has_put_same hm (isKey_int _)]; exact ⟨fun _ => hhj, fun _ => rfl⟩
        · rw [has_put_other (kI_ne e2)]
    rw [e, h.has]
    constructor
    · rintro ⟨k, hk, rfl⟩
      by_cases e1 : k = i
      · subst e1; exact ⟨j, hj, by rw [hid, if_pos rfl]⟩
      · by_cases e2 : k = j
        · subst e2; exact ⟨i, hi, by rw [hid, if_neg hne, if_pos rfl]⟩
        · exact ⟨k, hk, by rw [hid, if_neg e2, if_neg e1]⟩
    · rintro ⟨k, hk, rfl⟩
      rw [hid]
      by_cases e2 : k = j
      · rw [if_pos e2]; exact ⟨i, hi, rfl⟩
      · rw [if_neg e2]
        by_cases e1 : k = i
        · rw [if_pos e1]; exact ⟨j, hj, rfl⟩
        · rw [if_neg e1]; exact ⟨k, hk, rfl⟩
  · rw [swq_len] at hk
    rw [hid]
    by_cases e2 : k = j
    · rw [if_pos e2, atKey_put_same t1.isMap (isKey_int _), e2]
    · rw [if_neg e2]
      by_cases e1 : k = i
      · rw [if_pos e1, atKey_put_other (kI_ne (Ne.symm hd)), atKey_put_same hm (isKey_int _), e1]
      · rw [if_neg e1, atKey_put_other (kI_ne (fun e => e1 (h.inj hk hi e))), atKey_put_other (kI_ne (fun e => e2 (h.inj hk hj e)))]
        exact h.at_ k hk z
  · rw [swq_len] at ha
    rw [hid, hid]
    intro e
    have hinj : ∀ {a b : Nat}, a < q.length → b < q.length → idg q a = idg q b → a = b := fun h1 h2 e => h.inj h1 h2 e
    split at e <;> rename_i c1
    · split at e <;> rename_i c2
      · omega
      · split at e <;> rename_i c3
        · have := hinj hi hj e; omega
        · have := hinj hi ha e; omega
    · split at e <;> rename_i c2
      · split at e <;> rename_i c3
        · have := hinj hj hi e; omega
        · split at e <;> rename_i c4
          · omega
          · have := hinj hj ha e; omega
      · split at e <;> rename_i c3
        · have := hinj (show b < q.length by omega) hi e; omega
        · split at e <;> rename_i c4
          · have := hinj (show b < q.length by omega) hj e; omega
          · have := hinj (show b < q.length by omega) ha e; omega

theorem row_set {w : World} {base g cap : Nat} {q : List (Int × Int)} (own : w.ownsRow base 45 2 (.slice (some ⟨g, 0, none⟩) q.length cap) q.length (cellsP q)) (i : Nat) (x : Int × Int) :
    ((w.setCell ⟨g, i * 2, none⟩ (.int .i64 x.1)).setCell ⟨g, i * 2 + 1, none⟩ (.int .i64 x.2)).ownsRow base 45 2 (.slice (some ⟨g, 0, none⟩) q.length cap) q.length (cellsP (q.set i x)) := by
  have := ownsRow_put (ownsRow_put own (i * 2) (.int .i64 x.1)) (i * 2 + 1) (.int .i64 x.2)
  rw [cellsP_set2] at this
  exact this

theorem ownB_ne {g n cap B : Nat} (h : B ≠ g) : Value.ownBlock (.slice (some ⟨g, 0, none⟩) n cap) ≠ some B := by
  intro e
  have e' : g = B := by simpa [Value.ownBlock] using e
  exact h e'.symm

/-- What the second half of Swap reads: the queue's box, two Ids. -/
abbrev SwS (qa : Nat) (u v : Value) (g o1 o2 : Nat) (d1 d2 : Int) (w : World) : Prop := (w.cell? ⟨qa, 0, none⟩ = some u ∧ w.cell? ⟨qa, 1, none⟩ = some v) ∧ w.cell? ⟨g, o1, none⟩ = some (.int .i64 d1) ∧ w.cell? ⟨g, o2, none⟩ = some (.int .i64 d2)
theorem SwS.grown {qa : Nat} {u v : Value} {g o1 o2 : Nat} {d1 d2 : Int} {w w' : World} {B : Nat} (hg : w.grownBy w' (some B)) (h1 : B ≠ qa) (h2 : B ≠ g) (h : SwS qa u v g o1 o2 d1 d2 w) : SwS qa u v g o1 o2 d1 d2 w' :=
  ⟨⟨cell_only hg h.1.1 (by intro e; injection e with e; omega), cell_only hg h.1.2 (by intro e; injection e with e; omega)⟩, cell_only hg h.2.1 (by intro e; injection e with e; omega), cell_only hg h.2.2 (by intro e; injection e with e; omega)⟩

set_option maxRecDepth 1000000 in
set_option maxHeartbeats 16000000 in
theorem swap_any (w : World) (base qa : Nat) (q : List (Int × Int)) (i j : Nat) (hi : i < q.length) (hj : j < q.length) (hne : i ≠ j) (hn : q.length ≤ 4194304) (h : QSt w base qa q) :
    Calls Try.prog 191 #[.pointer (some ⟨qa, 0, none⟩), .int .i64 (i : Int), .int .i64 (j : Int)] w fun e w' => e = .returned (.tuple #[]) ∧ QSt w' base qa (swq q i j) ∧ Below base w w' := by
  obtain ⟨v, B, D, X, own, hmap, hpl, hqa, hB, h64⟩ := h
  obtain ⟨g, cap, cur, rfl, hcap, hg, hgb⟩ := QSt.cells_at own hi
  obtain ⟨a0, a1, a2, a3⟩ := row_cell own hi
  obtain ⟨b0, b1, b2, b3⟩ := row_cell own hj
  obtain ⟨x0, x1, -, -⟩ := X.cells
  have hii : (i : Int) < q.length := by omega
  have hji : (j : Int) < q.length := by omega
  have hgq : g ≠ qa := fun e => by subst e; have := X.symm.trans hgb; simp at this
  have HM := Lib.hid hmap
  obtain ⟨es, ck, hmb, -⟩ := hmap
  have hBq : B ≠ qa := fun e => by subst e; have := X.symm.trans hmb; simp at this
  have hBg : B ≠ g := fun e => by subst e; have := hgb.symm.trans hmb; simp at this
  have hne2 : i * 2 ≠ j * 2 := by omega
  have hne3 : i * 2 ≠ j * 2 + 1 := by omega
  have hne4 : i * 2 + 1 ≠ j * 2 := by omega
  have own1 := row_set own i (ptg q j)
  have own2 := row_set (q := q.set i (ptg q j)) (by simpa using own1) j (ptg q i)
  have HPL := Lib.hid (hpl.swap hi hj hne)
  have h64i := h64 i hi
  have h64j := h64 j hj
  have hhj := (hpl.has _).2 ⟨j, hj, rfl⟩
  have hhi : Maps.has (D.put (kI (idg q j)) (.lit (kI (i : Int)))) (kI (idg q i)) = true := by rw [has_put_other (kI_ne (fun e => hne (hpl.inj hi hj e)))]; exact (hpl.has _).2 ⟨i, hi, rfl⟩
  have H64 := Lib.hid (show ∀ k, k < (swq q i j).length → In64 (idg (swq q i j) k) from fun k hk => by
    rw [swq_len] at hk
    unfold idg; rw [swq_at hi hj]; split
    · exact h64i
    · split
      · exact h64j
      · exact h64 k hk)
  have own3 : ((((w.setCell ⟨g, i * 2, none⟩ (.int .i64 (ptg q j).1)).setCell ⟨g, i * 2 + 1, none⟩ (.int .i64 (ptg q j).2)).setCell ⟨g, j * 2, none⟩ (.int .i64 (ptg q i).1)).setCell ⟨g, j * 2 + 1, none⟩ (.int .i64 (ptg q i).2)).ownsRow base 45 2 (.slice (some ⟨g, 0, none⟩) q.length cap) (swq q i j).length (cellsP (swq q i j)) := by
    rw [swq_len]; simpa [swq] using own2
  have hXs : ∀ (W : World) (k : Nat) (u : Value), Pair W qa 107 (.slice (some ⟨g, 0, none⟩) q.length cap) (.map (some B)) → Pair (W.setCell ⟨g, k, none⟩ u) qa 107 (.slice (some ⟨g, 0, none⟩) q.length cap) (.map (some B)) := fun W k u h => (Below.heap_setCell W ⟨g, k, none⟩ u qa (Ne.symm hgq)).trans h
  have X3 := hXs _ (j * 2 + 1) (.int .i64 (ptg q i).2) (hXs _ (j * 2) (.int .i64 (ptg q i).1) (hXs _ (i * 2 + 1) (.int .i64 (ptg q j).2) (hXs _ (i * 2) (.int .i64 (ptg q j).1) X)))
  have M3 := ((((HM.out).setCell (a := ⟨g, i * 2, none⟩) hBg (.int .i64 (ptg q j).1)).setCell (a := ⟨g, i * 2 + 1, none⟩) hBg (.int .i64 (ptg q j).2)).setCell (a := ⟨g, j * 2, none⟩) hBg (.int .i64 (ptg q i).1)).setCell (a := ⟨g, j * 2 + 1, none⟩) hBg (.int .i64 (ptg q i).2)
  have K3 := ((((Below.refl base w).setCell (p := ⟨g, i * 2, none⟩) hg (.int .i64 (ptg q j).1)).setCell (p := ⟨g, i * 2 + 1, none⟩) hg (.int .i64 (ptg q j).2)).setCell (p := ⟨g, j * 2, none⟩) hg (.int .i64 (ptg q i).1)).setCell (p := ⟨g, j * 2 + 1, none⟩) hg (.int .i64 (ptg q i).2)
  obtain ⟨W, hW⟩ : ∃ W, W = (((w.setCell ⟨g, i * 2, none⟩ (.int .i64 (ptg q j).1)).setCell ⟨g, i * 2 + 1, none⟩ (.int .i64 (ptg q j).2)).setCell ⟨g, j * 2, none⟩ (.int .i64 (ptg q i).1)).setCell ⟨g, j * 2 + 1, none⟩ (.int .i64 (ptg q i).2) := ⟨_, rfl⟩
  rw [← hW] at own3 X3 M3 K3
  have own4 : W.drew.drew.ownsRow base 45 2 (.slice (some ⟨g, 0, none⟩) (swq q i j).length cap) (swq q i j).length (cellsP (swq q i j)) := by rw [swq_len] at own3 ⊢; exact own3
  have tj := (row_cell own4 (i := i) (by rw [swq_len]; exact hi)).2.1
  have ti := (row_cell own4 (i := j) (by rw [swq_len]; exact hj)).2.1
  rw [swq_at hi hj, if_neg hne, if_pos rfl] at tj
  rw [swq_at hi hj, if_pos rfl] at ti
  have HW := Lib.hid hW
  clear hW
  rw [show (ptg q i).2 = idg q i from rfl] at a1 HW ti
  rw [show (ptg q j).2 = idg q j from rfl] at b1 HW tj
  generalize (ptg q i).1 = ki at a0 HW
  generalize (ptg q j).1 = kj at b0 HW
  generalize idg q i = di at a1 HW ti h64i hhi HPL
  generalize idg q j = dj at b1 HW tj h64j hhj hhi HPL
  have T : SwS qa (.slice (some ⟨g, 0, none⟩) q.length cap) (.map (some B)) g (i * 2 + 1) (j * 2 + 1) dj di W.drew.drew := ⟨⟨X3.cells.1, X3.cells.2.1⟩, tj, ti⟩
  obtain ⟨v0, st, w1, w2, r1, r2, m2, g1, g2⟩ := entry_own (w := W.drew.drew) M3 (by unfold maxLen; omega) (x := dj) (y := (i : Int)) h64j ⟨by omega, by omega⟩ hhj
  obtain ⟨u0, su, w3, w4, r3, r4, m4, g3, g4⟩ := entry_own m2 (by unfold maxLen; omega) (x := di) (y := (j : Int)) h64i ⟨by omega, by omega⟩ hhi
  have G4 := only_trans (only_trans g1 g2) (only_trans g3 g4)
  have m5 := ownsMap_size m4
  rw [HPL.out.size] at m5
  have FIN : QSt w4 base qa (swq q i j) := ⟨_, B, _, Pair.grown' (w := W.drew.drew) (by rw [swq_len]; exact X3) G4 (fun g e => by injection e with e; omega), own4.kept G4 (.inr (ownB_ne hBg)), m5, HPL.out, hqa, hB, H64.out⟩
  have KF : Below base w w4 := Below.grown (K3.drew.drew) G4 (show base ≤ W.heap.size by have := X3.lt; omega) (fun g e => by injection e with e; omega)
  clear own own1 own2 own3 own4 ti tj hmb hgb m2 m4 m5 G4 M3 X3 K3 X HPL H64 hXs h64 hpl
  go_enter Try.func191, Try.ntmps191
  go_wp2_with fail
  go_region
  rw [← HW.out]
  clear a0 a1 a2 a3 b0 b1 b2 b3 x0 x1 HW
  go_wp2_with fail
  refine wp_region_held_drew (S := (fun w' => SwS qa (.slice (some ⟨g, 0, none⟩) q.length cap) (.map (some B)) g (i * 2 + 1) (j * 2 + 1) dj di w')) (by kernel_rfl) ?_ (fun hHeld => ?_)
  · exact T
  clear T
  refine wpAnyH_take (i := 0) (oi := ⟨some 32, _, _, _, _, _⟩) (v := .pointer (some ⟨qa, 0, none⟩)) rfl (by kernel_rfl) (by kernel_rfl) (by kernel_rfl) (fun _ _ _ h => h) (Or.inl ⟨by rfl, fun w' hw => ?hy⟩) hHeld ?_
  case hy => (try dsimp only at hw); go_simp
  simp only [Act.put, List.setIfInBounds_toArray, List.set_cons_zero, List.set_cons_succ]
  refine wpAnyH_take (i := 1) (oi := ⟨some 33, _, _, _, _, _⟩) (v := .pointer (some ⟨qa, 0, none⟩)) rfl (by kernel_rfl) (by kernel_rfl) (by kernel_rfl) (fun _ _ _ h => h) (Or.inl ⟨by rfl, fun w' hw => ?hy⟩) hHeld ?_
  case hy => (try dsimp only at hw); go_simp
  simp only [Act.put, List.setIfInBounds_toArray, List.set_cons_zero, List.set_cons_succ]
  refine wpAnyH_take (i := 2) (oi := ⟨some 34, _, _, _, _, _⟩) (v := .pointer (some ⟨qa, 1, none⟩)) rfl (by kernel_rfl) (by kernel_rfl) (by kernel_rfl) (fun _ _ _ h => h) (Or.inl ⟨by rfl, fun w' hw => ?hy⟩) hHeld ?_
  case hy => (try dsimp only at hw); go_simp
  simp only [Act.put, List.setIfInBounds_toArray, List.set_cons_zero, List.set_cons_succ]
  refine wpAnyH_take (i := 3) (oi := ⟨some 35, _, _, _, _, _⟩) (v := .map (some B)) rfl (by kernel_rfl) (by kernel_rfl) (by kernel_rfl) (fun _ _ _ h => h) (Or.inl ⟨by rfl, fun w' hw => ?hy⟩) hHeld ?_
  case hy => (try dsimp only at hw); have hx0 := hw.1.2; clear hw; go_simp
  simp only [Act.put, List.setIfInBounds_toArray, List.set_cons_zero, List.set_cons_succ]
  refine wpAnyH_take (i := 4) (oi := ⟨some 36, _, _, _, _, _⟩) (v := .pointer (some ⟨qa, 0, none⟩)) rfl (by kernel_rfl) (by kernel_rfl) (by kernel_rfl) (fun _ _ _ h => h) (Or.inl ⟨by rfl, fun w' hw => ?hy⟩) hHeld ?_
  case hy => (try dsimp only at hw); go_simp
  simp only [Act.put, List.setIfInBounds_toArray, List.set_cons_zero, List.set_cons_succ]
  refine wpAnyH_take (i := 5) (oi := ⟨some 37, _, _, _, _, _⟩) (v := .pointer (some ⟨qa, 0, none⟩)) rfl (by kernel_rfl) (by kernel_rfl) (by kernel_rfl) (fun _ _ _ h => h) (Or.inl ⟨by rfl, fun w' hw => ?hy⟩) hHeld ?_
  case hy => (try dsimp only at hw); go_simp
  simp only [Act.put, List.setIfInBounds_toArray, List.set_cons_zero, List.set_cons_succ]
  refine wpAnyH_take (i := 6) (oi := ⟨some 38, _, _, _, _, _⟩) (v := .pointer (some ⟨qa, 0, none⟩)) rfl (by kernel_rfl) (by kernel_rfl) (by kernel_rfl) (fun _ _ _ h => h) (Or.inl ⟨by rfl, fun w' hw => ?hy⟩) hHeld ?_
  case hy => (try dsimp only at hw); go_simp
  simp only [Act.put, List.setIfInBounds_toArray, List.set_cons_zero, List.set_cons_succ]
  refine wpAnyH_take (i := 7) (oi := ⟨some 39, _, _, _, _, _⟩) (v := .slice (some ⟨g, 0, none⟩) q.length cap) rfl (by kernel_rfl) (by kernel_rfl) (by kernel_rfl) (fun _ _ _ h => h) (Or.inl ⟨by rfl, fun w' hw => ?hy⟩) hHeld ?_
  case hy => (try dsimp only at hw); have hx0 := hw.1.1; clear hw; go_simp
  simp only [Act.put, List.setIfInBounds_toArray, List.set_cons_zero, List.set_cons_succ]
  refine wpAnyH_take (i := 8) (oi := ⟨some 40, _, _, _, _, _⟩) (v := .int .i64 (i : Int)) rfl (by kernel_rfl) (by kernel_rfl) (by kernel_rfl) (fun _ _ _ h => h) (Or.inl ⟨by rfl, fun w' hw => ?hy⟩) hHeld ?_
  case hy => (try dsimp only at hw); go_simp
  simp only [Act.put, List.setIfInBounds_toArray, List.set_cons_zero, List.set_cons_succ]
  refine wpAnyH_take (i := 9) (oi := ⟨some 41, _, _, _, _, _⟩) (v := .pointer (some ⟨g, i * 2, none⟩)) rfl (by kernel_rfl) (by kernel_rfl) (by kernel_rfl) (fun _ _ _ h => h) (Or.inl ⟨by rfl, fun w' hw => ?hy⟩) hHeld ?_
  case hy => (try dsimp only at hw); go_simp
  simp only [Act.put, List.setIfInBounds_toArray, List.set_cons_zero, List.set_cons_succ]
  refine wpAnyH_take (i := 10) (oi := ⟨some 42, _, _, _, _, _⟩) (v := .pointer (some ⟨g, i * 2 + 1, none⟩)) rfl (by kernel_rfl) (by kernel_rfl) (by kernel_rfl) (fun _ _ _ h => h) (Or.inl ⟨by rfl, fun w' hw => ?hy⟩) hHeld ?_
  case hy => (try dsimp only at hw); go_simp
  simp only [Act.put, List.setIfInBounds_toArray, List.set_cons_zero, List.set_cons_succ]
  refine wpAnyH_take (i := 11) (oi := ⟨some 43, _, _, _, _, _⟩) (v := .int .i64 dj) rfl (by kernel_rfl) (by kernel_rfl) (by kernel_rfl) (fun _ _ _ h => h) (Or.inl ⟨by rfl, fun w' hw => ?hy⟩) hHeld ?_
  case hy => (try dsimp only at hw); have hx0 := hw.2.1; clear hw; go_simp
  simp only [Act.put, List.setIfInBounds_toArray, List.set_cons_zero, List.set_cons_succ]
  refine wpAnyH_take (i := 12) (oi := ⟨some 44, _, _, _, _, _⟩) (v := .pointer (some ⟨qa, 0, none⟩)) rfl (by kernel_rfl) (by kernel_rfl) (by kernel_rfl) (fun _ _ _ h => h) (Or.inl ⟨by rfl, fun w' hw => ?hy⟩) hHeld ?_
  case hy => (try dsimp only at hw); go_simp
  simp only [Act.put, List.setIfInBounds_toArray, List.set_cons_zero, List.set_cons_succ]
  refine wpAnyH_take (i := 13) (oi := ⟨some 45, _, _, _, _, _⟩) (v := .pointer (some ⟨qa, 0, none⟩)) rfl (by kernel_rfl) (by kernel_rfl) (by kernel_rfl) (fun _ _ _ h => h) (Or.inl ⟨by rfl, fun w' hw => ?hy⟩) hHeld ?_
  case hy => (try dsimp only at hw); go_simp
  simp only [Act.put, List.setIfInBounds_toArray, List.set_cons_zero, List.set_cons_succ]
  refine wpAnyH_take (i := 14) (oi := ⟨some 46, _, _, _, _, _⟩) (v := .pointer (some ⟨qa, 1, none⟩)) rfl (by kernel_rfl) (by kernel_rfl) (by kernel_rfl) (fun _ _ _ h => h) (Or.inl ⟨by rfl, fun w' hw => ?hy⟩) hHeld ?_
  case hy => (try dsimp only at hw); go_simp
  simp only [Act.put, List.setIfInBounds_toArray, List.set_cons_zero, List.set_cons_succ]
  refine wpAnyH_take (i := 15) (oi := ⟨some 47, _, _, _, _, _⟩) (v := .map (some B)) rfl (by kernel_rfl) (by kernel_rfl) (by kernel_rfl) (fun _ _ _ h => h) (Or.inl ⟨by rfl, fun w' hw => ?hy⟩) hHeld ?_
  case hy => (try dsimp only at hw); have hx0 := hw.1.2; clear hw; go_simp
  simp only [Act.put, List.setIfInBounds_toArray, List.set_cons_zero, List.set_cons_succ]
  refine wpAnyH_take (i := 16) (oi := ⟨some 48, _, _, _, _, _⟩) (v := .pointer (some ⟨qa, 0, none⟩)) rfl (by kernel_rfl) (by kernel_rfl) (by kernel_rfl) (fun _ _ _ h => h) (Or.inl ⟨by rfl, fun w' hw => ?hy⟩) hHeld ?_
  case hy => (try dsimp only at hw); go_simp
  simp only [Act.put, List.setIfInBounds_toArray, List.set_cons_zero, List.set_cons_succ]
  refine wpAnyH_take (i := 17) (oi := ⟨some 49, _, _, _, _, _⟩) (v := .pointer (some ⟨qa, 0, none⟩)) rfl (by kernel_rfl) (by kernel_rfl) (by kernel_rfl) (fun _ _ _ h => h) (Or.inl ⟨by rfl, fun w' hw => ?hy⟩) hHeld ?_
  case hy => (try dsimp only at hw); go_simp
  simp only [Act.put, List.setIfInBounds_toArray, List.set_cons_zero, List.set_cons_succ]
  refine wpAnyH_take (i := 18) (oi := ⟨some 50, _, _, _, _, _⟩) (v := .pointer (some ⟨qa, 0, none⟩)) rfl (by kernel_rfl) (by kernel_rfl) (by kernel_rfl) (fun _ _ _ h => h) (Or.inl ⟨by rfl, fun w' hw => ?hy⟩) hHeld ?_
  case hy => (try dsimp only at hw); go_simp
  simp only [Act.put, List.setIfInBounds_toArray, List.set_cons_zero, List.set_cons_succ]
  refine wpAnyH_take (i := 19) (oi := ⟨some 51, _, _, _, _, _⟩) (v := .slice (some ⟨g, 0, none⟩) q.length cap) rfl (by kernel_rfl) (by kernel_rfl) (by kernel_rfl) (fun _ _ _ h => h) (Or.inl ⟨by rfl, fun w' hw => ?hy⟩) hHeld ?_
  case hy => (try dsimp only at hw); have hx0 := hw.1.1; clear hw; go_simp
  simp only [Act.put, List.setIfInBounds_toArray, List.set_cons_zero, List.set_cons_succ]
  refine wpAnyH_take (i := 20) (oi := ⟨some 52, _, _, _, _, _⟩) (v := .int .i64 (j : Int)) rfl (by kernel_rfl) (by kernel_rfl) (by kernel_rfl) (fun _ _ _ h => h) (Or.inl ⟨by rfl, fun w' hw => ?hy⟩) hHeld ?_
  case hy => (try dsimp only at hw); go_simp
  simp only [Act.put, List.setIfInBounds_toArray, List.set_cons_zero, List.set_cons_succ]
  refine wpAnyH_take (i := 21) (oi := ⟨some 53, _, _, _, _, _⟩) (v := .pointer (some ⟨g, j * 2, none⟩)) rfl (by kernel_rfl) (by kernel_rfl) (by kernel_rfl) (fun _ _ _ h => h) (Or.inl ⟨by rfl, fun w' hw => ?hy⟩) hHeld ?_
  case hy => (try dsimp only at hw); go_simp
  simp only [Act.put, List.setIfInBounds_toArray, List.set_cons_zero, List.set_cons_succ]
  refine wpAnyH_take (i := 22) (oi := ⟨some 54, _, _, _, _, _⟩) (v := .pointer (some ⟨g, j * 2 + 1, none⟩)) rfl (by kernel_rfl) (by kernel_rfl) (by kernel_rfl) (fun _ _ _ h => h) (Or.inl ⟨by rfl, fun w' hw => ?hy⟩) hHeld ?_
  case hy => (try dsimp only at hw); go_simp
  simp only [Act.put, List.setIfInBounds_toArray, List.set_cons_zero, List.set_cons_succ]
  refine wpAnyH_take (i := 23) (oi := ⟨some 55, _, _, _, _, _⟩) (v := .int .i64 di) rfl (by kernel_rfl) (by kernel_rfl) (by kernel_rfl) (fun _ _ _ h => h) (Or.inl ⟨by rfl, fun w' hw => ?hy⟩) hHeld ?_
  case hy => (try dsimp only at hw); have hx0 := hw.2.2; clear hw; go_simp
  simp only [Act.put, List.setIfInBounds_toArray, List.set_cons_zero, List.set_cons_succ]
  refine wpAnyH_take (i := 24) (oi := ⟨some 56, _, _, _, _, _⟩) (v := .int .i64 (i : Int)) rfl (by kernel_rfl) (by kernel_rfl) (by kernel_rfl) (fun _ _ _ h => h) (Or.inl ⟨by rfl, fun w' hw => ?hy⟩) hHeld ?_
  case hy => (try dsimp only at hw); go_simp
  simp only [Act.put, List.setIfInBounds_toArray, List.set_cons_zero, List.set_cons_succ]
  refine wpAnyH_take (i := 25) (oi := ⟨some 57, _, _, _, _, _⟩) (v := .int .i64 (j : Int)) rfl (by kernel_rfl) (by kernel_rfl) (by kernel_rfl) (fun _ _ _ h => h) (Or.inl ⟨by rfl, fun w' hw => ?hy⟩) hHeld ?_
  case hy => (try dsimp only at hw); go_simp
  simp only [Act.put, List.setIfInBounds_toArray, List.set_cons_zero, List.set_cons_succ]
  refine wpAnyH_ready (rs := [26]) (by kernel_rfl) (by simp) ?_
  refine AllReadyH.cons (o := ⟨some 58, _, _, _, _, _⟩) rfl (fun K hK => ?_) AllReadyH.nil
  go_simp
  refine hK.out _ _ ?_ (fun hHeld => ?_)
  · exact SwS.grown g1 hBq hBg hHeld
  clear hK K
  try simp only [Act.put, List.setIfInBounds_toArray, List.set_cons_zero, List.set_cons_succ]
  refine wpAnyH_take (i := 27) (oi := ⟨some 59, _, _, _, _, _⟩) (v := .int .i64 st) rfl (by kernel_rfl) (by kernel_rfl) (by kernel_rfl) (fun _ _ _ h => h) (Or.inl ⟨by rfl, fun w' hw => ?hy⟩) hHeld ?_
  case hy => (try dsimp only at hw); go_simp
  simp only [Act.put, List.setIfInBounds_toArray, List.set_cons_zero, List.set_cons_succ]
  refine wpAnyH_ready (rs := [28]) (by kernel_rfl) (by simp) ?_
  refine AllReadyH.cons (o := ⟨none, _, _, _, _, _⟩) rfl (fun K hK => ?_) AllReadyH.nil
  go_simp
  refine hK.out _ _ ?_ (fun hHeld => ?_)
  · exact SwS.grown g2 hBq hBg hHeld
  clear hK K
  try simp only [Act.put, List.setIfInBounds_toArray, List.set_cons_zero, List.set_cons_succ]
  refine wpAnyH_ready (rs := [29]) (by kernel_rfl) (by simp) ?_
  refine AllReadyH.cons (o := ⟨some 60, _, _, _, _, _⟩) rfl (fun K hK => ?_) AllReadyH.nil
  go_simp
  refine hK.out _ _ ?_ (fun hHeld => ?_)
  · exact SwS.grown g3 hBq hBg hHeld
  clear hK K
  try simp only [Act.put, List.setIfInBounds_toArray, List.set_cons_zero, List.set_cons_succ]
  refine wpAnyH_take (i := 30) (oi := ⟨some 61, _, _, _, _, _⟩) (v := .int .i64 su) rfl (by kernel_rfl) (by kernel_rfl) (by kernel_rfl) (fun _ _ _ h => h) (Or.inl ⟨by rfl, fun w' hw => ?hy⟩) hHeld ?_
  case hy => (try dsimp only at hw); go_simp
  simp only [Act.put, List.setIfInBounds_toArray, List.set_cons_zero, List.set_cons_succ]
  refine wpAnyH_ready (rs := [31]) (by kernel_rfl) (by simp) ?_
  refine AllReadyH.cons (o := ⟨none, _, _, _, _, _⟩) rfl (fun K hK => ?_) AllReadyH.nil
  go_simp
  refine hK.out _ _ ?_ (fun hHeld => ?_)
  · exact SwS.grown g4 hBq hBg hHeld
  clear hK K
  try simp only [Act.put, List.setIfInBounds_toArray, List.set_cons_zero, List.set_cons_succ]
  refine wpAnyH_done (by kernel_rfl) ?_ _
  go_wp2
  go_end0
  exact ⟨rfl, FIN, KF⟩

end Go.Proofs.Ytdobiapnkdgjoaa
