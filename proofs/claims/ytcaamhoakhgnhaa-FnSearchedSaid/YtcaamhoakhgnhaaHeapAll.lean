/-
  The queue that container/heap works on: its items in a row, their places in a map; what its methods do. The other methods of the queue: Len, Less, Push, Pop. container/heap over the queue: heaps, up, down. container/heap.down over the queue. heap.Push, heap.Fix (of a key that decreased) and heap.Pop over the queue; (*queue).put and (*queue).take. heap.Fix (of a key that decreased) over the queue, and (*queue).put. Swap of an item with itself: a queue of one item. What container/heap.Pop and (*queue).take do: the least item of a queue is taken.
-/
import Derived.Test.YtcaamhoakhgnhaaQueueAll
import Derived.Test.YtcaamhoakhgnhaaNetsAll
import Derived.BigRegion
import Derived.WideKeyEntry
namespace Go.Proofs.Ytcaamhoakhgnhaa
open Go.RowKit Go.Deep Go.Maps
open Go.ChangeMaps (setBlock heap_setBlock_same)

/-- A map of the places of items with different Ids. -/
structure PlOf (q : List (Int × Int)) (D : DataW Unit) : Prop where
  tidy : Tidy D
  size : Maps.size D = q.length
  has : ∀ x, Maps.has D (kI x) = true ↔ ∃ i, i < q.length ∧ idg q i = x
  at_ : ∀ i, i < q.length → ∀ z, D.atKey (kI (idg q i)) z = .lit (kI (i : Int))
  apart : ∀ i, i < q.length → ∀ j, j < i → idg q j ≠ idg q i

theorem plOf_up {q : List (Int × Int)} {D : DataW Unit} (h : PlUp q q.length D) (ha : ∀ i, i < q.length → ∀ j, j < i → idg q j ≠ idg q i) : PlOf q D :=
  ⟨h.tidy, by rw [h.size]; exact cntU_all.2 ha, h.has, fun i hi z => h.at_ i hi (fun j hj hl e => ha j hl i hj e.symm) z, ha⟩
theorem PlOf.inj {q : List (Int × Int)} {D : DataW Unit} (h : PlOf q D) {i j : Nat} (hi : i < q.length) (hj : j < q.length) (e : idg q i = idg q j) : i = j := by
  rcases Nat.lt_trichotomy i j with g | g | g
  · exact absurd e (h.apart j hj i g)
  · exact g
  · exact absurd e.symm (h.apart i hi j g)

theorem ownsMap_size {w : World} {b n : Nat} {D : DataW Unit} (h : w.ownsMap Try.prog 3 (plainElem Try.prog 3) b n D) : w.ownsMap Try.prog 3 (plainElem Try.prog 3) b (Maps.size D) D := by
  obtain ⟨es, clock, hb, F, hs, hD⟩ := h
  refine ⟨es, clock, hb, F, ?_, hD⟩
  rw [hD]; simp [Maps.size, length_sorted]

theorem grown_setBlock {w : World} {b : Nat} {o : Obj} : w.grownBy (setBlock w b o) (some b) :=
  ⟨rfl, rfl, rfl, by simp [setBlock], fun k hk hne => by simp only [setBlock, Array.getElem?_setIfInBounds]; rw [if_neg (fun e => hne (by rw [e]))]⟩
theorem setBlock_twice (w : World) (b : Nat) (o o' : Obj) : setBlock (setBlock w b o) b o' = setBlock w b o' := by
  unfold setBlock; simp

/-- An entry that is there, looked up and written. -/
theorem entry_own {w : World} {B n : Nat} {D : DataW Unit} (h : w.ownsMap Try.prog 3 (plainElem Try.prog 3) B n D) (hn : n < maxLen) {x y : Int} (hx : In64 x) (hy : In64 y) (hhas : Maps.has D (kI x) = true) :
    ∃ v0 st w1 w2, (Instr.mapEntry 124 (.map (some B)) (.int .i64 x)).run Try.prog w = .ok (.tuple #[v0, .int .i64 st]) w1 ∧ (Instr.entryStore 124 (.map (some B)) (.int .i64 st) (.int .i64 y)).run Try.prog w1 = .ok () w2 ∧
      w2.ownsMap Try.prog 3 (plainElem Try.prog 3) B (n + 1) (D.put (kI x) (.lit (kI y))) ∧ w.grownBy w1 (some B) ∧ w1.grownBy w2 (some B) := by
  have hkey : keyOf Try.prog 3 (.int .i64 x) = some (kI x) := keyOf_int_mk Try.underlying3 (WalkArith.wf_i64 hx)
  obtain ⟨w', hup, hown', -⟩ := h.store Try.law Try.underlying124 hn hkey (plainElem_int Try.underlying3 (WalkArith.wf_i64 hy))
  obtain ⟨v1, p1, hlook, -⟩ := h.look_ok Try.law Try.underlying124 (Try.zeroI w) (plainElem_int Try.underlying3 (a := 0) (by decide)) hkey
  obtain ⟨es, clock, hb, F, hs, hD⟩ := h
  rcases Try.law.find w hkey es.toList F.keys with ⟨h1, h2⟩ | ⟨j, e0, h1, h2, h3⟩
  · exfalso
    rw [hhas] at hlook
    simp [Instr.lookup, run_underlying Try.underlying124, MapKept.run_getObj_map hb, Try.law.check w es.isEmpty hkey, h1] at hlook
  · obtain ⟨s1, s2, -⟩ := F.stamped
    have hj : es[j]? = some e0 := by simpa using h2
    have hjl : j < es.size := (Array.getElem?_eq_some_iff.1 hj).1
    have hje : es[j] = e0 := (Array.getElem?_eq_some_iff.1 hj).2
    have hsame : es.modify j (fun e => { e with key := .int .i64 x }) = es := by
      apply Array.ext_getElem?
      intro k
      rw [Array.getElem?_modify]
      by_cases e : j = k
      · subst e; rw [if_pos rfl, hj]; simp [← h3]
      · rw [if_neg e]
    have hidx : es.findIdx? (fun e => ((e.born : Nat) : Int) == ((e0.born : Nat) : Int)) = some j := by
      rw [Go.WideElems.findIdx_arr]; exact Go.WideElems.findIdx_born s2 h2
    have hmod : es.modify j (fun e => { e with val := .int .i64 y }) = es.modify j (fun e' => { e' with key := .int .i64 x, val := .int .i64 y }) := by
      apply Array.ext_getElem?
      intro k
      rw [Array.getElem?_modify, Array.getElem?_modify]
      by_cases e : j = k
      · subst e; rw [if_pos rfl, if_pos rfl, hj]; simp [← h3]
      · rw [if_neg e, if_neg e]
    have hb1 : (setBlock w B (.map es clock)).heap[B]? = some (.map es clock) := heap_setBlock_same hb _
    have r1 : (Instr.mapEntry 124 (.map (some B)) (.int .i64 x)).run Try.prog w = .ok (.tuple #[e0.val, .int .i64 (e0.born : Int)]) (setBlock w B (.map es clock)) := by
      simp [Instr.mapEntry, run_underlying Try.underlying124, MapKept.run_getObj_map hb, Try.law.check w false hkey, h1, hj, h3, Try.law.stays w hkey, hsame, MapKept.run_setObj_map _ hb, Result.andThen, setBlock, goInt]
    have r2 : ∀ W : World, W.heap[B]? = some (.map es clock) → (Instr.entryStore 124 (.map (some B)) (.int .i64 (e0.born : Int)) (.int .i64 y)).run Try.prog W = .ok () (setBlock W B (.map (es.modify j (fun e' => { e' with key := .int .i64 x, val := .int .i64 y })) clock)) := by
      intro W hW
      simp [Instr.entryStore, MapKept.run_getObj_map hW, asInt, asIntOf, hidx, hmod, MapKept.run_setObj_map _ hW, Result.andThen, setBlock]
    have r3 : (Instr.mapUpdate 124 (.map (some B)) (.int .i64 x) (.int .i64 y)).run Try.prog w = .ok () (setBlock w B (.map (es.modify j (fun e' => { e' with key := .int .i64 x, val := .int .i64 y })) clock)) := by
      simp [Instr.mapUpdate, run_underlying Try.underlying124, MapKept.run_getObj_map hb, Try.law.check w false hkey, h1, hj, h3, Try.law.stays w hkey, MapKept.run_setObj_map _ hb, Result.andThen, setBlock]
    have e : w' = setBlock w B (.map (es.modify j (fun e' => { e' with key := .int .i64 x, val := .int .i64 y })) clock) := by
      have := hup.symm.trans r3
      injection this
    refine ⟨e0.val, _, _, _, r1, r2 _ hb1, ?_, grown_setBlock, grown_setBlock⟩
    rw [setBlock_twice, ← e]; exact hown'

/-- What a call keeps of the blocks that P names. -/
structure Kp (P : Nat → Prop) (w w' : World) : Prop where
  os : w'.os = w.os
  tape : w'.tape = w.tape
  output : w'.output = w.output
  size : w.heap.size ≤ w'.heap.size
  block : ∀ b, P b → b < w.heap.size → w'.heap[b]? = w.heap[b]?
section
variable {P : Nat → Prop} {w w' w'' : World}
theorem Kp.refl (P : Nat → Prop) (w : World) : Kp P w w := ⟨rfl, rfl, rfl, Nat.le_refl _, fun _ _ _ => rfl⟩
theorem Kp.trans (h : Kp P w w') (k : Kp P w' w'') : Kp P w w'' := ⟨k.os.trans h.os, k.tape.trans h.tape, k.output.trans h.output, Nat.le_trans h.size k.size, fun b hb hl => (k.block b hb (Nat.lt_of_lt_of_le hl h.size)).trans (h.block b hb hl)⟩
theorem Kp.of (h : Below w.heap.size w w') : Kp P w w' := ⟨h.os, h.tape, h.output, h.size, fun b _ hl => h.block b hl⟩
theorem Kp.drew (h : Kp P w w') : Kp P w w'.drew := ⟨h.os, h.tape, h.output, h.size, h.block⟩
theorem Kp.drewN (h : Kp P w w') (n : Nat) : Kp P w (w'.drewN n) := ⟨h.os, h.tape, h.output, h.size, h.block⟩
theorem Kp.alloc (h : Kp P w w') (o : Obj) : Kp P w (w'.alloc o) := h.trans (.of (below1 w' o))
theorem Kp.setCell (h : Kp P w w') {p : Addr} (hp : ¬ P p.block) (v : Value) : Kp P w (w'.setCell p v) := ⟨h.os, h.tape, h.output, by simpa [World.setCell] using h.size, fun b hb hl => (Below.heap_setCell w' p v b (fun e => hp (by rw [← e]; exact hb))).trans (h.block b hb hl)⟩
theorem Kp.grown (h : Kp P w w') {r : Option Nat} (k : w'.grownBy w'' r) (hr : ∀ g, r = some g → ¬ P g) : Kp P w w'' := ⟨k.os.trans h.os, k.tape.trans h.tape, k.output.trans h.output, Nat.le_trans h.size k.size, fun b hb hl => (k.block b (Nat.lt_of_lt_of_le hl h.size) (fun e => hr b e.symm hb)).trans (h.block b hb hl)⟩
theorem Kp.below {n : Nat} (h : Kp (fun b => b < n) w w') (hn : n ≤ w.heap.size) : Below n w w' := ⟨h.os, h.tape, h.output, h.size, fun b hb => h.block b hb (by omega)⟩
end

/-- The queue at block qa: its items, and the map of their places. Nothing of it lies in a block that base names, and those are there. -/
def QSt (w : World) (base : Nat → Prop) (qa : Nat) (q : List (Int × Int)) : Prop :=
  ∃ (v : Value) (B : Nat) (D : DataW Unit), Pair w qa 127 v (.map (some B)) ∧ w.ownsRow 0 73 2 v q.length (cellsP q) ∧ w.ownsMap Try.prog 3 (plainElem Try.prog 3) B q.length D ∧ PlOf q D ∧ ¬ base qa ∧ ¬ base B ∧ (∀ i, i < q.length → In64 (idg q i)) ∧ (∀ g, v.ownBlock = some g → ¬ base g) ∧ ∀ b, base b → b < w.heap.size

/-- Two items exchanged. -/
def swq (q : List (Int × Int)) (i j : Nat) : List (Int × Int) := (q.set i (ptg q j)).set j (ptg q i)
theorem swq_len (q : List (Int × Int)) (i j : Nat) : (swq q i j).length = q.length := by simp [swq]
theorem ptg_set (q : List (Int × Int)) (i k : Nat) (x : Int × Int) (hi : i < q.length) : ptg (q.set i x) k = if i = k then x else ptg q k := by
  unfold ptg
  by_cases e : i = k
  · subst e; rw [if_pos rfl]; simp [hi]
  · rw [if_neg e]; simp [e]
theorem swq_at {q : List (Int × Int)} {i j : Nat} (hi : i < q.length) (hj : j < q.length) (k : Nat) : ptg (swq q i j) k = if k = j then ptg q i else if k = i then ptg q j else ptg q k := by
  unfold swq
  rw [ptg_set _ _ _ _ (by simpa using hj), ptg_set _ _ _ _ hi]
  by_cases h1 : k = j
  · subst h1; simp
  · rw [if_neg (fun e => h1 e.symm), if_neg h1]
    by_cases h2 : k = i
    · subst h2; simp
    · rw [if_neg (fun e => h2 e.symm), if_neg h2]
theorem swq_perm (q : List (Int × Int)) {i j : Nat} (hi : i < q.length) (hj : j < q.length) : (swq q i j).Perm q := by
  have e1 : ptg q i = q[i] := by unfold ptg; simp [hi]
  have e2 : ptg q j = q[j] := by unfold ptg; simp [hj]
  unfold swq; rw [e1, e2]
  exact List.set_set_perm hi hj

/-- Cells of a row of items. -/
theorem QSt.cells_at {w : World} {base : Nat} {v : Value} {q : List (Int × Int)} (own : w.ownsRow base 73 2 v q.length (cellsP q)) {i : Nat} (hi : i < q.length) : ∃ g cap cur, v = .slice (some ⟨g, 0, none⟩) q.length cap ∧ q.length ≤ cap ∧ base ≤ g ∧ w.heap[g]? = some (.cells cur 73 (0, 0)) := by
  rcases own.2 with ⟨-, h2⟩ | ⟨g, cap, cur, h1, h2, h3, h4, -⟩
  · omega
  · exact ⟨g, cap, cur, h1, h4, h2, h3⟩
theorem row_cell {w : World} {base g cap : Nat} {q : List (Int × Int)} (own : w.ownsRow base 73 2 (.slice (some ⟨g, 0, none⟩) q.length cap) q.length (cellsP q)) {i : Nat} (hi : i < q.length) :
    w.cell? ⟨g, i * 2, none⟩ = some (.int .i64 (ptg q i).1) ∧ w.cell? ⟨g, i * 2 + 1, none⟩ = some (.int .i64 (ptg q i).2) ∧ w.frozen? ⟨g, i * 2, none⟩ = false ∧ w.frozen? ⟨g, i * 2 + 1, none⟩ = false := by
  obtain ⟨A, c, e, -, hA⟩ := ownI_is own
  obtain ⟨g', e', -, ho⟩ := hA (by omega)
  cases e; cases e'
  have h0 := ho.cell (i := i * 2) (by omega)
  have h1 := ho.cell (i := i * 2 + 1) (by omega)
  rw [flatP_0, Nat.zero_add] at h0
  rw [flatP_1, Nat.zero_add] at h1
  exact ⟨h0, h1, ho.frozen _, ho.frozen _⟩

-- SWAP BEGINS
theorem cellsP_set2 : ∀ (q : List (Int × Int)) (i : Nat) (x : Int × Int), ((cellsP q).set (i * 2) (.int .i64 x.1)).set (i * 2 + 1) (.int .i64 x.2) = cellsP (q.set i x)
  | [], i, x => by simp [cellsP]
  | a :: r, 0, x => by simp [cellsP]
  | a :: r, i + 1, x => by
    have ih := cellsP_set2 r i x
    have e : cellsP (a :: r) = .int .i64 a.1 :: .int .i64 a.2 :: cellsP r := by simp [cellsP]
    have e2 : cellsP ((a :: r).set (i + 1) x) = .int .i64 a.1 :: .int .i64 a.2 :: cellsP (r.set i x) := by simp [cellsP]
    rw [e, e2, ← ih, show (i + 1) * 2 = i * 2 + 1 + 1 by omega]
    simp

/-- The places behind an exchange. -/
theorem PlOf.swap {q : List (Int × Int)} {D : DataW Unit} (h : PlOf q D) {i j : Nat} (hi : i < q.length) (hj : j < q.length) (hne : i ≠ j) : PlOf (swq q i j) ((D.put (kI (idg q j)) (.lit (kI (i : Int)))).put (kI (idg q i)) (.lit (kI (j : Int)))) := by
  have hm := h.tidy.isMap
  have t1 := h.tidy.put (isKey_int (idg q j)) (.lit (kI (i : Int)))
  have hd : idg q i ≠ idg q j := fun e => hne (h.inj hi hj e)
  have hid : ∀ k, idg (swq q i j) k = if k = j then idg q i else if k = i then idg q j else idg q k := fun k => by
    unfold idg; rw [swq_at hi hj]; split
    · rfl
    · split <;> rfl
  have hhj : Maps.has D (kI (idg q j)) = true := (h.has _).2 ⟨j, hj, rfl⟩
  have hhi : Maps.has (D.put (kI (idg q j)) (.lit (kI (i : Int)))) (kI (idg q i)) = true := by rw [has_put_other (kI_ne hd)]; exact (h.has _).2 ⟨i, hi, rfl⟩
  refine ⟨t1.put (isKey_int _) _, ?_, fun x => ?_, fun k hk z => ?_, fun a ha b hb => ?_⟩
  · rw [size_put t1, if_pos hhi, size_put h.tidy, if_pos hhj, h.size, swq_len]
  · rw [swq_len]
    have e : Maps.has ((D.put (kI (idg q j)) (.lit (kI (i : Int)))).put (kI (idg q i)) (.lit (kI (j : Int)))) (kI x) = true ↔ Maps.has D (kI x) = true := by
      by_cases e1 : x = idg q i
      · subst e1; rw [has_put_same t1.isMap (isKey_int _)]; exact ⟨fun _ => (h.has _).2 ⟨i, hi, rfl⟩, fun _ => rfl⟩
      · rw [has_put_other (kI_ne e1)]
        by_cases e2 : x = idg q j
        · subst e2; rw [has_put_same hm (isKey_int _)]; exact ⟨fun _ => hhj, fun _ => rfl⟩
        · rw [has_put_other (kI_ne e2)]
    rw [e, h.has]
    constructor
    · rintro ⟨k, hk, rfl⟩
      by_cases e1 : k = i
      · subst e1; exact ⟨j, hj, by rw [hid, if_pos rfl]⟩
      · by_cases e2 : k = j
        · subst e2; exact ⟨i, hi, by rw [hid, if_neg hne, if_pos rfl]⟩
        · exact ⟨k, hk, by rw [hid, if_neg e2, if_neg e1]⟩
    · rintro ⟨k, hk, rfl⟩
      rw [hid]
      by_cases e2 : k = j
      · rw [if_pos e2]; exact ⟨i, hi, rfl⟩
      · rw [if_neg e2]
        by_cases e1 : k = i
        · rw [if_pos e1]; exact ⟨j, hj, rfl⟩
        · rw [if_neg e1]; exact ⟨k, hk, rfl⟩
  · rw [swq_len] at hk
    rw [hid]
    by_cases e2 : k = j
    · rw [if_pos e2, atKey_put_same t1.isMap (isKey_int _), e2]
    · rw [if_neg e2]
      by_cases e1 : k = i
      · rw [if_pos e1, atKey_put_other (kI_ne (Ne.symm hd)), atKey_put_same hm (isKey_int _), e1]
      · rw [if_neg e1, atKey_put_other (kI_ne (fun e => e1 (h.inj hk hi e))), atKey_put_other (kI_ne (fun e => e2 (h.inj hk hj e)))]
        exact h.at_ k hk z
  · rw [swq_len] at ha
    rw [hid, hid]
    intro e
    have hinj : ∀ {a b : Nat}, a < q.length → b < q.length → idg q a = idg q b → a = b := fun h1 h2 e => h.inj h1 h2 e
    split at e <;> rename_i c1
    · split at e <;> rename_i c2
      · omega
      · split at e <;> rename_i c3
        · have := hinj hi hj e; omega
        · have := hinj hi ha e; omega
    · split at e <;> rename_i c2
      · split at e <;> rename_i c3
        · have := hinj hj hi e; omega
        · split at e <;> rename_i c4
          · omega
          · have := hinj hj ha e; omega
      · split at e <;> rename_i c3
        · have := hinj (show b < q.length by omega) hi e; omega
        · split at e <;> rename_i c4
          · have := hinj (show b < q.length by omega) hj e; omega
          · have := hinj (show b < q.length by omega) ha e; omega

theorem row_set {w : World} {base g cap : Nat} {q : List (Int × Int)} (own : w.ownsRow base 73 2 (.slice (some ⟨g, 0, none⟩) q.length cap) q.length (cellsP q)) (i : Nat) (x : Int × Int) :
    ((w.setCell ⟨g, i * 2, none⟩ (.int .i64 x.1)).setCell ⟨g, i * 2 + 1, none⟩ (.int .i64 x.2)).ownsRow base 73 2 (.slice (some ⟨g, 0, none⟩) q.length cap) q.length (cellsP (q.set i x)) := by
  have := ownsRow_put (ownsRow_put own (i * 2) (.int .i64 x.1)) (i * 2 + 1) (.int .i64 x.2)
  rw [cellsP_set2] at this
  exact this

theorem ownB_ne {g n cap B : Nat} (h : B ≠ g) : Value.ownBlock (.slice (some ⟨g, 0, none⟩) n cap) ≠ some B := by
  intro e
  have e' : g = B := by simpa [Value.ownBlock] using e
  exact h e'.symm

/-- What the second half of Swap reads: the queue's box, two Ids. -/
abbrev SwS (qa : Nat) (u v : Value) (g o1 o2 : Nat) (d1 d2 : Int) (w : World) : Prop := (w.cell? ⟨qa, 0, none⟩ = some u ∧ w.cell? ⟨qa, 1, none⟩ = some v) ∧ w.cell? ⟨g, o1, none⟩ = some (.int .i64 d1) ∧ w.cell? ⟨g, o2, none⟩ = some (.int .i64 d2)
theorem SwS.grown {qa : Nat} {u v : Value} {g o1 o2 : Nat} {d1 d2 : Int} {w w' : World} {B : Nat} (hg : w.grownBy w' (some B)) (h1 : B ≠ qa) (h2 : B ≠ g) (h : SwS qa u v g o1 o2 d1 d2 w) : SwS qa u v g o1 o2 d1 d2 w' :=
  ⟨⟨cell_only hg h.1.1 (by intro e; injection e with e; omega), cell_only hg h.1.2 (by intro e; injection e with e; omega)⟩, cell_only hg h.2.1 (by intro e; injection e with e; omega), cell_only hg h.2.2 (by intro e; injection e with e; omega)⟩

set_option maxRecDepth 1000000 in
set_option maxHeartbeats 16000000 in
theorem swap_any (w : World) (base : Nat → Prop) (qa : Nat) (q : List (Int × Int)) (i j : Nat) (hi : i < q.length) (hj : j < q.length) (hne : i ≠ j) (hn : q.length ≤ 4194304) (h : QSt w base qa q) :
    Calls Try.prog 158 #[.pointer (some ⟨qa, 0, none⟩), .int .i64 (i : Int), .int .i64 (j : Int)] w fun e w' => e = .returned (.tuple #[]) ∧ QSt w' base qa (swq q i j) ∧ Kp base w w' := by
  obtain ⟨v, B, D, X, own, hmap, hpl, hqa, hB, h64, hvP, hPin⟩ := h
  obtain ⟨g, cap, cur, rfl, hcap, -, hgb⟩ := QSt.cells_at own hi
  have hg : ¬ base g := hvP g rfl
  obtain ⟨a0, a1, a2, a3⟩ := row_cell own hi
  obtain ⟨b0, b1, b2, b3⟩ := row_cell own hj
  obtain ⟨x0, x1, -, -⟩ := X.cells
  have hii : (i : Int) < q.length := by omega
  have hji : (j : Int) < q.length := by omega
  have hgq : g ≠ qa := fun e => by subst e; have := X.symm.trans hgb; simp at this
  have HM := Lib.hid hmap
  obtain ⟨es, ck, hmb, -⟩ := hmap
  have hBq : B ≠ qa := fun e => by subst e; have := X.symm.trans hmb; simp at this
  have hBg : B ≠ g := fun e => by subst e; have := hgb.symm.trans hmb; simp at this
  have hne2 : i * 2 ≠ j * 2 := by omega
  have hne3 : i * 2 ≠ j * 2 + 1 := by omega
  have hne4 : i * 2 + 1 ≠ j * 2 := by omega
  have own1 := row_set own i (ptg q j)
  have own2 := row_set (q := q.set i (ptg q j)) (by simpa using own1) j (ptg q i)
  have HPL := Lib.hid (hpl.swap hi hj hne)
  have h64i := h64 i hi
  have h64j := h64 j hj
  have hhj := (hpl.has _).2 ⟨j, hj, rfl⟩
  have hhi : Maps.has (D.put (kI (idg q j)) (.lit (kI (i : Int)))) (kI (idg q i)) = true := by rw [has_put_other (kI_ne (fun e => hne (hpl.inj hi hj e)))]; exact (hpl.has _).2 ⟨i, hi, rfl⟩
  have H64 := Lib.hid (show ∀ k, k < (swq q i j).length → In64 (idg (swq q i j) k) from fun k hk => by
    rw [swq_len] at hk
    unfold idg; rw [swq_at hi hj]; split
    · exact h64i
    · split
      · exact h64j
      · exact h64 k hk)
  have own3 : ((((w.setCell ⟨g, i * 2, none⟩ (.int .i64 (ptg q j).1)).setCell ⟨g, i * 2 + 1, none⟩ (.int .i64 (ptg q j).2)).setCell ⟨g, j * 2, none⟩ (.int .i64 (ptg q i).1)).setCell ⟨g, j * 2 + 1, none⟩ (.int .i64 (ptg q i).2)).ownsRow 0 73 2 (.slice (some ⟨g, 0, none⟩) q.length cap) (swq q i j).length (cellsP (swq q i j)) := by
    rw [swq_len]; simpa [swq] using own2
  have hXs : ∀ (W : World) (k : Nat) (u : Value), Pair W qa 127 (.slice (some ⟨g, 0, none⟩) q.length cap) (.map (some B)) → Pair (W.setCell ⟨g, k, none⟩ u) qa 127 (.slice (some ⟨g, 0, none⟩) q.length cap) (.map (some B)) := fun W k u h => (Below.heap_setCell W ⟨g, k, none⟩ u qa (Ne.symm hgq)).trans h
  have X3 := hXs _ (j * 2 + 1) (.int .i64 (ptg q i).2) (hXs _ (j * 2) (.int .i64 (ptg q i).1) (hXs _ (i * 2 + 1) (.int .i64 (ptg q j).2) (hXs _ (i * 2) (.int .i64 (ptg q j).1) X)))
  have M3 := ((((HM.out).setCell (a := ⟨g, i * 2, none⟩) hBg (.int .i64 (ptg q j).1)).setCell (a := ⟨g, i * 2 + 1, none⟩) hBg (.int .i64 (ptg q j).2)).setCell (a := ⟨g, j * 2, none⟩) hBg (.int .i64 (ptg q i).1)).setCell (a := ⟨g, j * 2 + 1, none⟩) hBg (.int .i64 (ptg q i).2)
  have K3 := ((((Kp.refl base w).setCell (p := ⟨g, i * 2, none⟩) hg (.int .i64 (ptg q j).1)).setCell (p := ⟨g, i * 2 + 1, none⟩) hg (.int .i64 (ptg q j).2)).setCell (p := ⟨g, j * 2, none⟩) hg (.int .i64 (ptg q i).1)).setCell (p := ⟨g, j * 2 + 1, none⟩) hg (.int .i64 (ptg q i).2)
  obtain ⟨W, hW⟩ : ∃ W, W = (((w.setCell ⟨g, i * 2, none⟩ (.int .i64 (ptg q j).1)).setCell ⟨g, i * 2 + 1, none⟩ (.int .i64 (ptg q j).2)).setCell ⟨g, j * 2, none⟩ (.int .i64 (ptg q i).1)).setCell ⟨g, j * 2 + 1, none⟩ (.int .i64 (ptg q i).2) := ⟨_, rfl⟩
  rw [← hW] at own3 X3 M3 K3
  have own4 : W.drew.drew.ownsRow 0 73 2 (.slice (some ⟨g, 0, none⟩) (swq q i j).length cap) (swq q i j).length (cellsP (swq q i j)) := by rw [swq_len] at own3 ⊢; exact own3
  have tj := (row_cell own4 (i := i) (by rw [swq_len]; exact hi)).2.1
  have ti := (row_cell own4 (i := j) (by rw [swq_len]; exact hj)).2.1
  rw [swq_at hi hj, if_neg hne, if_pos rfl] at tj
  rw [swq_at hi hj, if_pos rfl] at ti
  have HW := Lib.hid hW
  clear hW
  rw [show (ptg q i).2 = idg q i from rfl] at a1 HW ti
  rw [show (ptg q j).2 = idg q j from rfl] at b1 HW tj
  generalize (ptg q i).1 = ki at a0 HW
  generalize (ptg q j).1 = kj at b0 HW
  generalize idg q i = di at a1 HW ti h64i hhi HPL
  generalize idg q j = dj at b1 HW tj h64j hhj hhi HPL
  have T : SwS qa (.slice (some ⟨g, 0, none⟩) q.length cap) (.map (some B)) g (i * 2 + 1) (j * 2 + 1) dj di W.drew.drew := ⟨⟨X3.cells.1, X3.cells.2.1⟩, tj, ti⟩
  obtain ⟨v0, st, w1, w2, r1, r2, m2, g1, g2⟩ := entry_own (w := W.drew.drew) M3 (by unfold maxLen; omega) (x := dj) (y := (i : Int)) h64j ⟨by omega, by omega⟩ hhj
  obtain ⟨u0, su, w3, w4, r3, r4, m4, g3, g4⟩ := entry_own m2 (by unfold maxLen; omega) (x := di) (y := (j : Int)) h64i ⟨by omega, by omega⟩ hhi
  have G4 := only_trans (only_trans g1 g2) (only_trans g3 g4)
  have m5 := ownsMap_size m4
  rw [HPL.out.size] at m5
  have KF : Kp base w w4 := Kp.grown (K3.drew.drew) G4 (fun g e => by injection e with e; rw [← e]; exact hB)
  have FIN : QSt w4 base qa (swq q i j) := ⟨_, B, _, Pair.grown' (w := W.drew.drew) (by rw [swq_len]; exact X3) G4 (fun g e => by injection e with e; omega), own4.kept G4 (.inr (ownB_ne hBg)), m5, HPL.out, hqa, hB, H64.out, fun g' e => hvP g' (by rw [← e]; rfl), fun b hb => Nat.lt_of_lt_of_le (hPin b hb) KF.size⟩
  clear own own1 own2 own3 own4 ti tj hmb hgb m2 m4 m5 G4 M3 X3 K3 X HPL H64 hXs h64 hpl
  go_enter Try.func158, Try.ntmps158
  go_wp2_with fail
  go_region
  rw [← HW.out]
  clear a0 a1 a2 a3 b0 b1 b2 b3 x0 x1 HW
  go_wp2_with fail
  refine wp_region_held_drew (S := (fun w' => SwS qa (.slice (some ⟨g, 0, none⟩) q.length cap) (.map (some B)) g (i * 2 + 1) (j * 2 + 1) dj di w')) (by kernel_rfl) ?_ (fun hHeld => ?_)
  · exact T
  clear T
  refine wpAnyH_take (i := 0) (oi := ⟨some 32, _, _, _, _, _⟩) (v := .pointer (some ⟨qa, 0, none⟩)) rfl (by kernel_rfl) (by kernel_rfl) (by kernel_rfl) (fun _ _ _ h => h) (Or.inl ⟨by rfl, fun w' hw => ?hy⟩) hHeld ?_
  case hy => (try dsimp only at hw); go_simp
  simp only [Act.put, List.setIfInBounds_toArray, List.set_cons_zero, List.set_cons_succ]
  refine wpAnyH_take (i := 1) (oi := ⟨some 33, _, _, _, _, _⟩) (v := .pointer (some ⟨qa, 0, none⟩)) rfl (by kernel_rfl) (by kernel_rfl) (by kernel_rfl) (fun _ _ _ h => h) (Or.inl ⟨by rfl, fun w' hw => ?hy⟩) hHeld ?_
  case hy => (try dsimp only at hw); go_simp
  simp only [Act.put, List.setIfInBounds_toArray, List.set_cons_zero, List.set_cons_succ]
  refine wpAnyH_take (i := 2) (oi := ⟨some 34, _, _, _, _, _⟩) (v := .pointer (some ⟨qa, 1, none⟩)) rfl (by kernel_rfl) (by kernel_rfl) (by kernel_rfl) (fun _ _ _ h => h) (Or.inl ⟨by rfl, fun w' hw => ?hy⟩) hHeld ?_
  case hy => (try dsimp only at hw); go_simp
  simp only [Act.put, List.setIfInBounds_toArray, List.set_cons_zero, List.set_cons_succ]
  refine wpAnyH_take (i := 3) (oi := ⟨some 35, _, _, _, _, _⟩) (v := .map (some B)) rfl (by kernel_rfl) (by kernel_rfl) (by kernel_rfl) (fun _ _ _ h => h) (Or.inl ⟨by rfl, fun w' hw => ?hy⟩) hHeld ?_
  case hy => (try dsimp only at hw); have hx0 := hw.1.2; clear hw; go_simp
  simp only [Act.put, List.setIfInBounds_toArray, List.set_cons_zero, List.set_cons_succ]
  refine wpAnyH_take (i := 4) (oi := ⟨some 36, _, _, _, _, _⟩) (v := .pointer (some ⟨qa, 0, none⟩)) rfl (by kernel_rfl) (by kernel_rfl) (by kernel_rfl) (fun _ _ _ h => h) (Or.inl ⟨by rfl, fun w' hw => ?hy⟩) hHeld ?_
  case hy => (try dsimp only at hw); go_simp
  simp only [Act.put, List.setIfInBounds_toArray, List.set_cons_zero, List.set_cons_succ]
  refine wpAnyH_take (i := 5) (oi := ⟨some 37, _, _, _, _, _⟩) (v := .pointer (some ⟨qa, 0, none⟩)) rfl (by kernel_rfl) (by kernel_rfl) (by kernel_rfl) (fun _ _ _ h => h) (Or.inl ⟨by rfl, fun w' hw => ?hy⟩) hHeld ?_
  case hy => (try dsimp only at hw); go_simp
  simp only [Act.put, List.setIfInBounds_toArray, List.set_cons_zero, List.set_cons_succ]
  refine wpAnyH_take (i := 6) (oi := ⟨some 38, _, _, _, _, _⟩) (v := .pointer (some ⟨qa, 0, none⟩)) rfl (by kernel_rfl) (by kernel_rfl) (by kernel_rfl) (fun _ _ _ h => h) (Or.inl ⟨by rfl, fun w' hw => ?hy⟩) hHeld ?_
  case hy => (try dsimp only at hw); go_simp
  simp only [Act.put, List.setIfInBounds_toArray, List.set_cons_zero, List.set_cons_succ]
  refine wpAnyH_take (i := 7) (oi := ⟨some 39, _, _, _, _, _⟩) (v := .slice (some ⟨g, 0, none⟩) q.length cap) rfl (by kernel_rfl) (by kernel_rfl) (by kernel_rfl) (fun _ _ _ h => h) (Or.inl ⟨by rfl, fun w' hw => ?hy⟩) hHeld ?_
  case hy => (try dsimp only at hw); have hx0 := hw.1.1; clear hw; go_simp
  simp only [Act.put, List.setIfInBounds_toArray, List.set_cons_zero, List.set_cons_succ]
  refine wpAnyH_take (i := 8) (oi := ⟨some 40, _, _, _, _, _⟩) (v := .int .i64 (i : Int)) rfl (by kernel_rfl) (by kernel_rfl) (by kernel_rfl) (fun _ _ _ h => h) (Or.inl ⟨by rfl, fun w' hw => ?hy⟩) hHeld ?_
  case hy => (try dsimp only at hw); go_simp
  simp only [Act.put, List.setIfInBounds_toArray, List.set_cons_zero, List.set_cons_succ]
  refine wpAnyH_take (i := 9) (oi := ⟨some 41, _, _, _, _, _⟩) (v := .pointer (some ⟨g, i * 2, none⟩)) rfl (by kernel_rfl) (by kernel_rfl) (by kernel_rfl) (fun _ _ _ h => h) (Or.inl ⟨by rfl, fun w' hw => ?hy⟩) hHeld ?_
  case hy => (try dsimp only at hw); go_simp
  simp only [Act.put, List.setIfInBounds_toArray, List.set_cons_zero, List.set_cons_succ]
  refine wpAnyH_take (i := 10) (oi := ⟨some 42, _, _, _, _, _⟩) (v := .pointer (some ⟨g, i * 2 + 1, none⟩)) rfl (by kernel_rfl) (by kernel_rfl) (by kernel_rfl) (fun _ _ _ h => h) (Or.inl ⟨by rfl, fun w' hw => ?hy⟩) hHeld ?_
  case hy => (try dsimp only at hw); go_simp
  simp only [Act.put, List.setIfInBounds_toArray, List.set_cons_zero, List.set_cons_succ]
  refine wpAnyH_take (i := 11) (oi := ⟨some 43, _, _, _, _, _⟩) (v := .int .i64 dj) rfl (by kernel_rfl) (by kernel_rfl) (by kernel_rfl) (fun _ _ _ h => h) (Or.inl ⟨by rfl, fun w' hw => ?hy⟩) hHeld ?_
  case hy => (try dsimp only at hw); have hx0 := hw.2.1; clear hw; go_simp
  simp only [Act.put, List.setIfInBounds_toArray, List.set_cons_zero, List.set_cons_succ]
  refine wpAnyH_take (i := 12) (oi := ⟨some 44, _, _, _, _, _⟩) (v := .pointer (some ⟨qa, 0, none⟩)) rfl (by kernel_rfl) (by kernel_rfl) (by kernel_rfl) (fun _ _ _ h => h) (Or.inl ⟨by rfl, fun w' hw => ?hy⟩) hHeld ?_
  case hy => (try dsimp only at hw); go_simp
  simp only [Act.put, List.setIfInBounds_toArray, List.set_cons_zero, List.set_cons_succ]
  refine wpAnyH_take (i := 13) (oi := ⟨some 45, _, _, _, _, _⟩) (v := .pointer (some ⟨qa, 0, none⟩)) rfl (by kernel_rfl) (by kernel_rfl) (by kernel_rfl) (fun _ _ _ h => h) (Or.inl ⟨by rfl, fun w' hw => ?hy⟩) hHeld ?_
  case hy => (try dsimp only at hw); go_simp
  simp only [Act.put, List.setIfInBounds_toArray, List.set_cons_zero, List.set_cons_succ]
  refine wpAnyH_take (i := 14) (oi := ⟨some 46, _, _, _, _, _⟩) (v := .pointer (some ⟨qa, 1, none⟩)) rfl (by kernel_rfl) (by kernel_rfl) (by kernel_rfl) (fun _ _ _ h => h) (Or.inl ⟨by rfl, fun w' hw => ?hy⟩) hHeld ?_
  case hy => (try dsimp only at hw); go_simp
  simp only [Act.put, List.setIfInBounds_toArray, List.set_cons_zero, List.set_cons_succ]
  refine wpAnyH_take (i := 15) (oi := ⟨some 47, _, _, _, _, _⟩) (v := .map (some B)) rfl (by kernel_rfl) (by kernel_rfl) (by kernel_rfl) (fun _ _ _ h => h) (Or.inl ⟨by rfl, fun w' hw => ?hy⟩) hHeld ?_
  case hy => (try dsimp only at hw); have hx0 := hw.1.2; clear hw; go_simp
  simp only [Act.put, List.setIfInBounds_toArray, List.set_cons_zero, List.set_cons_succ]
  refine wpAnyH_take (i := 16) (oi := ⟨some 48, _, _, _, _, _⟩) (v := .pointer (some ⟨qa, 0, none⟩)) rfl (by kernel_rfl) (by kernel_rfl) (by kernel_rfl) (fun _ _ _ h => h) (Or.inl ⟨by rfl, fun w' hw => ?hy⟩) hHeld ?_
  case hy => (try dsimp only at hw); go_simp
  simp only [Act.put, List.setIfInBounds_toArray, List.set_cons_zero, List.set_cons_succ]
  refine wpAnyH_take (i := 17) (oi := ⟨some 49, _, _, _, _, _⟩) (v := .pointer (some ⟨qa, 0, none⟩)) rfl (by kernel_rfl) (by kernel_rfl) (by kernel_rfl) (fun _ _ _ h => h) (Or.inl ⟨by rfl, fun w' hw => ?hy⟩) hHeld ?_
  case hy => (try dsimp only at hw); go_simp
  simp only [Act.put, List.setIfInBounds_toArray, List.set_cons_zero, List.set_cons_succ]
  refine wpAnyH_take (i := 18) (oi := ⟨some 50, _, _, _, _, _⟩) (v := .pointer (some ⟨qa, 0, none⟩)) rfl (by kernel_rfl) (by kernel_rfl) (by kernel_rfl) (fun _ _ _ h => h) (Or.inl ⟨by rfl, fun w' hw => ?hy⟩) hHeld ?_
  case hy => (try dsimp only at hw); go_simp
  simp only [Act.put, List.setIfInBounds_toArray, List.set_cons_zero, List.set_cons_succ]
  refine wpAnyH_take (i := 19) (oi := ⟨some 51, _, _, _, _, _⟩) (v := .slice (some ⟨g, 0, none⟩) q.length cap) rfl (by kernel_rfl) (by kernel_rfl) (by kernel_rfl) (fun _ _ _ h => h) (Or.inl ⟨by rfl, fun w' hw => ?hy⟩) hHeld ?_
  case hy => (try dsimp only at hw); have hx0 := hw.1.1; clear hw; go_simp
  simp only [Act.put, List.setIfInBounds_toArray, List.set_cons_zero, List.set_cons_succ]
  refine wpAnyH_take (i := 20) (oi := ⟨some 52, _, _, _, _, _⟩) (v := .int .i64 (j : Int)) rfl (by kernel_rfl) (by kernel_rfl) (by kernel_rfl) (fun _ _ _ h => h) (Or.inl ⟨by rfl, fun w' hw => ?hy⟩) hHeld ?_
  case hy => (try dsimp only at hw); go_simp
  simp only [Act.put, List.setIfInBounds_toArray, List.set_cons_zero, List.set_cons_succ]
  refine wpAnyH_take (i := 21) (oi := ⟨some 53, _, _, _, _, _⟩) (v := .pointer (some ⟨g, j * 2, none⟩)) rfl (by kernel_rfl) (by kernel_rfl) (by kernel_rfl) (fun _ _ _ h => h) (Or.inl ⟨by rfl, fun w' hw => ?hy⟩) hHeld ?_
  case hy => (try dsimp only at hw); go_simp
  simp only [Act.put, List.setIfInBounds_toArray, List.set_cons_zero, List.set_cons_succ]
  refine wpAnyH_take (i := 22) (oi := ⟨some 54, _, _, _, _, _⟩) (v := .pointer (some ⟨g, j * 2 + 1, none⟩)) rfl (by kernel_rfl) (by kernel_rfl) (by kernel_rfl) (fun _ _ _ h => h) (Or.inl ⟨by rfl, fun w' hw => ?hy⟩) hHeld ?_
  case hy => (try dsimp only at hw); go_simp
  simp only [Act.put, List.setIfInBounds_toArray, List.set_cons_zero, List.set_cons_succ]
  refine wpAnyH_take (i := 23) (oi := ⟨some 55, _, _, _, _, _⟩) (v := .int .i64 di) rfl (by kernel_rfl) (by kernel_rfl) (by kernel_rfl) (fun _ _ _ h => h) (Or.inl ⟨by rfl, fun w' hw => ?hy⟩) hHeld ?_
  case hy => (try dsimp only at hw); have hx0 := hw.2.2; clear hw; go_simp
  simp only [Act.put, List.setIfInBounds_toArray, List.set_cons_zero, List.set_cons_succ]
  refine wpAnyH_take (i := 24) (oi := ⟨some 56, _, _, _, _, _⟩) (v := .int .i64 (i : Int)) rfl (by kernel_rfl) (by kernel_rfl) (by kernel_rfl) (fun _ _ _ h => h) (Or.inl ⟨by rfl, fun w' hw => ?hy⟩) hHeld ?_
  case hy => (try dsimp only at hw); go_simp
  simp only [Act.put, List.setIfInBounds_toArray, List.set_cons_zero, List.set_cons_succ]
  refine wpAnyH_take (i := 25) (oi := ⟨some 57, _, _, _, _, _⟩) (v := .int .i64 (j : Int)) rfl (by kernel_rfl) (by kernel_rfl) (by kernel_rfl) (fun _ _ _ h => h) (Or.inl ⟨by rfl, fun w' hw => ?hy⟩) hHeld ?_
  case hy => (try dsimp only at hw); go_simp
  simp only [Act.put, List.setIfInBounds_toArray, List.set_cons_zero, List.set_cons_succ]
  refine wpAnyH_ready (rs := [26]) (by kernel_rfl) (by simp) ?_
  refine AllReadyH.cons (o := ⟨some 58, _, _, _, _, _⟩) rfl (fun K hK => ?_) AllReadyH.nil
  go_simp
  refine hK.out _ _ ?_ (fun hHeld => ?_)
  · exact SwS.grown g1 hBq hBg hHeld
  clear hK K
  try simp only [Act.put, List.setIfInBounds_toArray, List.set_cons_zero, List.set_cons_succ]
  refine wpAnyH_take (i := 27) (oi := ⟨some 59, _, _, _, _, _⟩) (v := .int .i64 st) rfl (by kernel_rfl) (by kernel_rfl) (by kernel_rfl) (fun _ _ _ h => h) (Or.inl ⟨by rfl, fun w' hw => ?hy⟩) hHeld ?_
  case hy => (try dsimp only at hw); go_simp
  simp only [Act.put, List.setIfInBounds_toArray, List.set_cons_zero, List.set_cons_succ]
  refine wpAnyH_ready (rs := [28]) (by kernel_rfl) (by simp) ?_
  refine AllReadyH.cons (o := ⟨none, _, _, _, _, _⟩) rfl (fun K hK => ?_) AllReadyH.nil
  go_simp
  refine hK.out _ _ ?_ (fun hHeld => ?_)
  · exact SwS.grown g2 hBq hBg hHeld
  clear hK K
  try simp only [Act.put, List.setIfInBounds_toArray, List.set_cons_zero, List.set_cons_succ]
  refine wpAnyH_ready (rs := [29]) (by kernel_rfl) (by simp) ?_
  refine AllReadyH.cons (o := ⟨some 60, _, _, _, _, _⟩) rfl (fun K hK => ?_) AllReadyH.nil
  go_simp
  refine hK.out _ _ ?_ (fun hHeld => ?_)
  · exact SwS.grown g3 hBq hBg hHeld
  clear hK K
  try simp only [Act.put, List.setIfInBounds_toArray, List.set_cons_zero, List.set_cons_succ]
  refine wpAnyH_take (i := 30) (oi := ⟨some 61, _, _, _, _, _⟩) (v := .int .i64 su) rfl (by kernel_rfl) (by kernel_rfl) (by kernel_rfl) (fun _ _ _ h => h) (Or.inl ⟨by rfl, fun w' hw => ?hy⟩) hHeld ?_
  case hy => (try dsimp only at hw); go_simp
  simp only [Act.put, List.setIfInBounds_toArray, List.set_cons_zero, List.set_cons_succ]
  refine wpAnyH_ready (rs := [31]) (by kernel_rfl) (by simp) ?_
  refine AllReadyH.cons (o := ⟨none, _, _, _, _, _⟩) rfl (fun K hK => ?_) AllReadyH.nil
  go_simp
  refine hK.out _ _ ?_ (fun hHeld => ?_)
  · exact SwS.grown g4 hBq hBg hHeld
  clear hK K
  try simp only [Act.put, List.setIfInBounds_toArray, List.set_cons_zero, List.set_cons_succ]
  refine wpAnyH_done (by kernel_rfl) ?_ _
  go_wp2
  go_end0
  exact ⟨rfl, FIN, KF⟩

end Go.Proofs.Ytcaamhoakhgnhaa

namespace Go.Proofs.Ytcaamhoakhgnhaa
open Go.RowKit Go.Deep Go.Maps

theorem QSt.below {w w' : World} {base : Nat → Prop} {qa : Nat} {q : List (Int × Int)} (h : QSt w base qa q) (hb : Below w.heap.size w w') : QSt w' base qa q := by
  obtain ⟨v, B, D, X, own, hmap, r1, r2, r3, r4, r5, r6⟩ := h
  exact ⟨v, B, D, X.below hb, ownsRow_below own hb, ownsMap_below hmap hb, r1, r2, r3, r4, r5, fun b h => Nat.lt_of_lt_of_le (r6 b h) hb.size⟩
theorem QSt.lt {w : World} {base : Nat → Prop} {qa : Nat} {q : List (Int × Int)} (h : QSt w base qa q) : qa < w.heap.size := by
  obtain ⟨v, B, D, X, -⟩ := h; exact X.lt
theorem QSt.len {w : World} {base : Nat → Prop} {qa : Nat} {q : List (Int × Int)} (h : QSt w base qa q) : ∃ A cap B, w.cell? ⟨qa, 0, none⟩ = some (.slice A q.length cap) ∧ w.cell? ⟨qa, 1, none⟩ = some (.map (some B)) := by
  obtain ⟨v, B, D, X, own, -⟩ := h
  obtain ⟨A, cap, rfl, -⟩ := ownI_is own
  exact ⟨A, cap, B, X.cells.1, X.cells.2.1⟩

theorem queueLen_any (w : World) (base : Nat → Prop) (qa : Nat) (q : List (Int × Int)) (h : QSt w base qa q) :
    Calls Try.prog 80 #[.pointer (some ⟨qa, 0, none⟩)] w fun e w' => e = .returned (.int .i64 (q.length : Int)) ∧ w = w' := by
  obtain ⟨A, cap, B, x0, -⟩ := h.len
  go_enter Try.func80, Try.ntmps80
  go_wp2
  go_ret
  exact ⟨rfl, rfl⟩

/-- One item of a queue ahead of another. -/
def ltB (a b : Int × Int) : Bool := decide (cmpI a b < 0)
theorem ltB_iff {a b : Int × Int} : ltB a b = true ↔ ltI a b := by unfold ltB; rw [decide_eq_true_eq, cmpI_neg]

/-- What Less reads: the queue's box, two items. -/
abbrev LsS (qa : Nat) (u : Value) (g o1 o2 : Nat) (k1 d1 k2 d2 : Int) (w : World) : Prop := w.cell? ⟨qa, 0, none⟩ = some u ∧ (w.cell? ⟨g, o1, none⟩ = some (.int .i64 k1) ∧ w.cell? ⟨g, o1 + 1, none⟩ = some (.int .i64 d1)) ∧ w.cell? ⟨g, o2, none⟩ = some (.int .i64 k2) ∧ w.cell? ⟨g, o2 + 1, none⟩ = some (.int .i64 d2)
theorem LsS.under {qa : Nat} {u : Value} {g o1 o2 : Nat} {k1 d1 k2 d2 : Int} {w w' : World} (hb : Below w.heap.size w w') (h : LsS qa u g o1 o2 k1 d1 k2 d2 w) : LsS qa u g o1 o2 k1 d1 k2 d2 w' := ⟨cell_under hb h.1, ⟨cell_under hb h.2.1.1, cell_under hb h.2.1.2⟩, cell_under hb h.2.2.1, cell_under hb h.2.2.2⟩
theorem LsS.drew {qa : Nat} {u : Value} {g o1 o2 : Nat} {k1 d1 k2 d2 : Int} {w : World} (h : LsS qa u g o1 o2 k1 d1 k2 d2 w) : LsS qa u g o1 o2 k1 d1 k2 d2 w.drew := h

set_option maxRecDepth 100000 in
set_option maxHeartbeats 4000000 in
theorem queueLess_any (w : World) (base : Nat → Prop) (qa : Nat) (q : List (Int × Int)) (i j : Nat) (hi : i < q.length) (hj : j < q.length) (_hn : q.length ≤ 4194304) (h : QSt w base qa q) :
    Calls Try.prog 155 #[.pointer (some ⟨qa, 0, none⟩), .int .i64 (i : Int), .int .i64 (j : Int)] w fun e w' => e = .returned (.bool (ltB (ptg q i) (ptg q j))) ∧ Below w.heap.size w w' := by
  obtain ⟨v, B, D, X, own, -⟩ := h
  obtain ⟨g, cap, cur, rfl, hcap, -, -⟩ := QSt.cells_at own hi
  obtain ⟨a0, a1, -, -⟩ := row_cell own hi
  obtain ⟨b0, b1, -, -⟩ := row_cell own hj
  have hii : (i : Int) < q.length := by omega
  have hji : (j : Int) < q.length := by omega
  have T : LsS qa (.slice (some ⟨g, 0, none⟩) q.length cap) g (i * 2) (j * 2) (ptg q i).1 (ptg q i).2 (ptg q j).1 (ptg q j).2 w := ⟨X.cells.1, ⟨a0, a1⟩, b0, b1⟩
  have HL := Lib.hid (show ltB (ptg q i) (ptg q j) = decide (cmpI ((ptg q i).1, (ptg q i).2) ((ptg q j).1, (ptg q j).2) < 0) from rfl)
  generalize (ptg q i).1 = k1 at T HL
  generalize (ptg q i).2 = d1 at T HL
  generalize (ptg q j).1 = k2 at T HL
  generalize (ptg q j).2 = d2 at T HL
  clear a0 a1 b0 b1 X own
  go_enter Try.func155, Try.ntmps155
  go_wp2_with fail
  go_region_held3 (fun w' => LsS qa (.slice (some ⟨g, 0, none⟩) q.length cap) g (i * 2) (j * 2) k1 d1 k2 d2 w')
    (first | exact LsS.drew T | (refine LsS.under (by assumption) ?_; assumption))
    ((go_at_call 153; refine (itemCmp_any _ _ _ _ _).mono ?_; rintro e w3 ⟨rfl, b3⟩))
  have K : Below w.heap.size w w3 := ((Below.refl w.heap.size w).drew).trans b3
  clear T b3
  go_wp2
  go_ret
  exact ⟨retB HL.out.symm, K⟩

-- PUSH BEGINS
theorem idg_snoc (q : List (Int × Int)) (x : Int × Int) (i : Nat) : idg (q ++ [x]) i = if i < q.length then idg q i else if i = q.length then x.2 else 0 := by
  unfold idg ptg
  by_cases h : i < q.length
  · rw [if_pos h]; simp [List.getElem?_append, h]
  · rw [if_neg h]
    by_cases e : i = q.length
    · subst e; simp
    · rw [if_neg e]; simp [List.getElem?_append, h, show ¬ i - q.length = 0 by omega]
theorem PlOf.push {q : List (Int × Int)} {D : DataW Unit} (h : PlOf q D) (x : Int × Int) (hx : ∀ i, i < q.length → idg q i ≠ x.2) : PlOf (q ++ [x]) (D.put (kI x.2) (.lit (kI (q.length : Int)))) := by
  have hm := h.tidy.isMap
  have hno : Maps.has D (kI x.2) = false := by
    cases e : Maps.has D (kI x.2) with
    | false => rfl
    | true => obtain ⟨i, hi, g⟩ := (h.has _).1 e; exact absurd g (hx i hi)
  refine ⟨h.tidy.put (isKey_int _) _, by rw [size_put h.tidy, hno, h.size]; simp, fun y => ?_, fun i hi z => ?_, fun i hi j hj => ?_⟩
  · by_cases e : y = x.2
    · subst e
      rw [has_put_same hm (isKey_int _)]
      exact ⟨fun _ => ⟨q.length, by simp, by rw [idg_snoc, if_neg (by omega), if_pos rfl]⟩, fun _ => rfl⟩
    · rw [has_put_other (kI_ne e), h.has]
      constructor
      · rintro ⟨i, hi, g⟩; exact ⟨i, by simp; omega, by rw [idg_snoc, if_pos hi]; exact g⟩
      · rintro ⟨i, hi, g⟩
        rw [idg_snoc] at g
        by_cases h' : i < q.length
        · rw [if_pos h'] at g; exact ⟨i, h', g⟩
        · rw [if_neg h', if_pos (by simp at hi; omega)] at g; exact absurd g.symm e
  · rw [idg_snoc]
    by_cases h' : i < q.length
    · rw [if_pos h', atKey_put_other (kI_ne (hx i h'))]; exact h.at_ i h' z
    · have e : i = q.length := by simp at hi; omega
      rw [if_neg h', if_pos e, atKey_put_same hm (isKey_int _), e]
  · rw [idg_snoc, idg_snoc]
    simp at hi
    rw [if_pos (show j < q.length by omega)]
    by_cases h' : i < q.length
    · rw [if_pos h']; exact h.apart i h' j hj
    · rw [if_neg h', if_pos (by omega)]; exact hx j (by omega)

theorem assertItem (v : Value) (w : World) : (Instr.typeAssert (.iface 73 v) 20 73 false).run Try.prog w = .ok v w := by
  simp [Instr.typeAssert, run_underlying Try.underlying73]

theorem one_pts (w : World) (k d : Int) : IsPts (w.alloc (.cells #[.int .i64 k, .int .i64 d] 73)) (some ⟨w.heap.size, 0, none⟩) [(k, d)] := fun _ => ⟨w.heap.size, 0, rfl, by simp, fun i hi => by
  obtain rfl : i = 0 := by simp at hi; omega
  exact ⟨(cell_of_block (heap_alloc_new w _)).trans rfl, (cell_of_block (heap_alloc_new w _)).trans rfl⟩⟩

/-- What Push reads: the queue's box, the item. -/
abbrev PuS (qa : Nat) (u v : Value) (b : Nat) (k d : Int) (w : World) : Prop := (w.cell? ⟨qa, 0, none⟩ = some u ∧ w.cell? ⟨qa, 1, none⟩ = some v) ∧ w.cell? ⟨b, 0, none⟩ = some (.int .i64 k) ∧ w.cell? ⟨b, 1, none⟩ = some (.int .i64 d)

set_option maxRecDepth 1000000 in
set_option maxHeartbeats 16000000 in
theorem queuePush_any (w : World) (base : Nat → Prop) (qa : Nat) (q : List (Int × Int)) (k d : Int) (hd : In64 d) (hn : q.length ≤ 4194304) (hfresh : ∀ i, i < q.length → idg q i ≠ d) (h : QSt w base qa q) :
    Calls Try.prog 157 #[.pointer (some ⟨qa, 0, none⟩), .iface 73 (.agg #[.int .i64 k, .int .i64 d])] w fun e w' => e = .returned (.tuple #[]) ∧ QSt w' base qa (q ++ [(k, d)]) ∧ Kp base w w' := by
  have hlt := h.lt
  have kb0 := below1 w (.cells #[.int .i64 k, .int .i64 d] 73)
  have P := Pair.new w 73 (.int .i64 k) (.int .i64 d)
  replace h := h.below kb0
  obtain ⟨W, hW⟩ : ∃ W, W = w.alloc (.cells #[.int .i64 k, .int .i64 d] 73) := ⟨_, rfl⟩
  rw [← hW] at h P kb0
  have HW := Lib.hid hW
  clear hW
  obtain ⟨v, B, D, X, own, hmap, hpl, hqa, hB, h64, hvP, hPin⟩ := h
  obtain ⟨A, cap, rfl, hcap, -⟩ := ownI_is own
  have HPL := Lib.hid (hpl.push (k, d) hfresh)
  have HM := Lib.hid hmap
  obtain ⟨es, ck, hmb, -⟩ := hmap
  have hBq : B ≠ qa := fun e => by subst e; have := X.symm.trans hmb; simp at this
  have hBb : B ≠ w.heap.size := fun e => by subst e; have := P.symm.trans hmb; simp at this
  obtain ⟨w1, hup, hown1, ht1⟩ := HM.out.drew.store Try.law Try.underlying124 (by unfold maxLen; omega) (keyOf_int_mk Try.underlying3 (WalkArith.wf_i64 hd)) (plainElem_int (a := (q.length : Int)) Try.underlying3 (WalkArith.wf_i64 ⟨by omega, by omega⟩))
  have g1 : W.drew.grownBy w1 (some B) := ht1.grown
  have T : PuS qa (.slice A q.length cap) (.map (some B)) w.heap.size k d W.drew := ⟨⟨X.cells.1, X.cells.2.1⟩, P.cells.1, P.cells.2.1⟩
  have X1 := Pair.grown' (w := W.drew) X g1 (fun g e => by injection e with e; omega)
  have P1 := Pair.grown' (w := W.drew) P g1 (fun g e => by injection e with e; omega)
  have T1 : PuS qa (.slice A q.length cap) (.map (some B)) w.heap.size k d w1 := ⟨⟨X1.cells.1, X1.cells.2.1⟩, P1.cells.1, P1.cells.2.1⟩
  have own1 : w1.ownsRow 0 73 2 (.slice A q.length cap) q.length (cellsP q) := by
    refine World.ownsRow.kept (w := W.drew) own g1 ?_
    rcases own.2 with ⟨e1, -⟩ | ⟨g, c', cur, e1, -, hgb, -⟩
    · exact .inl (by rw [e1]; rfl)
    · rw [e1]; exact .inr (ownB_ne (fun e => by subst e; have := hgb.symm.trans hmb; simp at this))
  have K1 : Kp base w w1 := Kp.grown (Kp.of kb0).drew g1 (fun g e => by injection e with e; rw [← e]; exact hB)
  -- the append
  have kb1 := below1 w1.drew (.cells #[.int .i64 k, .int .i64 d] 73)
  have own2 := ownsRow_below (w := w1.drew) own1 kb1
  have X2 := Pair.below (w := w1.drew) X1 kb1
  obtain ⟨v3, w3, hr, own3, g3, hv3⟩ := run_append_items (ty := 70) _ _ _ _ own2 (some ⟨w1.heap.size, 0, none⟩) 1 1 [(k, d)] rfl (one_pts w1.drew k d) (by omega) (Nat.zero_le _)
  have hvq : ∀ g, Value.ownBlock (.slice A q.length cap) = some g → g ≠ qa := fun g e => by
    rcases own1.2 with ⟨e1, -⟩ | ⟨g', c', cur, e1, -, hgb, -⟩
    · rw [e1] at e; cases e
    · rw [e1] at e; simp [Value.ownBlock] at e; subst e; exact fun e => by subst e; have := X1.symm.trans hgb; simp at this
  have X3 := X2.grown' g3 (fun g e => hvq g e)
  have M3 : w3.ownsMap Try.prog 3 (plainElem Try.prog 3) B (q.length + 1) (D.put (kI d) (.lit (kI (q.length : Int)))) := by
    refine (hown1.drew.alloc _).kept g3 (fun e => ?_)
    rcases own1.2 with ⟨e1, -⟩ | ⟨g', c', cur, e1, -, hgb, -⟩
    · rw [e1] at e; cases e
    · obtain ⟨es1, ck1, hmb1, -⟩ := hown1
      rw [e1] at e; simp [Value.ownBlock] at e; subst e; have := hgb.symm.trans hmb1; simp at this
  have K3 : Kp base w w3 := Kp.grown (Kp.trans K1.drew (Kp.of kb1)) g3 (fun g e => hvP g e)
  obtain ⟨A3, c3, rfl, -, -⟩ := ownI_is (ps := q ++ [(k, d)]) (by rw [List.length_append, cellsP_append]; exact own3)
  rw [List.length_append] at hr hv3 own3
  obtain ⟨x0, x1, f0, f1⟩ := X3.cells
  have own4 := own3.kept (w' := w3.setCell ⟨qa, 0, none⟩ (.slice A3 (q.length + 1) c3)) (row := some qa) ⟨rfl, rfl, rfl, by simp [World.setCell], fun b hb hne => Below.heap_setCell _ _ _ _ (fun e => hne (by rw [e]))⟩ (.inr (fun e => by
    rcases hv3 with h3 | h3
    · rw [h3] at e; exact hvq qa e rfl
    · rw [h3] at e; injection e with e; have := X1.lt; have e' : w1.heap.size + 1 = qa := by simpa using e
      omega))
  have X4 := X3.set0 (.slice A3 (q.length + 1) c3)
  have M4 := M3.setCell (a := ⟨qa, 0, none⟩) hBq (.slice A3 (q.length + 1) c3)
  have HV3 : Hid (∀ g, Value.ownBlock (.slice A3 (q.length + 1) c3) = some g → ¬ base g) := Lib.hid (fun g e => by
    rcases hv3 with h3 | h3
    · have h3' : Value.ownBlock (.slice A3 (q.length + 1) c3) = _ := h3
      rw [h3'] at e; exact hvP g e
    · have h3' : Value.ownBlock (.slice A3 (q.length + 1) c3) = _ := h3
      rw [h3'] at e; injection e with e; intro hg; have h9 := hPin g hg; have h8 := g1.size; have e' : w1.heap.size + 1 = g := by simpa using e
      have h7 : W.heap.size ≤ w1.heap.size := h8
      omega)
  have HSZ : Hid (W.heap.size ≤ (w3.setCell ⟨qa, 0, none⟩ (.slice A3 (q.length + 1) c3)).heap.size) := Lib.hid (by
    have h8 : W.heap.size ≤ w1.heap.size := g1.size
    have h9 := g3.size
    have h10 := kb1.size
    have h11 : (w3.setCell ⟨qa, 0, none⟩ (.slice A3 (q.length + 1) c3)).heap.size = w3.heap.size := by simp [World.setCell]
    have h12 : w1.drew.heap.size = w1.heap.size := rfl
    omega)
  have FIN : QSt (w3.setCell ⟨qa, 0, none⟩ (.slice A3 (q.length + 1) c3)) base qa (q ++ [(k, d)]) := ⟨_, B, _, X4, by rw [List.length_append, cellsP_append]; exact own4, by rw [List.length_append]; exact M4, HPL.out, hqa, hB, fun i hi => by
    rw [idg_snoc]; split
    · exact h64 i ‹_›
    · split
      · exact hd
      · exact ⟨by omega, by omega⟩, HV3.out, fun b hb => Nat.lt_of_lt_of_le (hPin b hb) HSZ.out⟩
  have KF : Kp base w (w3.setCell ⟨qa, 0, none⟩ (.slice A3 (q.length + 1) c3)) := K3.setCell (p := ⟨qa, 0, none⟩) hqa _
  obtain ⟨p0, p1, -, -⟩ := X1.cells
  obtain ⟨p2, p3, -, -⟩ := P1.cells
  have p4 := (X1.alloc (.cells #[.int .i64 k, .int .i64 d] 73)).cells.1
  clear hvP hPin HV3 HSZ own own1 own2 own3 own4 hmb hown1 ht1 M3 M4 X2 X3 X4 P HPL K1 K3 kb0 kb1 hvq hv3 h64 hpl HM hfresh
  have hta := assertItem
  go_enter Try.func157, Try.ntmps157
  go_wp2_with fail
  rw [← HW.out]
  refine wp_region_held_drew (S := (fun w' => PuS qa (.slice A q.length cap) (.map (some B)) w.heap.size k d w')) (by kernel_rfl) ?_ (fun hHeld => ?_)
  · exact T
  clear T
  refine wpAnyH_take (i := 0) (oi := ⟨some 7, _, _, _, _, _⟩) (v := .pointer (some ⟨qa, 0, none⟩)) rfl (by kernel_rfl) (by kernel_rfl) (by kernel_rfl) (fun _ _ _ h => h) (Or.inl ⟨by rfl, fun w' hw => ?hy⟩) hHeld ?_
  case hy => (try dsimp only at hw); go_simp
  simp only [Act.put, List.setIfInBounds_toArray, List.set_cons_zero, List.set_cons_succ]
  refine wpAnyH_take (i := 1) (oi := ⟨some 8, _, _, _, _, _⟩) (v := .pointer (some ⟨qa, 0, none⟩)) rfl (by kernel_rfl) (by kernel_rfl) (by kernel_rfl) (fun _ _ _ h => h) (Or.inl ⟨by rfl, fun w' hw => ?hy⟩) hHeld ?_
  case hy => (try dsimp only at hw); go_simp
  simp only [Act.put, List.setIfInBounds_toArray, List.set_cons_zero, List.set_cons_succ]
  refine wpAnyH_take (i := 2) (oi := ⟨some 9, _, _, _, _, _⟩) (v := .pointer (some ⟨qa, 1, none⟩)) rfl (by kernel_rfl) (by kernel_rfl) (by kernel_rfl) (fun _ _ _ h => h) (Or.inl ⟨by rfl, fun w' hw => ?hy⟩) hHeld ?_
  case hy => (try dsimp only at hw); go_simp
  simp only [Act.put, List.setIfInBounds_toArray, List.set_cons_zero, List.set_cons_succ]
  refine wpAnyH_take (i := 3) (oi := ⟨some 10, _, _, _, _, _⟩) (v := .map (some B)) rfl (by kernel_rfl) (by kernel_rfl) (by kernel_rfl) (fun _ _ _ h => h) (Or.inl ⟨by rfl, fun w' hw => ?hy⟩) hHeld ?_
  case hy => (try dsimp only at hw); have hx0 := hw.1.2; clear hw; go_simp
  simp only [Act.put, List.setIfInBounds_toArray, List.set_cons_zero, List.set_cons_succ]
  refine wpAnyH_take (i := 4) (oi := ⟨some 11, _, _, _, _, _⟩) (v := .pointer (some ⟨w.heap.size, 1, none⟩)) rfl (by kernel_rfl) (by kernel_rfl) (by kernel_rfl) (fun _ _ _ h => h) (Or.inl ⟨by rfl, fun w' hw => ?hy⟩) hHeld ?_
  case hy => (try dsimp only at hw); go_simp
  simp only [Act.put, List.setIfInBounds_toArray, List.set_cons_zero, List.set_cons_succ]
  refine wpAnyH_take (i := 5) (oi := ⟨some 12, _, _, _, _, _⟩) (v := .int .i64 d) rfl (by kernel_rfl) (by kernel_rfl) (by kernel_rfl) (fun _ _ _ h => h) (Or.inl ⟨by rfl, fun w' hw => ?hy⟩) hHeld ?_
  case hy => (try dsimp only at hw); have hx0 := hw.2.2; clear hw; go_simp
  simp only [Act.put, List.setIfInBounds_toArray, List.set_cons_zero, List.set_cons_succ]
  refine wpAnyH_take (i := 6) (oi := ⟨some 13, _, _, _, _, _⟩) (v := .pointer (some ⟨qa, 0, none⟩)) rfl (by kernel_rfl) (by kernel_rfl) (by kernel_rfl) (fun _ _ _ h => h) (Or.inl ⟨by rfl, fun w' hw => ?hy⟩) hHeld ?_
  case hy => (try dsimp only at hw); go_simp
  simp only [Act.put, List.setIfInBounds_toArray, List.set_cons_zero, List.set_cons_succ]
  refine wpAnyH_take (i := 7) (oi := ⟨some 14, _, _, _, _, _⟩) (v := .pointer (some ⟨qa, 0, none⟩)) rfl (by kernel_rfl) (by kernel_rfl) (by kernel_rfl) (fun _ _ _ h => h) (Or.inl ⟨by rfl, fun w' hw => ?hy⟩) hHeld ?_
  case hy => (try dsimp only at hw); go_simp
  simp only [Act.put, List.setIfInBounds_toArray, List.set_cons_zero, List.set_cons_succ]
  refine wpAnyH_take (i := 8) (oi := ⟨some 15, _, _, _, _, _⟩) (v := .pointer (some ⟨qa, 0, none⟩)) rfl (by kernel_rfl) (by kernel_rfl) (by kernel_rfl) (fun _ _ _ h => h) (Or.inl ⟨by rfl, fun w' hw => ?hy⟩) hHeld ?_
  case hy => (try dsimp only at hw); go_simp
  simp only [Act.put, List.setIfInBounds_toArray, List.set_cons_zero, List.set_cons_succ]
  refine wpAnyH_take (i := 9) (oi := ⟨some 16, _, _, _, _, _⟩) (v := .slice A q.length cap) rfl (by kernel_rfl) (by kernel_rfl) (by kernel_rfl) (fun _ _ _ h => h) (Or.inl ⟨by rfl, fun w' hw => ?hy⟩) hHeld ?_
  case hy => (try dsimp only at hw); have hx0 := hw.1.1; clear hw; go_simp
  simp only [Act.put, List.setIfInBounds_toArray, List.set_cons_zero, List.set_cons_succ]
  refine wpAnyH_take (i := 10) (oi := ⟨some 17, _, _, _, _, _⟩) (v := .int .i64 (q.length : Int)) rfl (by kernel_rfl) (by kernel_rfl) (by kernel_rfl) (fun _ _ _ h => h) (Or.inl ⟨by rfl, fun w' hw => ?hy⟩) hHeld ?_
  case hy => (try dsimp only at hw); go_simp
  simp only [Act.put, List.setIfInBounds_toArray, List.set_cons_zero, List.set_cons_succ]
  refine wpAnyH_ready (rs := [11]) (by kernel_rfl) (by simp) ?_
  refine AllReadyH.cons (o := ⟨none, _, _, _, _, _⟩) rfl (fun K hK => ?_) AllReadyH.nil
  go_simp
  refine hK.out _ _ ?_ (fun hHeld => ?_)
  · exact T1
  clear hK K
  try simp only [Act.put, List.setIfInBounds_toArray, List.set_cons_zero, List.set_cons_succ]
  refine wpAnyH_done (by kernel_rfl) ?_ _
  clear T1 hHeld
  go_wp2_with fail
  go_region_law (refine step_append_run rfl (.tmp 22) (.tmp 24) _ _ rfl _ _ rfl rfl _ _ hr ?_)
  all_goals (
    go_wp2
    go_end0
    exact ⟨rfl, FIN, KF⟩)

-- POP BEGINS
theorem PlOf.pop {q : List (Int × Int)} {x : Int × Int} {D : DataW Unit} (h : PlOf (q ++ [x]) D) : PlOf q (D.del (kI x.2)) := by
  have hl : (q ++ [x]).length = q.length + 1 := by simp
  have hlast : idg (q ++ [x]) q.length = x.2 := by rw [idg_snoc, if_neg (by omega), if_pos rfl]
  have hhas : Maps.has D (kI x.2) = true := (h.has _).2 ⟨q.length, by omega, hlast⟩
  have hin : ∀ i, i < q.length → idg (q ++ [x]) i = idg q i := fun i hi => by rw [idg_snoc, if_pos hi]
  have hne : ∀ i, i < q.length → idg q i ≠ x.2 := fun i hi e => by
    have := h.apart q.length (by omega) i hi
    rw [hin i hi, hlast] at this; exact this e
  refine ⟨h.tidy.del _, ?_, fun y => ?_, fun i hi z => ?_, fun i hi j hj => ?_⟩
  · have := size_del (k := kI x.2) h.tidy
    rw [if_pos hhas, h.size, hl] at this; omega
  · by_cases e : y = x.2
    · subst e
      rw [has_del_same]
      exact ⟨(fun g => by cases g), fun ⟨i, hi, g⟩ => absurd g (hne i hi)⟩
    · rw [has_del_other (kI_ne e), h.has]
      constructor
      · rintro ⟨i, hi, g⟩
        by_cases h' : i < q.length
        · exact ⟨i, h', by rw [← hin i h']; exact g⟩
        · obtain rfl : i = q.length := by omega
          rw [hlast] at g; exact absurd g.symm e
      · rintro ⟨i, hi, g⟩; exact ⟨i, by omega, by rw [hin i hi]; exact g⟩
  · rw [atKey_del_other (kI_ne (hne i hi)), ← hin i hi]; exact h.at_ i (by omega) z
  · have := h.apart i (by omega) j hj
    rw [hin i hi, hin j (by omega)] at this; exact this

theorem own_less {w : World} {base g cap : Nat} {q : List (Int × Int)} {x : Int × Int} (own : w.ownsRow base 73 2 (.slice (some ⟨g, 0, none⟩) (q.length + 1) cap) (q.length + 1) (cellsP (q ++ [x]))) : w.ownsRow base 73 2 (.slice (some ⟨g, 0, none⟩) q.length cap) q.length (cellsP q) := by
  rcases own.2 with ⟨h1, -⟩ | ⟨g', cap', cur, h1, h2, h3, h4, h5, h6, h7⟩
  · cases h1
  · injection h1 with h1 _ h1c
    injection h1 with h1
    injection h1 with h1
    subst h1 h1c
    refine ⟨cellsP_len q, .inr ⟨g, cap, cur, rfl, h2, h3, by omega, h5, h6, ?_⟩⟩
    have e : cellsP (q ++ [x]) = cellsP q ++ cellsP [x] := cellsP_append q [x]
    rw [e] at h7
    have := congrArg (List.take (q.length * 2)) h7
    rw [List.take_take, show min (q.length * 2) ((q.length + 1) * 2) = q.length * 2 by omega] at this
    rw [this, List.take_append_of_le_length (by rw [cellsP_len]; omega), List.take_of_length_le (by rw [cellsP_len]; omega)]

set_option maxRecDepth 1000000 in
set_option maxHeartbeats 16000000 in
theorem queuePop_any (w : World) (base : Nat → Prop) (qa : Nat) (q : List (Int × Int)) (k d : Int) (hn : q.length ≤ 4194304) (h : QSt w base qa (q ++ [(k, d)])) :
    Calls Try.prog 156 #[.pointer (some ⟨qa, 0, none⟩)] w fun e w' => e = .returned (.iface 73 (.agg #[.int .i64 k, .int .i64 d])) ∧ QSt w' base qa q ∧ Kp base w w' := by
  have hlt := h.lt
  have hl : (q ++ [(k, d)]).length = q.length + 1 := by simp
  obtain ⟨v, B, D, X, own, hmap, hpl, hqa, hB, h64, hvP, hPin⟩ := h
  obtain ⟨g, cap, cur, rfl, hcap, hg, hgb⟩ := QSt.cells_at own (i := q.length) (by omega)
  obtain ⟨a0, a1, -, -⟩ := row_cell own (i := q.length) (by omega)
  have e1 : ptg (q ++ [(k, d)]) q.length = (k, d) := by unfold ptg; simp
  rw [e1] at a0 a1
  rw [hl] at X own hmap hcap
  have hgq : g ≠ qa := fun e => by subst e; have := X.symm.trans hgb; simp at this
  have hgl : g < w.heap.size := (Array.getElem?_eq_some_iff.1 hgb).1
  have hd : In64 d := by have := h64 q.length (by omega); rwa [idg_snoc, if_neg (by omega), if_pos rfl] at this
  have HPL := Lib.hid hpl.pop
  have h64q : ∀ i, i < q.length → In64 (idg q i) := fun i hi => by have := h64 i (by omega); rwa [idg_snoc, if_pos hi] at this
  have hsz : (w.setCell ⟨qa, 0, none⟩ (.slice (some ⟨g, 0, none⟩) q.length cap)).heap.size = w.heap.size := by simp [World.setCell]
  have X1 := (X.set0 (.slice (some ⟨g, 0, none⟩) q.length cap)).alloc (.cells #[.int .i64 k, .int .i64 d] 73)
  have P1 := Pair.new (w.setCell ⟨qa, 0, none⟩ (.slice (some ⟨g, 0, none⟩) q.length cap)) 73 (.int .i64 k) (.int .i64 d)
  rw [hsz] at P1
  have own1 : ((w.setCell ⟨qa, 0, none⟩ (.slice (some ⟨g, 0, none⟩) q.length cap)).alloc (.cells #[.int .i64 k, .int .i64 d] 73)).ownsRow 0 73 2 (.slice (some ⟨g, 0, none⟩) q.length cap) q.length (cellsP q) :=
    ((own_less own).kept (w' := w.setCell ⟨qa, 0, none⟩ (.slice (some ⟨g, 0, none⟩) q.length cap)) (row := some qa) ⟨rfl, rfl, rfl, by simp [World.setCell], fun b hb hne => Below.heap_setCell _ _ _ _ (fun e => hne (by rw [e]))⟩ (.inr (ownB_ne (Ne.symm hgq)))).alloc _
  have HM := Lib.hid hmap
  obtain ⟨es, ck, hmb, -⟩ := hmap
  have hBq : B ≠ qa := fun e => by subst e; have := X.symm.trans hmb; simp at this
  have hBg : B ≠ g := fun e => by subst e; have := hgb.symm.trans hmb; simp at this
  have hBl : B < w.heap.size := (Array.getElem?_eq_some_iff.1 hmb).1
  have M1 := (HM.out.setCell (a := ⟨qa, 0, none⟩) hBq (.slice (some ⟨g, 0, none⟩) q.length cap)).alloc (.cells #[.int .i64 k, .int .i64 d] 73)
  have K1 := ((Kp.refl base w).setCell (p := ⟨qa, 0, none⟩) hqa (.slice (some ⟨g, 0, none⟩) q.length cap)).alloc (.cells #[.int .i64 k, .int .i64 d] 73)
  obtain ⟨x0, x1, f0, f1⟩ := X.cells
  obtain ⟨W, hW⟩ : ∃ W, W = (w.setCell ⟨qa, 0, none⟩ (.slice (some ⟨g, 0, none⟩) q.length cap)).alloc (.cells #[.int .i64 k, .int .i64 d] 73) := ⟨_, rfl⟩
  rw [← hW] at X1 P1 own1 M1 K1
  have HW := Lib.hid hW
  clear hW
  obtain ⟨w1, hdel, M2, ht⟩ := M1.drew.drop Try.law Try.underlying124 (keyOf_int_mk Try.underlying3 (WalkArith.wf_i64 hd)) 0
  have g1 : W.drew.grownBy w1 (some B) := ht.grown
  have X2 := Pair.grown' (w := W.drew) X1 g1 (fun g e => by injection e with e; omega)
  have P2 := Pair.grown' (w := W.drew) P1 g1 (fun g e => by injection e with e; omega)
  have T : PuS qa (.slice (some ⟨g, 0, none⟩) q.length cap) (.map (some B)) w.heap.size k d W.drew := ⟨⟨X1.cells.1, X1.cells.2.1⟩, P1.cells.1, P1.cells.2.1⟩
  have T1 : PuS qa (.slice (some ⟨g, 0, none⟩) q.length cap) (.map (some B)) w.heap.size k d w1 := ⟨⟨X2.cells.1, X2.cells.2.1⟩, P2.cells.1, P2.cells.2.1⟩
  have m2 := ownsMap_size M2
  rw [HPL.out.size] at m2
  have KF : Kp base w w1 := Kp.grown K1.drew g1 (fun g e => by injection e with e; rw [← e]; exact hB)
  have FIN : QSt w1 base qa q := ⟨_, B, _, X2, World.ownsRow.kept (w := W.drew) own1 g1 (.inr (ownB_ne hBg)), m2, HPL.out, hqa, hB, h64q, fun g' e => hvP g' (by rw [← e]; rfl), fun b hb => Nat.lt_of_lt_of_le (hPin b hb) KF.size⟩
  obtain ⟨p2, p3, -, -⟩ := P2.cells
  have hw0 : IntKind.i64.wrap (((q.length + 1 : Nat) : Int) - 1) = q.length := by rw [IntWalk.i64_in _ (by omega)]; omega
  have hw1 : ((q.length + 1 : Nat) : Int) - 1 = q.length := by omega
  have hw2 : (q.length : Int) + 1 - 1 = q.length := by omega
  have hw3 : (q.length : Int) < (q.length : Int) + 1 := by omega
  have hw4 : (q.length : Int) ≤ (cap : Int) := by omega
  clear own own1 hmb hgb M1 M2 m2 X X1 X2 P1 P2 K1 hsz HPL HM h64 h64q hpl ht g1
  go_enter Try.func156, Try.ntmps156
  go_wp2_with fail
  rw [← HW.out]
  refine wp_region_held_drew (S := (fun w' => PuS qa (.slice (some ⟨g, 0, none⟩) q.length cap) (.map (some B)) w.heap.size k d w')) (by kernel_rfl) ?_ (fun hHeld => ?_)
  · exact T
  clear T
  refine wpAnyH_take (i := 0) (oi := ⟨some 27, _, _, _, _, _⟩) (v := .pointer (some ⟨qa, 0, none⟩)) rfl (by kernel_rfl) (by kernel_rfl) (by kernel_rfl) (fun _ _ _ h => h) (Or.inl ⟨by rfl, fun w' hw => ?hy⟩) hHeld ?_
  case hy => (try dsimp only at hw); go_simp
  simp only [Act.put, List.setIfInBounds_toArray, List.set_cons_zero, List.set_cons_succ]
  refine wpAnyH_take (i := 1) (oi := ⟨some 28, _, _, _, _, _⟩) (v := .pointer (some ⟨qa, 0, none⟩)) rfl (by kernel_rfl) (by kernel_rfl) (by kernel_rfl) (fun _ _ _ h => h) (Or.inl ⟨by rfl, fun w' hw => ?hy⟩) hHeld ?_
  case hy => (try dsimp only at hw); go_simp
  simp only [Act.put, List.setIfInBounds_toArray, List.set_cons_zero, List.set_cons_succ]
  refine wpAnyH_take (i := 2) (oi := ⟨some 29, _, _, _, _, _⟩) (v := .pointer (some ⟨qa, 1, none⟩)) rfl (by kernel_rfl) (by kernel_rfl) (by kernel_rfl) (fun _ _ _ h => h) (Or.inl ⟨by rfl, fun w' hw => ?hy⟩) hHeld ?_
  case hy => (try dsimp only at hw); go_simp
  simp only [Act.put, List.setIfInBounds_toArray, List.set_cons_zero, List.set_cons_succ]
  refine wpAnyH_take (i := 3) (oi := ⟨some 30, _, _, _, _, _⟩) (v := .map (some B)) rfl (by kernel_rfl) (by kernel_rfl) (by kernel_rfl) (fun _ _ _ h => h) (Or.inl ⟨by rfl, fun w' hw => ?hy⟩) hHeld ?_
  case hy => (try dsimp only at hw); have hx0 := hw.1.2; clear hw; go_simp
  simp only [Act.put, List.setIfInBounds_toArray, List.set_cons_zero, List.set_cons_succ]
  refine wpAnyH_take (i := 4) (oi := ⟨some 31, _, _, _, _, _⟩) (v := .pointer (some ⟨w.heap.size, 1, none⟩)) rfl (by kernel_rfl) (by kernel_rfl) (by kernel_rfl) (fun _ _ _ h => h) (Or.inl ⟨by rfl, fun w' hw => ?hy⟩) hHeld ?_
  case hy => (try dsimp only at hw); go_simp
  simp only [Act.put, List.setIfInBounds_toArray, List.set_cons_zero, List.set_cons_succ]
  refine wpAnyH_take (i := 5) (oi := ⟨some 32, _, _, _, _, _⟩) (v := .int .i64 d) rfl (by kernel_rfl) (by kernel_rfl) (by kernel_rfl) (fun _ _ _ h => h) (Or.inl ⟨by rfl, fun w' hw => ?hy⟩) hHeld ?_
  case hy => (try dsimp only at hw); have hx0 := hw.2.2; clear hw; go_simp
  simp only [Act.put, List.setIfInBounds_toArray, List.set_cons_zero, List.set_cons_succ]
  refine wpAnyH_ready (rs := [6]) (by kernel_rfl) (by simp) ?_
  refine AllReadyH.cons (o := ⟨none, _, _, _, _, _⟩) rfl (fun K hK => ?_) AllReadyH.nil
  go_simp
  refine hK.out _ _ ?_ (fun hHeld => ?_)
  · exact T1
  clear hK K
  try simp only [Act.put, List.setIfInBounds_toArray, List.set_cons_zero, List.set_cons_succ]
  refine wpAnyH_done (by kernel_rfl) ?_ _
  clear T1 hHeld
  go_wp2
  go_ret
  exact ⟨rfl, FIN, KF⟩

end Go.Proofs.Ytcaamhoakhgnhaa

namespace Go.Proofs.Ytcaamhoakhgnhaa
open Go.RowKit Go.Deep Go.Maps

theorem nlt_trans {a b c : Int × Int} (h1 : ¬ ltI a b) (h2 : ¬ ltI b c) : ¬ ltI a c := by unfold ltI at *; omega
theorem ltI_asymm {a b : Int × Int} (h : ltI a b) : ¬ ltI b a := fun g => ltI_irr _ (ltI_trans h g)

/-- The first n items are a heap. -/
def HeapN (q : List (Int × Int)) (n : Nat) : Prop := ∀ c, 0 < c → c < n → ¬ ltI (ptg q c) (ptg q ((c - 1) / 2))
/-- A heap but for the item at i, which may be less than its parent. -/
def HeapUp (q : List (Int × Int)) (i : Nat) : Prop := (∀ c, 0 < c → c < q.length → c ≠ i → ¬ ltI (ptg q c) (ptg q ((c - 1) / 2))) ∧ ∀ c, 0 < c → c < q.length → (c - 1) / 2 = i → 0 < i → ¬ ltI (ptg q c) (ptg q ((i - 1) / 2))
/-- A heap of n items but for the item at i, which may be greater than its children. -/
def HeapDn (q : List (Int × Int)) (n i : Nat) : Prop := (∀ c, 0 < c → c < n → (c - 1) / 2 ≠ i → ¬ ltI (ptg q c) (ptg q ((c - 1) / 2))) ∧ ∀ c, 0 < c → c < n → (c - 1) / 2 = i → 0 < i → ¬ ltI (ptg q c) (ptg q ((i - 1) / 2))

theorem HeapUp.done {q : List (Int × Int)} {i : Nat} (h : HeapUp q i) (hi : i = 0 ∨ ¬ ltI (ptg q i) (ptg q ((i - 1) / 2))) : HeapN q q.length := fun c h0 hc => by
  by_cases e : c = i
  · subst e
    rcases hi with g | g
    · omega
    · exact g
  · exact h.1 c h0 hc e
theorem HeapUp.step {q : List (Int × Int)} {i p : Nat} (h : HeapUp q i) (hi : i < q.length) (h0 : 0 < i) (hp : p = (i - 1) / 2) (hl : ltI (ptg q i) (ptg q p)) : HeapUp (swq q p i) p := by
  have hpl : p < q.length := by omega
  have hpi : p ≠ i := by omega
  have at_ : ∀ k, ptg (swq q p i) k = if k = i then ptg q p else if k = p then ptg q i else ptg q k := fun k => swq_at hpl hi k
  refine ⟨fun c c0 cl cp => ?_, fun c c0 cl ce p0 => ?_⟩
  · rw [swq_len] at cl
    rw [at_, at_]
    by_cases e1 : c = i
    · rw [if_pos e1, if_neg (by omega), if_pos (by omega)]; exact ltI_asymm hl
    · rw [if_neg e1, if_neg cp]
      by_cases e2 : (c - 1) / 2 = i
      · rw [if_pos e2]; rw [hp]; exact h.2 c c0 cl e2 h0
      · rw [if_neg e2]
        by_cases e3 : (c - 1) / 2 = p
        · rw [if_pos e3]
          have := h.1 c c0 cl e1
          rw [e3] at this
          exact fun g => this (ltI_trans g hl)
        · rw [if_neg e3]; exact h.1 c c0 cl e1
  · rw [swq_len] at cl
    rw [at_, at_, if_neg (show ¬ (p - 1) / 2 = i by omega), if_neg (show ¬ (p - 1) / 2 = p by omega)]
    have hpp := h.1 p p0 hpl hpi
    by_cases e1 : c = i
    · rw [if_pos e1]; exact hpp
    · rw [if_neg e1, if_neg (by omega)]
      have := h.1 c c0 cl e1
      rw [ce] at this
      exact nlt_trans this hpp
theorem HeapDn.done {q : List (Int × Int)} {n i : Nat} (h : HeapDn q n i) (hi : ∀ c, 0 < c → c < n → (c - 1) / 2 = i → ¬ ltI (ptg q c) (ptg q i)) : HeapN q n := fun c h0 hc => by
  by_cases e : (c - 1) / 2 = i
  · rw [e]; exact hi c h0 hc e
  · exact h.1 c h0 hc e
theorem HeapDn.step {q : List (Int × Int)} {n i j : Nat} (h : HeapDn q n i) (hn : n ≤ q.length) (hj : j < n) (hij : (j - 1) / 2 = i) (j0 : 0 < j) (hmin : ∀ c, 0 < c → c < n → (c - 1) / 2 = i → ¬ ltI (ptg q c) (ptg q j)) (hl : ltI (ptg q j) (ptg q i)) : HeapDn (swq q i j) n j := by
  have hil : i < q.length := by omega
  have hjl : j < q.length := by omega
  have hne : i ≠ j := by omega
  have at_ : ∀ k, ptg (swq q i j) k = if k = j then ptg q i else if k = i then ptg q j else ptg q k := fun k => swq_at hil hjl k
  refine ⟨fun c c0 cl cp => ?_, fun c c0 cl ce p0 => ?_⟩
  · rw [at_, at_, if_neg (show ¬ (c - 1) / 2 = j from cp)]
    by_cases e1 : c = j
    · rw [if_pos e1, if_pos (by rw [e1]; exact hij)]; exact ltI_asymm hl
    · rw [if_neg e1]
      by_cases e2 : c = i
      · rw [if_pos e2, if_neg (by omega)]
        have := h.2 j j0 hj hij (by omega)
        rw [e2]; exact this
      · rw [if_neg e2]
        by_cases e3 : (c - 1) / 2 = i
        · rw [if_pos e3]; exact hmin c c0 cl e3
        · rw [if_neg e3]; exact h.1 c c0 cl e3
  · rw [at_, at_, hij, if_neg (show ¬ c = j by omega), if_neg (show ¬ c = i by omega), if_neg hne, if_pos rfl]
    have := h.1 c c0 cl (by omega)
    rw [ce] at this; exact this
/-- The first item of a heap is the least. -/
theorem HeapN.root {q : List (Int × Int)} {n : Nat} (h : HeapN q n) : ∀ k, k < n → ¬ ltI (ptg q k) (ptg q 0)
  | 0, _ => ltI_irr _
  | k + 1, hk => by
    have h1 := h (k + 1) (by omega) hk
    have h2 := h.root ((k + 1 - 1) / 2) (by omega)
    exact nlt_trans h1 h2
termination_by k => k
decreasing_by omega

theorem mLess (v : Value) (w : World) : (method 286 104 v "Less").run Try.prog w = .ok (155, v) w := by kernel_rfl
theorem mSwap (v : Value) (w : World) : (method 286 104 v "Swap").run Try.prog w = .ok (158, v) w := by kernel_rfl
theorem mLen (v : Value) (w : World) : (method 286 104 v "Len").run Try.prog w = .ok (80, v) w := by kernel_rfl
theorem mPush (v : Value) (w : World) : (method 286 104 v "Push").run Try.prog w = .ok (157, v) w := by kernel_rfl
theorem mPop (v : Value) (w : World) : (method 286 104 v "Pop").run Try.prog w = .ok (156, v) w := by kernel_rfl

/-- What a call that only exchanges items leaves. -/
def HeapMade (w : World) (base : Nat → Prop) (qa : Nat) (q : List (Int × Int)) (e : Ending) (w' : World) : Prop := e = .returned (.tuple #[]) ∧ ∃ q', q'.Perm q ∧ HeapN q' q'.length ∧ QSt w' base qa q' ∧ Kp base w w'

set_option maxRecDepth 1000000 in
set_option maxHeartbeats 8000000 in
theorem heapUp_any (w : World) (base : Nat → Prop) (qa : Nat) (q : List (Int × Int)) (i : Nat) (hi : i < q.length) (hn : q.length ≤ 2097152) (hu : HeapUp q i) (h : QSt w base qa q) :
    Calls Try.prog 114 #[.iface 104 (.pointer (some ⟨qa, 0, none⟩)), .int .i64 (i : Int)] w (HeapMade w base qa q) := by
  go_enter Try.func114, Try.ntmps114
  go_wp2_with fail
  go_loopw [1] (fun x wr => ∃ (q' : List (Int × Int)) (j : Nat), x = .int .i64 (j : Int) ∧ j < q'.length ∧ q'.length = q.length ∧ q'.Perm q ∧ HeapUp q' j ∧ QSt wr base qa q' ∧ Kp base w wr) (fun x _ => (intOf x).toNat)
  case atStart => exact ⟨q, i, rfl, hi, rfl, List.Perm.refl _, hu, h, Kp.refl _ _⟩
  case round =>
    clear h hu hi
    obtain ⟨q', j, rfl, hj, hl, hperm, hu, h, K⟩ := hrel
    rcases Nat.eq_zero_or_pos j with h0 | hp
    · subst h0
      have HF := Lib.hid (hu.done (.inl rfl))
      clear hu
      go_wp2
      go_end0
      exact ⟨rfl, q', hperm, HF.out, h, K⟩
    · obtain ⟨p, hpj⟩ : ∃ p, p = (j - 1) / 2 := ⟨_, rfl⟩
      have hpl : p < q'.length := by omega
      have hpne : p ≠ j := by omega
      have hd1 : ((j : Int) - 1).tdiv 2 = p := by rw [Int.tdiv_eq_ediv_of_nonneg (by omega)]; omega
      have hd2 : ((j : Int) - 1) / 2 = p := by omega
      have hb1 : ((p : Int) == (j : Int)) = false := beq_false_of_ne (by omega)
      have hn' : q'.length ≤ 4194304 := by omega
      have HPJ := Lib.hid hpj
      clear hpj
      have HL := Lib.hid (queueLess_any wr base qa q' j p hj hpl hn' h)
      have hlq : q'.length = q.length := hl
      have HLQ := Lib.hid hlq
      clear hl hlq
      cases hlt : ltB (ptg q' j) (ptg q' p) with
      | false =>
        rw [hlt] at HL
        have HF := Lib.hid (hu.done (.inr (fun g => by rw [← HPJ.out] at g; rw [ltB_iff.2 g] at hlt; cases hlt)))
        clear hu hlt
        have m1 := mLess
        go_wp2_with fail
        refine HL.out.mono ?_; rintro e w1 ⟨rfl, b1⟩
        have h1 := h.below b1
        have K1 : Kp base w w1 := K.trans (.of b1)
        clear m1 h K b1
        go_wp2
        go_end0
        exact ⟨rfl, q', hperm, HF.out, h1, K1⟩
      | true =>
        rw [hlt] at HL
        have HS := Lib.hid (hu.step hj hp HPJ.out (ltB_iff.1 hlt))
        clear hu hlt
        have m1 := mLess
        go_wp2_with fail
        refine HL.out.mono ?_; rintro e w1 ⟨rfl, b1⟩
        have h1 := h.below b1
        have K1 : Kp base w w1 := K.trans (.of b1)
        clear m1 h K b1 HL
        have m2 := mSwap
        go_wp2_with fail
        refine (swap_any w1 base qa q' p j hpl hj hpne hn' h1).mono ?_; rintro e w2 ⟨rfl, h2, b2⟩
        have K2 := K1.trans b2
        clear m2 h1 K1 b2
        have HP := Lib.hid ((swq_perm q' hpl hj).trans hperm)
        have HN := Lib.hid (swq_len q' p j)
        clear hperm
        go_wp2
        go_roundw
        case rel => exact ⟨swq q' p j, p, rfl, by rw [HN.out]; exact hpl, by rw [HN.out]; exact HLQ.out, HP.out, HS.out, h2, K2⟩
        case measure => simp [intOf]; omega

end Go.Proofs.Ytcaamhoakhgnhaa

namespace Go.Proofs.Ytcaamhoakhgnhaa
open Go.RowKit Go.Deep Go.Maps

/-- What down leaves: the first n items are a heap; the others are where they were. -/
def DnMade (w : World) (base : Nat → Prop) (qa : Nat) (q : List (Int × Int)) (n : Nat) (e : Ending) (w' : World) : Prop :=
  ∃ (b : Bool) (q' : List (Int × Int)), e = .returned (.bool b) ∧ q'.Perm q ∧ q'.length = q.length ∧ HeapN q' n ∧ (∀ k, n ≤ k → ptg q' k = ptg q k) ∧ QSt w' base qa q' ∧ Kp base w w'
set_option maxRecDepth 1000000 in
set_option maxHeartbeats 16000000 in
theorem heapDown_zero (w : World) (base : Nat → Prop) (qa : Nat) (q : List (Int × Int)) (n : Nat) (hnl : n ≤ q.length) (hn : q.length ≤ 2097152) (hd : HeapDn q n 0) (h : QSt w base qa q) :
    Calls Try.prog 113 #[.iface 104 (.pointer (some ⟨qa, 0, none⟩)), .int .i64 0, .int .i64 (n : Int)] w (DnMade w base qa q n) := by
  go_enter Try.func113, Try.ntmps113
  go_wp2_with fail
  go_loopw [7] (fun x wr => ∃ (q' : List (Int × Int)) (i : Nat), x = .int .i64 (i : Int) ∧ i ≤ q.length ∧ q'.length = q.length ∧ q'.Perm q ∧ HeapDn q' n i ∧ (∀ k, n ≤ k → ptg q' k = ptg q k) ∧ QSt wr base qa q' ∧ Kp base w wr) (fun x _ => n - (intOf x).toNat)
  case atStart => exact ⟨q, 0, rfl, Nat.zero_le _, rfl, List.Perm.refl _, hd, fun _ _ => rfl, h, Kp.refl _ _⟩
  case round =>
    clear h hd
    obtain ⟨q', i, rfl, hil, hl, hperm, hdn, hrest, h, K⟩ := hrel
    have hn' : q'.length ≤ 4194304 := by omega
    have hnl' : n ≤ q'.length := by omega
    have HLQ := Lib.hid hl
    clear hl
    obtain ⟨c1, hc1⟩ : ∃ c1 : Nat, c1 = 2 * i + 1 := ⟨_, rfl⟩
    obtain ⟨c2, hc2'⟩ : ∃ c2 : Nat, c2 = c1 + 1 := ⟨_, rfl⟩
    by_cases hlt : c1 < n
    · have hj1 : 2 * (i : Int) + 1 = c1 := by omega
      have hj2 : (c1 : Int) + 1 = c2 := by omega
      have hg1 : ¬ (c1 : Int) ≥ n := by omega
      have hg2 : decide ((c1 : Int) ≥ n) = false := decide_eq_false hg1
      have hg2' : decide ((n : Int) ≤ c1) = false := decide_eq_false (by omega)
      have hg3 : ¬ (c1 : Int) < 0 := by omega
      have hi0 : i < n := by omega
      have hcc : c1 = 2 * i + 1 ∧ c2 = 2 * i + 2 := by omega
      obtain ⟨he1, he2⟩ := hcc
      have hA : 2 * i + 1 ≤ c1 ∧ c1 ≤ 2 * i + 1 ∧ 2 * i + 2 ≤ c2 ∧ c2 ≤ 2 * i + 2 := by omega
      clear he1 he2 hc1 hc2'
      by_cases hc2 : c2 < n
      · have hi2 : (c2 : Int) < n := by omega
        have hd2 : decide ((c2 : Int) < n) = true := decide_eq_true hi2
        have HL1 := Lib.hid (fun (W : World) (g : QSt W base qa q') => queueLess_any W base qa q' c2 c1 (by omega) (by omega) hn' g)
        cases ht : ltB (ptg q' c2) (ptg q' c1) with
        | false =>
          cases hs : ltB (ptg q' c1) (ptg q' i) with
          | false =>
            have hmin : ∀ c, 0 < c → c < n → (c - 1) / 2 = i → ¬ ltI (ptg q' c) (ptg q' c1) := fun c g0 g1 g2 => by
              rcases (show c = c1 ∨ c = c2 by omega) with e | e
              · subst e; exact ltI_irr _
              · subst e; exact fun g => by rw [ltB_iff.2 g] at ht; cases ht
            have HF := Lib.hid (hdn.done (fun c g0 g1 g2 => nlt_trans (hmin c g0 g1 g2) (fun g => by rw [ltB_iff.2 g] at hs; cases hs)))
            have HL2 := Lib.hid (fun (W : World) (g : QSt W base qa q') => queueLess_any W base qa q' c1 i (by omega) (by omega) hn' g)
            rw [hs] at HL2
            rw [ht] at HL1
            clear ht
            clear hmin hs hdn
            have m1 := mLess
            go_wp2_with fail
            refine (HL1.out wr h).mono ?_; rintro e w1 ⟨rfl, b1⟩
            have h1 := h.below b1
            have K1 : Kp base w w1 := K.trans (.of b1)
            clear h K b1 HL1
            go_wp2_with fail
            refine (HL2.out w1 h1).mono ?_; rintro e w2 ⟨rfl, b2⟩
            have h2 := h1.below b2
            have K2 : Kp base w w2 := K1.trans (.of b2)
            clear h1 K1 b2 HL2 m1
            go_wp2
            go_ret
            exact ⟨_, q', rfl, hperm, HLQ.out, HF.out, hrest, h2, K2⟩
          | true =>
            have hmin : ∀ c, 0 < c → c < n → (c - 1) / 2 = i → ¬ ltI (ptg q' c) (ptg q' c1) := fun c g0 g1 g2 => by
              rcases (show c = c1 ∨ c = c2 by omega) with e | e
              · subst e; exact ltI_irr _
              · subst e; exact fun g => by rw [ltB_iff.2 g] at ht; cases ht
            have HS := Lib.hid (hdn.step (j := c1) (by omega) (by omega) (by omega) (by omega) hmin (ltB_iff.1 hs))
            have HL2 := Lib.hid (fun (W : World) (g : QSt W base qa q') => queueLess_any W base qa q' c1 i (by omega) (by omega) hn' g)
            rw [hs] at HL2
            rw [ht] at HL1
            clear ht
            clear hmin hs hdn
            have m1 := mLess
            go_wp2_with fail
            refine (HL1.out wr h).mono ?_; rintro e w1 ⟨rfl, b1⟩
            have h1 := h.below b1
            have K1 : Kp base w w1 := K.trans (.of b1)
            clear h K b1 HL1
            go_wp2_with fail
            refine (HL2.out w1 h1).mono ?_; rintro e w2 ⟨rfl, b2⟩
            have h2 := h1.below b2
            have K2 : Kp base w w2 := K1.trans (.of b2)
            clear h1 K1 b2 HL2 m1
            have m2 := mSwap
            go_wp2_with fail
            refine (swap_any w2 base qa q' i c1 (by omega) (by omega) (by omega) hn' h2).mono ?_; rintro e w3 ⟨rfl, h3, b3⟩
            have K3 := K2.trans b3
            clear m2 h2 K2 b3
            have HP := Lib.hid ((swq_perm q' (i := i) (j := c1) (by omega) (by omega)).trans hperm)
            have HN := Lib.hid (swq_len q' i c1)
            have HR := Lib.hid (show ∀ k, n ≤ k → ptg (swq q' i c1) k = ptg q k from fun k hk => by rw [swq_at (by omega) (by omega), if_neg (by omega), if_neg (by omega)]; exact hrest k hk)
            clear hperm hrest
            go_wp2
            go_roundw
            case rel => exact ⟨swq q' i c1, c1, rfl, by omega, by rw [HN.out]; exact HLQ.out, HP.out, HS.out, HR.out, h3, K3⟩
            case measure => simp [intOf]; omega
        | true =>
          cases hs : ltB (ptg q' c2) (ptg q' i) with
          | false =>
            have hmin : ∀ c, 0 < c → c < n → (c - 1) / 2 = i → ¬ ltI (ptg q' c) (ptg q' c2) := fun c g0 g1 g2 => by
              rcases (show c = c1 ∨ c = c2 by omega) with e | e
              · subst e; exact ltI_asymm (ltB_iff.1 ht)
              · subst e; exact ltI_irr _
            have HF := Lib.hid (hdn.done (fun c g0 g1 g2 => nlt_trans (hmin c g0 g1 g2) (fun g => by rw [ltB_iff.2 g] at hs; cases hs)))
            have HL2 := Lib.hid (fun (W : World) (g : QSt W base qa q') => queueLess_any W base qa q' c2 i (by omega) (by omega) hn' g)
            rw [hs] at HL2
            rw [ht] at HL1
            clear ht
            clear hmin hs hdn
            have m1 := mLess
            go_wp2_with fail
            refine (HL1.out wr h).mono ?_; rintro e w1 ⟨rfl, b1⟩
            have h1 := h.below b1
            have K1 : Kp base w w1 := K.trans (.of b1)
            clear h K b1 HL1
            go_wp2_with fail
            refine (HL2.out w1 h1).mono ?_; rintro e w2 ⟨rfl, b2⟩
            have h2 := h1.below b2
            have K2 : Kp base w w2 := K1.trans (.of b2)
            clear h1 K1 b2 HL2 m1
            go_wp2
            go_ret
            exact ⟨_, q', rfl, hperm, HLQ.out, HF.out, hrest, h2, K2⟩
          | true =>
            have hmin : ∀ c, 0 < c → c < n → (c - 1) / 2 = i → ¬ ltI (ptg q' c) (ptg q' c2) := fun c g0 g1 g2 => by
              rcases (show c = c1 ∨ c = c2 by omega) with e | e
              · subst e; exact ltI_asymm (ltB_iff.1 ht)
              · subst e; exact ltI_irr _
            have HS := Lib.hid (hdn.step (j := c2) (by omega) (by omega) (by omega) (by omega) hmin (ltB_iff.1 hs))
            have HL2 := Lib.hid (fun (W : World) (g : QSt W base qa q') => queueLess_any W base qa q' c2 i (by omega) (by omega) hn' g)
            rw [hs] at HL2
            rw [ht] at HL1
            clear ht
            clear hmin hs hdn
            have m1 := mLess
            go_wp2_with fail
            refine (HL1.out wr h).mono ?_; rintro e w1 ⟨rfl, b1⟩
            have h1 := h.below b1
            have K1 : Kp base w w1 := K.trans (.of b1)
            clear h K b1 HL1
            go_wp2_with fail
            refine (HL2.out w1 h1).mono ?_; rintro e w2 ⟨rfl, b2⟩
            have h2 := h1.below b2
            have K2 : Kp base w w2 := K1.trans (.of b2)
            clear h1 K1 b2 HL2 m1
            have m2 := mSwap
            go_wp2_with fail
            refine (swap_any w2 base qa q' i c2 (by omega) (by omega) (by omega) hn' h2).mono ?_; rintro e w3 ⟨rfl, h3, b3⟩
            have K3 := K2.trans b3
            clear m2 h2 K2 b3
            have HP := Lib.hid ((swq_perm q' (i := i) (j := c2) (by omega) (by omega)).trans hperm)
            have HN := Lib.hid (swq_len q' i c2)
            have HR := Lib.hid (show ∀ k, n ≤ k → ptg (swq q' i c2) k = ptg q k from fun k hk => by rw [swq_at (by omega) (by omega), if_neg (by omega), if_neg (by omega)]; exact hrest k hk)
            clear hperm hrest
            go_wp2
            go_roundw
            case rel => exact ⟨swq q' i c2, c2, rfl, by omega, by rw [HN.out]; exact HLQ.out, HP.out, HS.out, HR.out, h3, K3⟩
            case measure => simp [intOf]; omega
      · have hi2 : ¬ (c2 : Int) < n := by omega
        have hd2 : decide ((c2 : Int) < n) = false := decide_eq_false hi2
        cases hs : ltB (ptg q' c1) (ptg q' i) with
        | false =>
          have hmin : ∀ c, 0 < c → c < n → (c - 1) / 2 = i → ¬ ltI (ptg q' c) (ptg q' c1) := fun c g0 g1 g2 => by
            obtain rfl : c = c1 := by omega
            exact ltI_irr _
          have HF := Lib.hid (hdn.done (fun c g0 g1 g2 => nlt_trans (hmin c g0 g1 g2) (fun g => by rw [ltB_iff.2 g] at hs; cases hs)))
          have HL2 := Lib.hid (fun (W : World) (g : QSt W base qa q') => queueLess_any W base qa q' c1 i (by omega) (by omega) hn' g)
          rw [hs] at HL2
          clear hmin hs hdn
          have m1 := mLess
          have b1 := Below.refl wr.heap.size wr
          obtain ⟨w1, hw1⟩ : ∃ w1, w1 = wr := ⟨_, rfl⟩
          subst hw1
          have h1 := h.below b1
          have K1 : Kp base w w1 := K.trans (.of b1)
          clear h K b1
          go_wp2_with fail
          refine (HL2.out w1 h1).mono ?_; rintro e w2 ⟨rfl, b2⟩
          have h2 := h1.below b2
          have K2 : Kp base w w2 := K1.trans (.of b2)
          clear h1 K1 b2 HL2 m1
          go_wp2
          go_ret
          exact ⟨_, q', rfl, hperm, HLQ.out, HF.out, hrest, h2, K2⟩
        | true =>
          have hmin : ∀ c, 0 < c → c < n → (c - 1) / 2 = i → ¬ ltI (ptg q' c) (ptg q' c1) := fun c g0 g1 g2 => by
            obtain rfl : c = c1 := by omega
            exact ltI_irr _
          have HS := Lib.hid (hdn.step (j := c1) (by omega) (by omega) (by omega) (by omega) hmin (ltB_iff.1 hs))
          have HL2 := Lib.hid (fun (W : World) (g : QSt W base qa q') => queueLess_any W base qa q' c1 i (by omega) (by omega) hn' g)
          rw [hs] at HL2
          clear hmin hs hdn
          have m1 := mLess
          have b1 := Below.refl wr.heap.size wr
          obtain ⟨w1, hw1⟩ : ∃ w1, w1 = wr := ⟨_, rfl⟩
          subst hw1
          have h1 := h.below b1
          have K1 : Kp base w w1 := K.trans (.of b1)
          clear h K b1
          go_wp2_with fail
          refine (HL2.out w1 h1).mono ?_; rintro e w2 ⟨rfl, b2⟩
          have h2 := h1.below b2
          have K2 : Kp base w w2 := K1.trans (.of b2)
          clear h1 K1 b2 HL2 m1
          have m2 := mSwap
          go_wp2_with fail
          refine (swap_any w2 base qa q' i c1 (by omega) (by omega) (by omega) hn' h2).mono ?_; rintro e w3 ⟨rfl, h3, b3⟩
          have K3 := K2.trans b3
          clear m2 h2 K2 b3
          have HP := Lib.hid ((swq_perm q' (i := i) (j := c1) (by omega) (by omega)).trans hperm)
          have HN := Lib.hid (swq_len q' i c1)
          have HR := Lib.hid (show ∀ k, n ≤ k → ptg (swq q' i c1) k = ptg q k from fun k hk => by rw [swq_at (by omega) (by omega), if_neg (by omega), if_neg (by omega)]; exact hrest k hk)
          clear hperm hrest
          go_wp2
          go_roundw
          case rel => exact ⟨swq q' i c1, c1, rfl, by omega, by rw [HN.out]; exact HLQ.out, HP.out, HS.out, HR.out, h3, K3⟩
          case measure => simp [intOf]; omega
    · have hj1 : 2 * (i : Int) + 1 = c1 := by omega
      have hg1 : (c1 : Int) ≥ n := by omega
      have hg2 : decide ((c1 : Int) ≥ n) = true := decide_eq_true hg1
      have hg2' : decide ((n : Int) ≤ c1) = true := decide_eq_true (by omega)
      have HF := Lib.hid (hdn.done (fun c g0 g1 g2 => by omega))
      clear hdn hc1 hc2'
      go_wp2
      go_ret
      exact ⟨_, q', rfl, hperm, HLQ.out, HF.out, hrest, h, K⟩

end Go.Proofs.Ytcaamhoakhgnhaa

namespace Go.Proofs.Ytcaamhoakhgnhaa
open Go.RowKit Go.Deep Go.Maps

set_option maxRecDepth 1000000 in
set_option maxHeartbeats 16000000 in
theorem heapDown_none (w : World) (base : Nat → Prop) (qa : Nat) (q : List (Int × Int)) (i : Nat) (hi : i < q.length) (hn : q.length ≤ 2097152) (hno : ∀ c, 0 < c → c < q.length → (c - 1) / 2 = i → ¬ ltI (ptg q c) (ptg q i)) (h : QSt w base qa q) :
    Calls Try.prog 113 #[.iface 104 (.pointer (some ⟨qa, 0, none⟩)), .int .i64 (i : Int), .int .i64 (q.length : Int)] w fun e w' => e = .returned (.bool false) ∧ Below w.heap.size w w' := by
  obtain ⟨n, hnq⟩ : ∃ n, n = q.length := ⟨_, rfl⟩
  have hn' : q.length ≤ 4194304 := by omega
  have HNQ := Lib.hid hnq
  have hA0 : n ≤ q.length ∧ q.length ≤ n := by omega
  rw [← hnq]
  clear hnq
  go_enter Try.func113, Try.ntmps113
  go_wp2_with fail
  go_loopw [7] (fun x wr => x = .int .i64 (i : Int) ∧ QSt wr base qa q ∧ Below w.heap.size w wr) (fun _ _ => 0)
  case atStart => exact ⟨rfl, h, Below.refl _ _⟩
  case round =>
    clear h
    obtain ⟨rfl, h, K⟩ := hrel
    obtain ⟨c1, hc1⟩ : ∃ c1 : Nat, c1 = 2 * i + 1 := ⟨_, rfl⟩
    obtain ⟨c2, hc2'⟩ : ∃ c2 : Nat, c2 = c1 + 1 := ⟨_, rfl⟩
    by_cases hlt : c1 < n
    · have hj1 : 2 * (i : Int) + 1 = c1 := by omega
      have hj2 : (c1 : Int) + 1 = c2 := by omega
      have hg1 : ¬ (c1 : Int) ≥ n := by omega
      have hg2 : decide ((c1 : Int) ≥ n) = false := decide_eq_false hg1
      have hg2' : decide ((n : Int) ≤ c1) = false := decide_eq_false (by omega)
      have hg3 : ¬ (c1 : Int) < 0 := by omega
      have hA : 2 * i + 1 ≤ c1 ∧ c1 ≤ 2 * i + 1 ∧ 2 * i + 2 ≤ c2 ∧ c2 ≤ 2 * i + 2 := by omega
      clear hc1 hc2'
      by_cases hc2 : c2 < n
      · have hi2 : (c2 : Int) < n := by omega
        have hd2 : decide ((c2 : Int) < n) = true := decide_eq_true hi2
        have HL1 := Lib.hid (fun (W : World) (g : QSt W base qa q) => queueLess_any W base qa q c2 c1 (by omega) (by omega) hn' g)
        cases ht : ltB (ptg q c2) (ptg q c1) with
        | false =>
          have hs : ltB (ptg q c1) (ptg q i) = false := by
            cases e : ltB (ptg q c1) (ptg q i) with
            | false => rfl
            | true => exact absurd (ltB_iff.1 e) (hno c1 (by omega) (by omega) (by omega))
          have HL2 := Lib.hid (fun (W : World) (g : QSt W base qa q) => queueLess_any W base qa q c1 i (by omega) (by omega) hn' g)
          rw [hs] at HL2
          rw [ht] at HL1
          clear ht
          clear hs hno
          have m1 := mLess
          go_wp2_with fail
          refine (HL1.out wr h).mono ?_; rintro e w1 ⟨rfl, b1⟩
          have h1 := h.below b1
          have K1 : Below w.heap.size w w1 := K.trans (b1.mono K.size)
          clear h K b1 HL1
          go_wp2_with fail
          refine (HL2.out w1 h1).mono ?_; rintro e w2 ⟨rfl, b2⟩
          have K2 : Below w.heap.size w w2 := K1.trans (b2.mono K1.size)
          clear h1 K1 b2 HL2 m1
          go_wp2
          go_ret
          exact ⟨by first | rfl | simp, K2⟩
        | true =>
          have hs : ltB (ptg q c2) (ptg q i) = false := by
            cases e : ltB (ptg q c2) (ptg q i) with
            | false => rfl
            | true => exact absurd (ltB_iff.1 e) (hno c2 (by omega) (by omega) (by omega))
          have HL2 := Lib.hid (fun (W : World) (g : QSt W base qa q) => queueLess_any W base qa q c2 i (by omega) (by omega) hn' g)
          rw [hs] at HL2
          rw [ht] at HL1
          clear ht
          clear hs hno
          have m1 := mLess
          go_wp2_with fail
          refine (HL1.out wr h).mono ?_; rintro e w1 ⟨rfl, b1⟩
          have h1 := h.below b1
          have K1 : Below w.heap.size w w1 := K.trans (b1.mono K.size)
          clear h K b1 HL1
          go_wp2_with fail
          refine (HL2.out w1 h1).mono ?_; rintro e w2 ⟨rfl, b2⟩
          have K2 : Below w.heap.size w w2 := K1.trans (b2.mono K1.size)
          clear h1 K1 b2 HL2 m1
          go_wp2
          go_ret
          exact ⟨by first | rfl | simp, K2⟩
      · have hi2 : ¬ (c2 : Int) < n := by omega
        have hd2 : decide ((c2 : Int) < n) = false := decide_eq_false hi2
        have hs : ltB (ptg q c1) (ptg q i) = false := by
          cases e : ltB (ptg q c1) (ptg q i) with
          | false => rfl
          | true => exact absurd (ltB_iff.1 e) (hno c1 (by omega) (by omega) (by omega))
        have HL2 := Lib.hid (fun (W : World) (g : QSt W base qa q) => queueLess_any W base qa q c1 i (by omega) (by omega) hn' g)
        rw [hs] at HL2
        clear hs hno
        have m1 := mLess
        have b1 := Below.refl wr.heap.size wr
        obtain ⟨w1, hw1⟩ : ∃ w1, w1 = wr := ⟨_, rfl⟩
        subst hw1
        have h1 := h.below b1
        have K1 : Below w.heap.size w w1 := K.trans (b1.mono K.size)
        clear h K b1
        go_wp2_with fail
        refine (HL2.out w1 h1).mono ?_; rintro e w2 ⟨rfl, b2⟩
        have K2 : Below w.heap.size w w2 := K1.trans (b2.mono K1.size)
        clear h1 K1 b2 HL2 m1
        go_wp2
        go_ret
        exact ⟨by first | rfl | simp, K2⟩
    · have hj1 : 2 * (i : Int) + 1 = c1 := by omega
      have hg1 : (c1 : Int) ≥ n := by omega
      have hg2 : decide ((c1 : Int) ≥ n) = true := decide_eq_true hg1
      have hg2' : decide ((n : Int) ≤ c1) = true := decide_eq_true (by omega)
      clear hc1 hc2' hno
      go_wp2
      go_ret
      exact ⟨by first | rfl | simp, K⟩

theorem ptg_snoc (q : List (Int × Int)) (x : Int × Int) (i : Nat) : ptg (q ++ [x]) i = if i < q.length then ptg q i else if i = q.length then x else (0, 0) := by
  unfold ptg
  by_cases h : i < q.length
  · rw [if_pos h]; simp [List.getElem?_append, h]
  · rw [if_neg h]
    by_cases e : i = q.length
    · subst e; simp
    · rw [if_neg e]; simp [List.getElem?_append, h, show ¬ i - q.length = 0 by omega]
theorem heapUp_snoc {q : List (Int × Int)} {x : Int × Int} (h : HeapN q q.length) : HeapUp (q ++ [x]) q.length :=
  ⟨fun c c0 cl ce => by
    have hc : c < q.length := by simp at cl; omega
    rw [ptg_snoc, ptg_snoc, if_pos hc, if_pos (by omega)]; exact h c c0 hc,
   fun c c0 cl ce _ => by simp at cl; omega⟩

set_option maxRecDepth 1000000 in
set_option maxHeartbeats 4000000 in
theorem heapPush_any (w : World) (base : Nat → Prop) (qa : Nat) (q : List (Int × Int)) (k d : Int) (hd : In64 d) (hn : q.length ≤ 1048576) (hfresh : ∀ i, i < q.length → idg q i ≠ d) (hh : HeapN q q.length) (h : QSt w base qa q) :
    Calls Try.prog 102 #[.iface 104 (.pointer (some ⟨qa, 0, none⟩)), .iface 73 (.agg #[.int .i64 k, .int .i64 d])] w (HeapMade w base qa (q ++ [(k, d)])) := by
  have HU := Lib.hid (heapUp_snoc (x := (k, d)) hh)
  have HP := Lib.hid (queuePush_any w base qa q k d hd (by omega) hfresh h)
  have hl : (q ++ [(k, d)]).length = q.length + 1 := by simp
  have HL := Lib.hid hl
  have hw1 : ((q.length + 1 : Nat) : Int) - 1 = q.length := by omega
  have m1 := mPush
  have m2 := mLen
  clear hh hfresh hl h
  go_enter Try.func102, Try.ntmps102
  go_wp2_with fail
  refine HP.out.mono ?_; rintro e w1 ⟨rfl, h1, b1⟩
  have HN := Lib.hid (queueLen_any w1 base qa _ h1)
  rw [HL.out] at HN
  have HV := Lib.hid (heapUp_any w1 base qa (q ++ [(k, d)]) q.length (by rw [HL.out]; omega) (by rw [HL.out]; omega) HU.out h1)
  clear HP h1
  go_wp2_with fail
  refine HN.out.mono ?_; rintro e w' ⟨rfl, rfl⟩
  go_wp2_with fail
  refine HV.out.mono ?_; rintro e w2 ⟨rfl, q', p2, hh2, h2, b2⟩
  go_wp2
  go_end0
  exact ⟨rfl, q', p2, hh2, h2, b1.trans b2⟩

end Go.Proofs.Ytcaamhoakhgnhaa

namespace Go.Proofs.Ytcaamhoakhgnhaa
open Go.RowKit Go.Deep Go.Maps

theorem set_no {q : List (Int × Int)} {i : Nat} {x : Int × Int} (hi : i < q.length) (hh : HeapN q q.length) (hx : ltI x (ptg q i)) : ∀ c, 0 < c → c < (q.set i x).length → (c - 1) / 2 = i → ¬ ltI (ptg (q.set i x) c) (ptg (q.set i x) i) := fun c c0 cl ce => by
  rw [List.length_set] at cl
  rw [ptg_set _ _ _ _ hi, ptg_set _ _ _ _ hi, if_neg (by omega), if_pos rfl]
  have := hh c c0 cl
  rw [ce] at this
  exact fun g => this (ltI_trans g hx)
theorem set_up {q : List (Int × Int)} {i : Nat} {x : Int × Int} (hi : i < q.length) (hh : HeapN q q.length) (hx : ltI x (ptg q i)) : HeapUp (q.set i x) i := by
  refine ⟨fun c c0 cl ce => ?_, fun c c0 cl ce i0 => ?_⟩
  · by_cases e : (c - 1) / 2 = i
    · have := set_no hi hh hx c c0 cl e
      rw [e]; exact this
    · rw [List.length_set] at cl
      rw [ptg_set _ _ _ _ hi, ptg_set _ _ _ _ hi, if_neg (fun g => ce g.symm), if_neg (fun g => e g.symm)]
      exact hh c c0 cl
  · rw [List.length_set] at cl
    rw [ptg_set _ _ _ _ hi, ptg_set _ _ _ _ hi, if_neg (by omega), if_neg (by omega)]
    have h1 := hh c c0 cl
    rw [ce] at h1
    exact nlt_trans h1 (hh i i0 hi)

set_option maxRecDepth 1000000 in
set_option maxHeartbeats 4000000 in
theorem heapFix_any (w : World) (base : Nat → Prop) (qa : Nat) (q : List (Int × Int)) (i : Nat) (hi : i < q.length) (hn : q.length ≤ 2097152) (hno : ∀ c, 0 < c → c < q.length → (c - 1) / 2 = i → ¬ ltI (ptg q c) (ptg q i)) (hu : HeapUp q i) (h : QSt w base qa q) :
    Calls Try.prog 103 #[.iface 104 (.pointer (some ⟨qa, 0, none⟩)), .int .i64 (i : Int)] w (HeapMade w base qa q) := by
  have HN := Lib.hid (queueLen_any w base qa q h)
  have HD := Lib.hid (heapDown_none w base qa q i hi hn hno h)
  have m1 := mLen
  have HU := Lib.hid hu
  clear hno hu
  go_enter Try.func103, Try.ntmps103
  go_wp2_with fail
  refine HN.out.mono ?_; rintro e w' ⟨rfl, rfl⟩
  go_wp2_with fail
  refine HD.out.mono ?_; rintro e w1 ⟨rfl, b1⟩
  have h1 := h.below b1
  have K1 : Kp base w w1 := .of b1
  clear HN HD h b1 m1
  go_wp2_with fail
  refine (heapUp_any w1 base qa q i hi hn HU.out h1).mono ?_; rintro e w2 ⟨rfl, q', p2, hh2, h2, b2⟩
  go_wp2
  go_end0
  exact ⟨rfl, q', p2, hh2, h2, K1.trans b2⟩

/-- The items of a queue behind a put, in some order. -/
def PutRel (q : List (Int × Int)) (x : Int × Int) (q' : List (Int × Int)) : Prop :=
  (∀ i, i < q.length → idg q i ≠ x.2) ∧ q'.Perm (q ++ [x]) ∨ ∃ i, i < q.length ∧ idg q i = x.2 ∧ (x.1 < (ptg q i).1 ∧ q'.Perm (q.set i x) ∨ ¬ x.1 < (ptg q i).1 ∧ q'.Perm q)
def PutMade (w : World) (base : Nat → Prop) (qa : Nat) (q : List (Int × Int)) (x : Int × Int) (e : Ending) (w' : World) : Prop := e = .returned (.tuple #[]) ∧ ∃ q', PutRel q x q' ∧ HeapN q' q'.length ∧ QSt w' base qa q' ∧ Kp base w w'

theorem PlOf.setId {q : List (Int × Int)} {D : DataW Unit} (h : PlOf q D) {i : Nat} {x : Int × Int} (hi : i < q.length) (he : idg q i = x.2) : PlOf (q.set i x) D := by
  have hid : ∀ k, idg (q.set i x) k = idg q k := fun k => by
    unfold idg at *; rw [ptg_set _ _ _ _ hi]; split
    · rename_i e; rw [← e]; exact he.symm
    · rfl
  refine ⟨h.tidy, by rw [h.size, List.length_set], fun y => ?_, fun k hk z => ?_, fun a ha b hb => ?_⟩
  · rw [h.has, List.length_set]; simp only [hid]
  · rw [List.length_set] at hk; rw [hid]; exact h.at_ k hk z
  · rw [List.length_set] at ha; rw [hid, hid]; exact h.apart a ha b hb

set_option maxRecDepth 100000 in
theorem look_int {w : World} {B n : Nat} {D : DataW Unit} {d c : Int} (h : w.ownsMap Try.prog 3 (plainElem Try.prog 3) B n D) (hd : In64 d) (hc : D.atKey (kI d) (.lit (kI 0)) = .lit (kI c)) :
    (Instr.lookup 124 (.map (some B)) (.int .i64 d) true).run Try.prog w = .ok (.tuple #[.int .i64 c, .bool (Maps.has D (kI d))]) w := by
  obtain ⟨v, ps, hr, hv⟩ := h.look_ok Try.law Try.underlying124 (Try.zeroI w) (plainElem_int Try.underlying3 (a := 0) (by decide)) (keyOf_int_mk Try.underlying3 (WalkArith.wf_i64 hd))
  obtain ⟨a, rfl, e, -⟩ := plainElem_int_inv Try.underlying3 hv
  have e' := congrArg Prod.fst e
  simp only at e'
  rw [hc] at e'
  injection e' with e'
  injection e' with _ e'
  rw [e']; exact hr

theorem QSt.setItem {W : World} {base : Nat → Prop} {qa g cap : Nat} {q : List (Int × Int)} {i : Nat} {k d : Int} (hi : i < q.length) (he : idg q i = d) (hd : In64 d) (h : QSt W base qa q) (x0 : W.cell? ⟨qa, 0, none⟩ = some (.slice (some ⟨g, 0, none⟩) q.length cap)) :
    ¬ base g ∧ QSt ((W.setCell ⟨g, i * 2, none⟩ (.int .i64 k)).setCell ⟨g, i * 2 + 1, none⟩ (.int .i64 d)) base qa (q.set i (k, d)) := by
  obtain ⟨v, B, D, X, own, hmap, hpl, hqa, hB, h64, hvP, hPin⟩ := h
  obtain ⟨g', cap', cur, rfl, hcap, -, hgb⟩ := QSt.cells_at own hi
  have hg : ¬ base g' := hvP g' rfl
  have e := X.cells.1.symm.trans x0
  simp at e
  obtain ⟨rfl, rfl⟩ := e
  have hgq : g' ≠ qa := fun e => by subst e; have := X.symm.trans hgb; simp at this
  have HM := hmap
  obtain ⟨es, ck, hmb, -⟩ := hmap
  have hBg : B ≠ g' := fun e => by subst e; have := hgb.symm.trans hmb; simp at this
  have hl : (q.set i (k, d)).length = q.length := List.length_set
  refine ⟨hg, _, B, D, ?_, by rw [hl]; exact row_set own i (k, d), by rw [hl]; exact (HM.setCell (a := ⟨g', i * 2, none⟩) hBg (.int .i64 k)).setCell (a := ⟨g', i * 2 + 1, none⟩) hBg (.int .i64 d), hpl.setId hi he, hqa, hB, fun j hj => ?_, hvP, fun b hb => by have := hPin b hb; simpa [World.setCell] using this⟩
  · exact (Below.heap_setCell _ ⟨g', i * 2 + 1, none⟩ _ qa (Ne.symm hgq)).trans ((Below.heap_setCell _ ⟨g', i * 2, none⟩ _ qa (Ne.symm hgq)).trans X)
  · rw [hl] at hj
    unfold idg; rw [ptg_set _ _ _ _ hi]; split
    · exact hd
    · exact h64 j hj

set_option maxRecDepth 1000000 in
set_option maxHeartbeats 16000000 in
theorem queuePut_any (w : World) (base : Nat → Prop) (qa : Nat) (q : List (Int × Int)) (k d : Int) (hd : In64 d) (hn : q.length ≤ 1048576) (hh : HeapN q q.length) (h : QSt w base qa q) :
    Calls Try.prog 83 #[.pointer (some ⟨qa, 0, none⟩), .agg #[.int .i64 k, .int .i64 d]] w (PutMade w base qa q (k, d)) := by
  have kb0 := below1 w (.cells #[.int .i64 k, .int .i64 d] 73)
  have P := Pair.new w 73 (.int .i64 k) (.int .i64 d)
  have K0 : Kp base w (w.alloc (.cells #[.int .i64 k, .int .i64 d] 73)) := .of kb0
  obtain ⟨v, B, D, X0, own0, hmap0, hpl, hqa, hB, h64, hvP, hPin⟩ := h
  have hgl := World.ownsRow.lt own0
  have X := X0.below kb0
  have own := ownsRow_below own0 kb0
  have hmap := ownsMap_below hmap0 kb0
  obtain ⟨W, hW⟩ : ∃ W, W = w.alloc (.cells #[.int .i64 k, .int .i64 d] 73) := ⟨_, rfl⟩
  rw [← hW] at X own hmap P K0
  have HW := Lib.hid hW
  clear hW kb0 X0 own0 hmap0
  have HQ : Hid (QSt W base qa q) := Lib.hid ⟨v, B, D, X, own, hmap, hpl, hqa, hB, h64, hvP, fun b hb => Nat.lt_of_lt_of_le (hPin b hb) K0.size⟩
  have HB2 := Lib.hid (fun a b => HQ.out.below (below_drewN (below_drewN (Below.refl W.heap.size W) a) b))
  have HK2 := Lib.hid (fun a b => (K0.drewN a).drewN b)
  have HB1 := Lib.hid (fun m => HQ.out.below (below_drewN (Below.refl W.heap.size W) m))
  have HK1 := Lib.hid (fun m => K0.drewN m)
  obtain ⟨x0, x1, -, -⟩ := X.cells
  obtain ⟨p0, p1, -, -⟩ := P.cells
  cases hhas : Maps.has D (kI d) with
  | false =>
    have hfresh : ∀ i, i < q.length → idg q i ≠ d := fun i hi e => by rw [(hpl.has d).2 ⟨i, hi, e⟩] at hhas; cases hhas
    have hlk : ∀ m, (Instr.lookup 124 (.map (some B)) (.int .i64 d) true).run Try.prog (W.drewN m) = .ok (.tuple #[.int .i64 0, .bool false]) (W.drewN m) := fun m => by
      have := look_int (w := W.drewN m) hmap hd (c := 0) (atKey_of_not_has hhas _)
      rw [hhas] at this; exact this
    have HF := Lib.hid hfresh
    have HH := Lib.hid hh
    clear hmap hpl h64 own hhas X P hfresh hh K0
    go_enter Try.func83, Try.ntmps83
    go_wp2_with fail
    rw [← HW.out]
    go_quiet (fail)
    clear hlk x0 x1
    go_wp2_with fail
    refine (heapPush_any (W.drewN nq) base qa q k d hd hn HF.out HH.out (HB1.out nq)).mono ?_; rintro e w2 ⟨rfl, q', p2, hh2, h2, b2⟩
    go_wp2
    go_end0
    exact ⟨rfl, q', .inl ⟨HF.out, p2⟩, hh2, h2, (HK1.out nq).trans b2⟩
  | true =>
    obtain ⟨i, hi, he⟩ := (hpl.has d).1 hhas
    have hlk : ∀ m, (Instr.lookup 124 (.map (some B)) (.int .i64 d) true).run Try.prog (W.drewN m) = .ok (.tuple #[.int .i64 (i : Int), .bool true]) (W.drewN m) := fun m => by
      have := look_int (w := W.drewN m) hmap hd (c := (i : Int)) (by rw [← he]; exact hpl.at_ i hi _)
      rw [hhas] at this; exact this
    obtain ⟨g, cap, cur, rfl, hcap, -, hgb⟩ := QSt.cells_at own hi
    obtain ⟨a0, a1, a2, a3⟩ := row_cell own hi
    have hii : (i : Int) < q.length := by omega
    have hgq : g ≠ qa := fun e => by subst e; have := X.symm.trans hgb; simp at this
    have hgw : g ≠ w.heap.size := by have := (hgl g rfl).2; omega
    by_cases hlt : k < (ptg q i).1
    · have hxl : ltI (k, d) (ptg q i) := .inl hlt
      have HNO := Lib.hid (set_no (x := (k, d)) hi hh hxl)
      have HUP := Lib.hid (set_up (x := (k, d)) hi hh hxl)
      have HREL : Hid (∀ q', q'.Perm (q.set i (k, d)) → PutRel q (k, d) q') := Lib.hid (fun q' p => .inr ⟨i, hi, he, .inl ⟨hlt, p⟩⟩)
      have HE := Lib.hid he
      have HLN : Hid ((q.set i (k, d)).length = q.length) := Lib.hid List.length_set
      generalize (ptg q i).1 = kk at a0 hlt
      generalize (ptg q i).2 = dd at a1
      clear hmap hpl h64 own X P hh hhas hgb he K0 hxl
      go_enter Try.func83, Try.ntmps83
      go_wp2_with fail
      rw [← HW.out]
      go_quiet (fail)
      generalize nq = nq1
      clear hlk
      go_wp2_with fail
      go_quiet (fail)
      go_wp2_with fail
      generalize nq = nq2
      have hq := HB2.out nq1 nq2
      have Kq := HK2.out nq1 nq2
      have y0 : ((W.drewN nq1).drewN nq2).cell? ⟨qa, 0, none⟩ = some (.slice (some ⟨g, 0, none⟩) q.length cap) := x0
      have y1 : ((W.drewN nq1).drewN nq2).cell? ⟨w.heap.size, 0, none⟩ = some (.int .i64 k) := p0
      have y2 : ((W.drewN nq1).drewN nq2).cell? ⟨w.heap.size, 1, none⟩ = some (.int .i64 d) := p1
      have y3 : ((W.drewN nq1).drewN nq2).cell? ⟨g, i * 2, none⟩ = some (.int .i64 kk) := a0
      have y4 : ((W.drewN nq1).drewN nq2).cell? ⟨g, i * 2 + 1, none⟩ = some (.int .i64 dd) := a1
      have y5 : ((W.drewN nq1).drewN nq2).frozen? ⟨g, i * 2, none⟩ = false := a2
      have y6 : ((W.drewN nq1).drewN nq2).frozen? ⟨g, i * 2 + 1, none⟩ = false := a3
      generalize (W.drewN nq1).drewN nq2 = wq at hq Kq y0 y1 y2 y3 y4 y5 y6 ⊢
      clear x0 x1 p0 p1 a0 a1 a2 a3 HW
      obtain ⟨hg', FIN⟩ := hq.setItem hi HE.out hd y0
      have KF := (Kq.setCell (p := ⟨g, i * 2, none⟩) hg' (.int .i64 k)).setCell (p := ⟨g, i * 2 + 1, none⟩) hg' (.int .i64 d)
      have HFIN : Hid (QSt ((wq.setCell ⟨g, i * 2, none⟩ (.int .i64 k)).setCell ⟨g, i * 2 + 1, none⟩ (.int .i64 d)).drew base qa (q.set i (k, d))) := Lib.hid (FIN.below (below_drewN (Below.refl _ ((wq.setCell ⟨g, i * 2, none⟩ (.int .i64 k)).setCell ⟨g, i * 2 + 1, none⟩ (.int .i64 d))) 1))
      have HKF := Lib.hid (KF.drewN 1)
      clear FIN KF hq Kq
      go_region
      all_goals (
        go_wp2_with fail
        refine (heapFix_any _ base qa (q.set i (k, d)) i (by rw [HLN.out]; exact hi) (by rw [HLN.out]; omega) HNO.out HUP.out HFIN.out).mono ?_; rintro e w2 ⟨rfl, q', p2, hh2, h2, b2⟩
        go_wp2
        go_end0
        exact ⟨rfl, q', HREL.out q' p2, hh2, h2, HKF.out.trans b2⟩)
    · have HREL := Lib.hid (show PutRel q (k, d) q from .inr ⟨i, hi, he, .inr ⟨hlt, List.Perm.refl _⟩⟩)
      have HH := Lib.hid hh
      generalize (ptg q i).1 = kk at a0 hlt
      generalize (ptg q i).2 = dd at a1
      clear hmap hpl h64 own X P hh hhas hgb he K0
      go_enter Try.func83, Try.ntmps83
      go_wp2_with fail
      rw [← HW.out]
      go_quiet (fail)
      clear hlk
      go_wp2_with fail
      go_quiet (fail)
      go_wp2
      go_end0
      exact ⟨rfl, q, HREL.out, HH.out, HB2.out _ _, HK2.out _ _⟩

/-- Items in ascending order. -/
def Asc (q : List (Int × Int)) : Prop := ∀ i j, i < j → j < q.length → ¬ ltI (ptg q j) (ptg q i)

end Go.Proofs.Ytcaamhoakhgnhaa

namespace Go.Proofs.Ytcaamhoakhgnhaa
open Go.RowKit Go.Deep Go.Maps

theorem PlOf.again {q : List (Int × Int)} {D : DataW Unit} (h : PlOf q D) {i : Nat} (hi : i < q.length) : PlOf q (D.put (kI (idg q i)) (.lit (kI (i : Int)))) := by
  have hm := h.tidy.isMap
  have hh : Maps.has D (kI (idg q i)) = true := (h.has _).2 ⟨i, hi, rfl⟩
  refine ⟨h.tidy.put (isKey_int _) _, ?_, fun x => ?_, fun k hk z => ?_, h.apart⟩
  · rw [size_put h.tidy, if_pos hh, h.size]
  · by_cases e : x = idg q i
    · subst e; rw [has_put_same hm (isKey_int _)]; exact ⟨fun _ => ⟨i, hi, rfl⟩, fun _ => rfl⟩
    · rw [has_put_other (kI_ne e), h.has]
  · by_cases e : k = i
    · subst e; rw [atKey_put_same hm (isKey_int _)]
    · rw [atKey_put_other (kI_ne (fun g => e (h.inj hk hi g)))]; exact h.at_ k hk z
theorem set_same {q : List (Int × Int)} {i : Nat} (hi : i < q.length) : q.set i (ptg q i) = q := by
  have : ptg q i = q[i] := by unfold ptg; simp [hi]
  rw [this]; simp

set_option maxRecDepth 1000000 in
set_option maxHeartbeats 16000000 in
theorem swapOne_any (w : World) (base : Nat → Prop) (qa : Nat) (q : List (Int × Int)) (i : Nat) (hi : i < q.length) (hn : q.length ≤ 4194304) (h : QSt w base qa q) :
    Calls Try.prog 158 #[.pointer (some ⟨qa, 0, none⟩), .int .i64 (i : Int), .int .i64 (i : Int)] w fun e w' => e = .returned (.tuple #[]) ∧ QSt w' base qa q ∧ Kp base w w' := by
  obtain ⟨v, B, D, X, own, hmap, hpl, hqa, hB, h64, hvP, hPin⟩ := h
  obtain ⟨g, cap, cur, rfl, hcap, -, hgb⟩ := QSt.cells_at own hi
  have hg : ¬ base g := hvP g rfl
  obtain ⟨a0, a1, a2, a3⟩ := row_cell own hi
  obtain ⟨x0, x1, -, -⟩ := X.cells
  have hii : (i : Int) < q.length := by omega
  have hgq : g ≠ qa := fun e => by subst e; have := X.symm.trans hgb; simp at this
  have HM := Lib.hid hmap
  obtain ⟨es, ck, hmb, -⟩ := hmap
  have hBq : B ≠ qa := fun e => by subst e; have := X.symm.trans hmb; simp at this
  have hBg : B ≠ g := fun e => by subst e; have := hgb.symm.trans hmb; simp at this
  have own1 := row_set own i (ptg q i)
  rw [set_same hi] at own1
  have own2 := row_set own1 i (ptg q i)
  rw [set_same hi] at own2
  have HPL := Lib.hid ((hpl.again hi).again hi)
  have h64i := h64 i hi
  have hhj := (hpl.has _).2 ⟨i, hi, rfl⟩
  have hhi : Maps.has (D.put (kI (idg q i)) (.lit (kI (i : Int)))) (kI (idg q i)) = true := ((hpl.again hi).has _).2 ⟨i, hi, rfl⟩
  have H64 := Lib.hid h64
  have hXs : ∀ (W : World) (k : Nat) (u : Value), Pair W qa 127 (.slice (some ⟨g, 0, none⟩) q.length cap) (.map (some B)) → Pair (W.setCell ⟨g, k, none⟩ u) qa 127 (.slice (some ⟨g, 0, none⟩) q.length cap) (.map (some B)) := fun W k u h => (Below.heap_setCell W ⟨g, k, none⟩ u qa (Ne.symm hgq)).trans h
  have X3 := hXs _ (i * 2 + 1) (.int .i64 (ptg q i).2) (hXs _ (i * 2) (.int .i64 (ptg q i).1) (hXs _ (i * 2 + 1) (.int .i64 (ptg q i).2) (hXs _ (i * 2) (.int .i64 (ptg q i).1) X)))
  have M3 := ((((HM.out).setCell (a := ⟨g, i * 2, none⟩) hBg (.int .i64 (ptg q i).1)).setCell (a := ⟨g, i * 2 + 1, none⟩) hBg (.int .i64 (ptg q i).2)).setCell (a := ⟨g, i * 2, none⟩) hBg (.int .i64 (ptg q i).1)).setCell (a := ⟨g, i * 2 + 1, none⟩) hBg (.int .i64 (ptg q i).2)
  have K3 := ((((Kp.refl base w).setCell (p := ⟨g, i * 2, none⟩) hg (.int .i64 (ptg q i).1)).setCell (p := ⟨g, i * 2 + 1, none⟩) hg (.int .i64 (ptg q i).2)).setCell (p := ⟨g, i * 2, none⟩) hg (.int .i64 (ptg q i).1)).setCell (p := ⟨g, i * 2 + 1, none⟩) hg (.int .i64 (ptg q i).2)
  obtain ⟨W, hW⟩ : ∃ W, W = (((w.setCell ⟨g, i * 2, none⟩ (.int .i64 (ptg q i).1)).setCell ⟨g, i * 2 + 1, none⟩ (.int .i64 (ptg q i).2)).setCell ⟨g, i * 2, none⟩ (.int .i64 (ptg q i).1)).setCell ⟨g, i * 2 + 1, none⟩ (.int .i64 (ptg q i).2) := ⟨_, rfl⟩
  rw [← hW] at own2 X3 M3 K3
  have own4 : W.drew.drew.ownsRow 0 73 2 (.slice (some ⟨g, 0, none⟩) q.length cap) q.length (cellsP q) := own2
  have ti := (row_cell own4 (i := i) hi).2.1
  have HW := Lib.hid hW
  clear hW
  rw [show (ptg q i).2 = idg q i from rfl] at a1 HW ti
  generalize (ptg q i).1 = ki at a0 HW
  generalize idg q i = di at a1 HW ti h64i hhi HPL hhj
  have T : SwS qa (.slice (some ⟨g, 0, none⟩) q.length cap) (.map (some B)) g (i * 2 + 1) (i * 2 + 1) di di W.drew.drew := ⟨⟨X3.cells.1, X3.cells.2.1⟩, ti, ti⟩
  obtain ⟨v0, st, w1, w2, r1, r2, m2, g1, g2⟩ := entry_own (w := W.drew.drew) M3 (by unfold maxLen; omega) (x := di) (y := (i : Int)) h64i ⟨by omega, by omega⟩ hhj
  obtain ⟨u0, su, w3, w4, r3, r4, m4, g3, g4⟩ := entry_own m2 (by unfold maxLen; omega) (x := di) (y := (i : Int)) h64i ⟨by omega, by omega⟩ hhi
  have G4 := only_trans (only_trans g1 g2) (only_trans g3 g4)
  have m5 := ownsMap_size m4
  rw [HPL.out.size] at m5
  have KF : Kp base w w4 := Kp.grown (K3.drew.drew) G4 (fun g e => by injection e with e; rw [← e]; exact hB)
  have FIN : QSt w4 base qa q := ⟨_, B, _, Pair.grown' (w := W.drew.drew) X3 G4 (fun g e => by injection e with e; omega), own4.kept G4 (.inr (ownB_ne hBg)), m5, HPL.out, hqa, hB, H64.out, fun g' e => hvP g' e, fun b hb => Nat.lt_of_lt_of_le (hPin b hb) KF.size⟩
  clear own own1 own2 own4 ti hmb hgb m2 m4 m5 G4 M3 X3 K3 X HPL H64 hXs h64 hpl
  go_enter Try.func158, Try.ntmps158
  go_wp2_with fail
  go_region
  rw [← HW.out]
  clear a0 a1 a2 a3 x0 x1 HW
  go_wp2_with fail
  refine wp_region_held_drew (S := (fun w' => SwS qa (.slice (some ⟨g, 0, none⟩) q.length cap) (.map (some B)) g (i * 2 + 1) (i * 2 + 1) di di w')) (by kernel_rfl) ?_ (fun hHeld => ?_)
  · exact T
  clear T
  refine wpAnyH_take (i := 0) (oi := ⟨some 32, _, _, _, _, _⟩) (v := .pointer (some ⟨qa, 0, none⟩)) rfl (by kernel_rfl) (by kernel_rfl) (by kernel_rfl) (fun _ _ _ h => h) (Or.inl ⟨by rfl, fun w' hw => ?hy⟩) hHeld ?_
  case hy => (try dsimp only at hw); go_simp
  simp only [Act.put, List.setIfInBounds_toArray, List.set_cons_zero, List.set_cons_succ]
  refine wpAnyH_take (i := 1) (oi := ⟨some 33, _, _, _, _, _⟩) (v := .pointer (some ⟨qa, 0, none⟩)) rfl (by kernel_rfl) (by kernel_rfl) (by kernel_rfl) (fun _ _ _ h => h) (Or.inl ⟨by rfl, fun w' hw => ?hy⟩) hHeld ?_
  case hy => (try dsimp only at hw); go_simp
  simp only [Act.put, List.setIfInBounds_toArray, List.set_cons_zero, List.set_cons_succ]
  refine wpAnyH_take (i := 2) (oi := ⟨some 34, _, _, _, _, _⟩) (v := .pointer (some ⟨qa, 1, none⟩)) rfl (by kernel_rfl) (by kernel_rfl) (by kernel_rfl) (fun _ _ _ h => h) (Or.inl ⟨by rfl, fun w' hw => ?hy⟩) hHeld ?_
  case hy => (try dsimp only at hw); go_simp
  simp only [Act.put, List.setIfInBounds_toArray, List.set_cons_zero, List.set_cons_succ]
  refine wpAnyH_take (i := 3) (oi := ⟨some 35, _, _, _, _, _⟩) (v := .map (some B)) rfl (by kernel_rfl) (by kernel_rfl) (by kernel_rfl) (fun _ _ _ h => h) (Or.inl ⟨by rfl, fun w' hw => ?hy⟩) hHeld ?_
  case hy => (try dsimp only at hw); have hx0 := hw.1.2; clear hw; go_simp
  simp only [Act.put, List.setIfInBounds_toArray, List.set_cons_zero, List.set_cons_succ]
  refine wpAnyH_take (i := 4) (oi := ⟨some 36, _, _, _, _, _⟩) (v := .pointer (some ⟨qa, 0, none⟩)) rfl (by kernel_rfl) (by kernel_rfl) (by kernel_rfl) (fun _ _ _ h => h) (Or.inl ⟨by rfl, fun w' hw => ?hy⟩) hHeld ?_
  case hy => (try dsimp only at hw); go_simp
  simp only [Act.put, List.setIfInBounds_toArray, List.set_cons_zero, List.set_cons_succ]
  refine wpAnyH_take (i := 5) (oi := ⟨some 37, _, _, _, _, _⟩) (v := .pointer (some ⟨qa, 0, none⟩)) rfl (by kernel_rfl) (by kernel_rfl) (by kernel_rfl) (fun _ _ _ h => h) (Or.inl ⟨by rfl, fun w' hw => ?hy⟩) hHeld ?_
  case hy => (try dsimp only at hw); go_simp
  simp only [Act.put, List.setIfInBounds_toArray, List.set_cons_zero, List.set_cons_succ]
  refine wpAnyH_take (i := 6) (oi := ⟨some 38, _, _, _, _, _⟩) (v := .pointer (some ⟨qa, 0, none⟩)) rfl (by kernel_rfl) (by kernel_rfl) (by kernel_rfl) (fun _ _ _ h => h) (Or.inl ⟨by rfl, fun w' hw => ?hy⟩) hHeld ?_
  case hy => (try dsimp only at hw); go_simp
  simp only [Act.put, List.setIfInBounds_toArray, List.set_cons_zero, List.set_cons_succ]
  refine wpAnyH_take (i := 7) (oi := ⟨some 39, _, _, _, _, _⟩) (v := .slice (some ⟨g, 0, none⟩) q.length cap) rfl (by kernel_rfl) (by kernel_rfl) (by kernel_rfl) (fun _ _ _ h => h) (Or.inl ⟨by rfl, fun w' hw => ?hy⟩) hHeld ?_
  case hy => (try dsimp only at hw); have hx0 := hw.1.1; clear hw; go_simp
  simp only [Act.put, List.setIfInBounds_toArray, List.set_cons_zero, List.set_cons_succ]
  refine wpAnyH_take (i := 8) (oi := ⟨some 40, _, _, _, _, _⟩) (v := .int .i64 (i : Int)) rfl (by kernel_rfl) (by kernel_rfl) (by kernel_rfl) (fun _ _ _ h => h) (Or.inl ⟨by rfl, fun w' hw => ?hy⟩) hHeld ?_
  case hy => (try dsimp only at hw); go_simp
  simp only [Act.put, List.setIfInBounds_toArray, List.set_cons_zero, List.set_cons_succ]
  refine wpAnyH_take (i := 9) (oi := ⟨some 41, _, _, _, _, _⟩) (v := .pointer (some ⟨g, i * 2, none⟩)) rfl (by kernel_rfl) (by kernel_rfl) (by kernel_rfl) (fun _ _ _ h => h) (Or.inl ⟨by rfl, fun w' hw => ?hy⟩) hHeld ?_
  case hy => (try dsimp only at hw); go_simp
  simp only [Act.put, List.setIfInBounds_toArray, List.set_cons_zero, List.set_cons_succ]
  refine wpAnyH_take (i := 10) (oi := ⟨some 42, _, _, _, _, _⟩) (v := .pointer (some ⟨g, i * 2 + 1, none⟩)) rfl (by kernel_rfl) (by kernel_rfl) (by kernel_rfl) (fun _ _ _ h => h) (Or.inl ⟨by rfl, fun w' hw => ?hy⟩) hHeld ?_
  case hy => (try dsimp only at hw); go_simp
  simp only [Act.put, List.setIfInBounds_toArray, List.set_cons_zero, List.set_cons_succ]
  refine wpAnyH_take (i := 11) (oi := ⟨some 43, _, _, _, _, _⟩) (v := .int .i64 di) rfl (by kernel_rfl) (by kernel_rfl) (by kernel_rfl) (fun _ _ _ h => h) (Or.inl ⟨by rfl, fun w' hw => ?hy⟩) hHeld ?_
  case hy => (try dsimp only at hw); have hx0 := hw.2.1; clear hw; go_simp
  simp only [Act.put, List.setIfInBounds_toArray, List.set_cons_zero, List.set_cons_succ]
  refine wpAnyH_take (i := 12) (oi := ⟨some 44, _, _, _, _, _⟩) (v := .pointer (some ⟨qa, 0, none⟩)) rfl (by kernel_rfl) (by kernel_rfl) (by kernel_rfl) (fun _ _ _ h => h) (Or.inl ⟨by rfl, fun w' hw => ?hy⟩) hHeld ?_
  case hy => (try dsimp only at hw); go_simp
  simp only [Act.put, List.setIfInBounds_toArray, List.set_cons_zero, List.set_cons_succ]
  refine wpAnyH_take (i := 13) (oi := ⟨some 45, _, _, _, _, _⟩) (v := .pointer (some ⟨qa, 0, none⟩)) rfl (by kernel_rfl) (by kernel_rfl) (by kernel_rfl) (fun _ _ _ h => h) (Or.inl ⟨by rfl, fun w' hw => ?hy⟩) hHeld ?_
  case hy => (try dsimp only at hw); go_simp
  simp only [Act.put, List.setIfInBounds_toArray, List.set_cons_zero, List.set_cons_succ]
  refine wpAnyH_take (i := 14) (oi := ⟨some 46, _, _, _, _, _⟩) (v := .pointer (some ⟨qa, 1, none⟩)) rfl (by kernel_rfl) (by kernel_rfl) (by kernel_rfl) (fun _ _ _ h => h) (Or.inl ⟨by rfl, fun w' hw => ?hy⟩) hHeld ?_
  case hy => (try dsimp only at hw); go_simp
  simp only [Act.put, List.setIfInBounds_toArray, List.set_cons_zero, List.set_cons_succ]
  refine wpAnyH_take (i := 15) (oi := ⟨some 47, _, _, _, _, _⟩) (v := .map (some B)) rfl (by kernel_rfl) (by kernel_rfl) (by kernel_rfl) (fun _ _ _ h => h) (Or.inl ⟨by rfl, fun w' hw => ?hy⟩) hHeld ?_
  case hy => (try dsimp only at hw); have hx0 := hw.1.2; clear hw; go_simp
  simp only [Act.put, List.setIfInBounds_toArray, List.set_cons_zero, List.set_cons_succ]
  refine wpAnyH_take (i := 16) (oi := ⟨some 48, _, _, _, _, _⟩) (v := .pointer (some ⟨qa, 0, none⟩)) rfl (by kernel_rfl) (by kernel_rfl) (by kernel_rfl) (fun _ _ _ h => h) (Or.inl ⟨by rfl, fun w' hw => ?hy⟩) hHeld ?_
  case hy => (try dsimp only at hw); go_simp
  simp only [Act.put, List.setIfInBounds_toArray, List.set_cons_zero, List.set_cons_succ]
  refine wpAnyH_take (i := 17) (oi := ⟨some 49, _, _, _, _, _⟩) (v := .pointer (some ⟨qa, 0, none⟩)) rfl (by kernel_rfl) (by kernel_rfl) (by kernel_rfl) (fun _ _ _ h => h) (Or.inl ⟨by rfl, fun w' hw => ?hy⟩) hHeld ?_
  case hy => (try dsimp only at hw); go_simp
  simp only [Act.put, List.setIfInBounds_toArray, List.set_cons_zero, List.set_cons_succ]
  refine wpAnyH_take (i := 18) (oi := ⟨some 50, _, _, _, _, _⟩) (v := .pointer (some ⟨qa, 0, none⟩)) rfl (by kernel_rfl) (by kernel_rfl) (by kernel_rfl) (fun _ _ _ h => h) (Or.inl ⟨by rfl, fun w' hw => ?hy⟩) hHeld ?_
  case hy => (try dsimp only at hw); go_simp
  simp only [Act.put, List.setIfInBounds_toArray, List.set_cons_zero, List.set_cons_succ]
  refine wpAnyH_take (i := 19) (oi := ⟨some 51, _, _, _, _, _⟩) (v := .slice (some ⟨g, 0, none⟩) q.length cap) rfl (by kernel_rfl) (by kernel_rfl) (by kernel_rfl) (fun _ _ _ h => h) (Or.inl ⟨by rfl, fun w' hw => ?hy⟩) hHeld ?_
  case hy => (try dsimp only at hw); have hx0 := hw.1.1; clear hw; go_simp
  simp only [Act.put, List.setIfInBounds_toArray, List.set_cons_zero, List.set_cons_succ]
  refine wpAnyH_take (i := 20) (oi := ⟨some 52, _, _, _, _, _⟩) (v := .int .i64 (i : Int)) rfl (by kernel_rfl) (by kernel_rfl) (by kernel_rfl) (fun _ _ _ h => h) (Or.inl ⟨by rfl, fun w' hw => ?hy⟩) hHeld ?_
  case hy => (try dsimp only at hw); go_simp
  simp only [Act.put, List.setIfInBounds_toArray, List.set_cons_zero, List.set_cons_succ]
  refine wpAnyH_take (i := 21) (oi := ⟨some 53, _, _, _, _, _⟩) (v := .pointer (some ⟨g, i * 2, none⟩)) rfl (by kernel_rfl) (by kernel_rfl) (by kernel_rfl) (fun _ _ _ h => h) (Or.inl ⟨by rfl, fun w' hw => ?hy⟩) hHeld ?_
  case hy => (try dsimp only at hw); go_simp
  simp only [Act.put, List.setIfInBounds_toArray, List.set_cons_zero, List.set_cons_succ]
  refine wpAnyH_take (i := 22) (oi := ⟨some 54, _, _, _, _, _⟩) (v := .pointer (some ⟨g, i * 2 + 1, none⟩)) rfl (by kernel_rfl) (by kernel_rfl) (by kernel_rfl) (fun _ _ _ h => h) (Or.inl ⟨by rfl, fun w' hw => ?hy⟩) hHeld ?_
  case hy => (try dsimp only at hw); go_simp
  simp only [Act.put, List.setIfInBounds_toArray, List.set_cons_zero, List.set_cons_succ]
  refine wpAnyH_take (i := 23) (oi := ⟨some 55, _, _, _, _, _⟩) (v := .int .i64 di) rfl (by kernel_rfl) (by kernel_rfl) (by kernel_rfl) (fun _ _ _ h => h) (Or.inl ⟨by rfl, fun w' hw => ?hy⟩) hHeld ?_
  case hy => (try dsimp only at hw); have hx0 := hw.2.2; clear hw; go_simp
  simp only [Act.put, List.setIfInBounds_toArray, List.set_cons_zero, List.set_cons_succ]
  refine wpAnyH_take (i := 24) (oi := ⟨some 56, _, _, _, _, _⟩) (v := .int .i64 (i : Int)) rfl (by kernel_rfl) (by kernel_rfl) (by kernel_rfl) (fun _ _ _ h => h) (Or.inl ⟨by rfl, fun w' hw => ?hy⟩) hHeld ?_
  case hy => (try dsimp only at hw); go_simp
  simp only [Act.put, List.setIfInBounds_toArray, List.set_cons_zero, List.set_cons_succ]
  refine wpAnyH_take (i := 25) (oi := ⟨some 57, _, _, _, _, _⟩) (v := .int .i64 (i : Int)) rfl (by kernel_rfl) (by kernel_rfl) (by kernel_rfl) (fun _ _ _ h => h) (Or.inl ⟨by rfl, fun w' hw => ?hy⟩) hHeld ?_
  case hy => (try dsimp only at hw); go_simp
  simp only [Act.put, List.setIfInBounds_toArray, List.set_cons_zero, List.set_cons_succ]
  refine wpAnyH_ready (rs := [26]) (by kernel_rfl) (by simp) ?_
  refine AllReadyH.cons (o := ⟨some 58, _, _, _, _, _⟩) rfl (fun K hK => ?_) AllReadyH.nil
  go_simp
  refine hK.out _ _ ?_ (fun hHeld => ?_)
  · exact SwS.grown g1 hBq hBg hHeld
  clear hK K
  try simp only [Act.put, List.setIfInBounds_toArray, List.set_cons_zero, List.set_cons_succ]
  refine wpAnyH_take (i := 27) (oi := ⟨some 59, _, _, _, _, _⟩) (v := .int .i64 st) rfl (by kernel_rfl) (by kernel_rfl) (by kernel_rfl) (fun _ _ _ h => h) (Or.inl ⟨by rfl, fun w' hw => ?hy⟩) hHeld ?_
  case hy => (try dsimp only at hw); go_simp
  simp only [Act.put, List.setIfInBounds_toArray, List.set_cons_zero, List.set_cons_succ]
  refine wpAnyH_ready (rs := [28]) (by kernel_rfl) (by simp) ?_
  refine AllReadyH.cons (o := ⟨none, _, _, _, _, _⟩) rfl (fun K hK => ?_) AllReadyH.nil
  go_simp
  refine hK.out _ _ ?_ (fun hHeld => ?_)
  · exact SwS.grown g2 hBq hBg hHeld
  clear hK K
  try simp only [Act.put, List.setIfInBounds_toArray, List.set_cons_zero, List.set_cons_succ]
  refine wpAnyH_ready (rs := [29]) (by kernel_rfl) (by simp) ?_
  refine AllReadyH.cons (o := ⟨some 60, _, _, _, _, _⟩) rfl (fun K hK => ?_) AllReadyH.nil
  go_simp
  refine hK.out _ _ ?_ (fun hHeld => ?_)
  · exact SwS.grown g3 hBq hBg hHeld
  clear hK K
  try simp only [Act.put, List.setIfInBounds_toArray, List.set_cons_zero, List.set_cons_succ]
  refine wpAnyH_take (i := 30) (oi := ⟨some 61, _, _, _, _, _⟩) (v := .int .i64 su) rfl (by kernel_rfl) (by kernel_rfl) (by kernel_rfl) (fun _ _ _ h => h) (Or.inl ⟨by rfl, fun w' hw => ?hy⟩) hHeld ?_
  case hy => (try dsimp only at hw); go_simp
  simp only [Act.put, List.setIfInBounds_toArray, List.set_cons_zero, List.set_cons_succ]
  refine wpAnyH_ready (rs := [31]) (by kernel_rfl) (by simp) ?_
  refine AllReadyH.cons (o := ⟨none, _, _, _, _, _⟩) rfl (fun K hK => ?_) AllReadyH.nil
  go_simp
  refine hK.out _ _ ?_ (fun hHeld => ?_)
  · exact SwS.grown g4 hBq hBg hHeld
  clear hK K
  try simp only [Act.put, List.setIfInBounds_toArray, List.set_cons_zero, List.set_cons_succ]
  refine wpAnyH_done (by kernel_rfl) ?_ _
  go_wp2
  go_end0
  exact ⟨rfl, FIN, KF⟩

end Go.Proofs.Ytcaamhoakhgnhaa

namespace Go.Proofs.Ytcaamhoakhgnhaa
open Go.RowKit Go.Deep Go.Maps

-- what else may happen beside a queue
theorem QSt.mono {w : World} {base base' : Nat → Prop} {qa : Nat} {q : List (Int × Int)} (h : QSt w base qa q) (hs : ∀ b, base' b → base b) : QSt w base' qa q := by
  obtain ⟨v, B, D, X, own, hmap, hpl, hqa, hB, h64, hvP, hPin⟩ := h
  exact ⟨v, B, D, X, own, hmap, hpl, fun g => hqa (hs _ g), fun g => hB (hs _ g), h64, fun g e k => hvP g e (hs _ k), fun b k => hPin b (hs _ k)⟩
/-- New blocks are none of the queue's. -/
theorem QSt.pinNew {w w' : World} {base : Nat → Prop} {qa : Nat} {q : List (Int × Int)} (h : QSt w base qa q) (hb : Below w.heap.size w w') : QSt w' (fun b => base b ∨ w.heap.size ≤ b ∧ b < w'.heap.size) qa q := by
  have hs := hb.size
  obtain ⟨v, B, D, X, own, hmap, hpl, hqa, hB, h64, hvP, hPin⟩ := h
  have hql := X.lt
  have hBl : B < w.heap.size := by obtain ⟨es, ck, hmb, -⟩ := hmap; exact (Array.getElem?_eq_some_iff.1 hmb).1
  have hgl := World.ownsRow.lt own
  refine ⟨v, B, D, X.below hb, ownsRow_below own hb, ownsMap_below hmap hb, hpl, ?_, ?_, h64, fun g e => ?_, fun b k => ?_⟩
  · rintro (g | g)
    · exact hqa g
    · omega
  · rintro (g | g)
    · exact hB g
    · omega
  · rintro (k | k)
    · exact hvP g e k
    · have := (hgl g e).2; omega
  · rcases k with k | k
    · have := hPin b k; omega
    · exact k.2
/-- A store into a block that is none of the queue's. -/
theorem QSt.kept {w w' : World} {base : Nat → Prop} {qa : Nat} {q : List (Int × Int)} (h : QSt w base qa q) {r : Nat} (hr : base r) (hg : w.grownBy w' (some r)) : QSt w' base qa q := by
  obtain ⟨v, B, D, X, own, hmap, hpl, hqa, hB, h64, hvP, hPin⟩ := h
  have hqr : r ≠ qa := fun e => hqa (e ▸ hr)
  have hBr : r ≠ B := fun e => hB (e ▸ hr)
  refine ⟨v, B, D, Pair.grown' X hg (fun g e => by injection e with e; omega), World.ownsRow.kept own hg (Or.inr fun e => hvP r e hr), ?_, hpl, hqa, hB, h64, hvP, fun b k => Nat.lt_of_lt_of_le (hPin b k) hg.size⟩
  obtain ⟨es, ck, hmb, F, hs⟩ := hmap
  exact ⟨es, ck, (hg.block B (Array.getElem?_eq_some_iff.1 hmb).1 (fun e => hBr (by injection e with e; exact e.symm))).trans hmb, F, hs⟩
theorem grown_setCell (w : World) (p : Addr) (v : Value) : w.grownBy (w.setCell p v) (some p.block) :=
  ⟨rfl, rfl, rfl, by simp [World.setCell], fun b _ hne => Below.heap_setCell w p v b (fun e => hne (by rw [e]))⟩

theorem heapDn_swap {q : List (Int × Int)} {m : Nat} (hl : q.length = m + 1) (hh : HeapN q q.length) (hm : 0 < m) : HeapDn (swq q 0 m) m 0 := by
  have at_ : ∀ k, ptg (swq q 0 m) k = if k = m then ptg q 0 else if k = 0 then ptg q m else ptg q k := fun k => swq_at (by omega) (by omega) k
  refine ⟨fun c c0 cl cp => ?_, fun c _ _ _ p0 => by omega⟩
  rw [at_, at_, if_neg (by omega), if_neg (by omega), if_neg (by omega), if_neg (by omega)]
  exact hh c c0 (by omega)

/-- The first item exchanged with the last one. -/
theorem swap0_any (w : World) (base : Nat → Prop) (qa : Nat) (q : List (Int × Int)) (m : Nat) (hl : q.length = m + 1) (hn : q.length ≤ 2097152) (hh : HeapN q q.length) (h : QSt w base qa q) :
    Calls Try.prog 158 #[.pointer (some ⟨qa, 0, none⟩), .int .i64 0, .int .i64 (m : Int)] w fun e w' => e = .returned (.tuple #[]) ∧ ∃ q1, q1.Perm q ∧ q1.length = m + 1 ∧ ptg q1 m = ptg q 0 ∧ HeapDn q1 m 0 ∧ QSt w' base qa q1 ∧ Kp base w w' := by
  by_cases hm : m = 0
  · subst hm
    refine (swapOne_any w base qa q 0 (by omega) (by omega) h).mono ?_
    rintro e w' ⟨rfl, h1, k1⟩
    exact ⟨rfl, q, List.Perm.refl _, hl, rfl, ⟨fun c c0 cl => by omega, fun c c0 cl => by omega⟩, h1, k1⟩
  · refine (swap_any w base qa q 0 m (by omega) (by omega) (by omega) (by omega) h).mono ?_
    rintro e w' ⟨rfl, h1, k1⟩
    exact ⟨rfl, swq q 0 m, swq_perm q (by omega) (by omega), by rw [swq_len]; exact hl, by rw [swq_at (by omega) (by omega), if_pos rfl], heapDn_swap hl hh (by omega), h1, k1⟩

theorem snoc_of {q : List (Int × Int)} {m : Nat} (hl : q.length = m + 1) : q = q.take m ++ [ptg q m] := by
  have : ptg q m = q[m]'(by omega) := by unfold ptg; simp [show m < q.length by omega]
  rw [this, ← List.take_succ_eq_append_getElem (by omega)]
  exact (List.take_of_length_le (by omega)).symm

/-- What a take leaves. -/
def TookQ (w : World) (base : Nat → Prop) (qa : Nat) (q : List (Int × Int)) (w' : World) : Prop :=
  ∃ q2, (ptg q 0 :: q2).Perm q ∧ HeapN q2 q2.length ∧ QSt w' base qa q2 ∧ Kp base w w'

set_option maxRecDepth 1000000 in
set_option maxHeartbeats 4000000 in
theorem heapPop_any (w : World) (base : Nat → Prop) (qa : Nat) (q : List (Int × Int)) (hp : 0 < q.length) (hn : q.length ≤ 1048576) (hh : HeapN q q.length) (h : QSt w base qa q) :
    Calls Try.prog 101 #[.iface 104 (.pointer (some ⟨qa, 0, none⟩))] w fun e w' => e = .returned (.iface 73 (.agg #[.int .i64 (ptg q 0).1, .int .i64 (ptg q 0).2])) ∧ TookQ w base qa q w' := by
  obtain ⟨m, hm⟩ : ∃ m, q.length = m + 1 := ⟨q.length - 1, by omega⟩
  have HN := Lib.hid (queueLen_any w base qa q h)
  have HS := Lib.hid (swap0_any w base qa q m hm (by omega) hh h)
  have hw : IntKind.i64.wrap ((q.length : Int) - 1) = m := by rw [IntWalk.i64_in _ (by omega)]; omega
  have hw2 : (q.length : Int) - 1 = m := by omega
  have m1 := mLen
  have HM := Lib.hid hm
  clear hh hm hp
  go_enter Try.func101, Try.ntmps101
  go_wp2_with fail
  refine HN.out.mono ?_; rintro e w0 ⟨rfl, rfl⟩
  clear HN m1
  have m2 := mSwap
  go_wp2_with fail
  refine HS.out.mono ?_; rintro e w1 ⟨rfl, q1, p1, l1, hl1, hd1, h1, k1⟩
  clear HS m2 h hw hw2
  have HD := Lib.hid (heapDown_zero w1 base qa q1 m (by omega) (by rw [l1, ← HM.out]; omega) hd1 h1)
  go_wp2_with fail
  refine HD.out.mono ?_; rintro e w2 ⟨bo, q2, rfl, p2, l2, hn2, hr2, h2, k2⟩
  have K2 := k1.trans k2
  have e2 : ptg q2 m = ptg q 0 := by rw [hr2 m (Nat.le_refl _), hl1]
  have l2' : q2.length = m + 1 := by omega
  have HP := Lib.hid ((p2.trans p1))
  have e3 := snoc_of l2'
  have HE := Lib.hid e2
  rw [e3, e2] at h2
  have hlt : (q2.take m).length = m := by rw [List.length_take]; omega
  have HH := Lib.hid (show HeapN (q2.take m) (q2.take m).length from fun c c0 cl => by
    rw [hlt] at cl
    have g := hn2 c c0 cl
    have a1 : ∀ k, k < m → ptg (q2.take m) k = ptg q2 k := fun k hk => by unfold ptg; simp [hk]
    rw [a1 c cl, a1 _ (by omega)]; exact g)
  have HPM := Lib.hid (show (ptg q 0 :: q2.take m).Perm q from by
    refine List.Perm.trans ?_ HP.out
    conv => rhs; rw [e3, e2]
    exact (List.perm_append_singleton _ _).symm)
  clear HD h1 k1 k2 hd1 hl1 p1 p2 l1 hn2 hr2 e2 e3 l2 HP HE l2'
  have m3 := mPop
  have HO := Lib.hid (queuePop_any w2 base qa (q2.take m) (ptg q 0).1 (ptg q 0).2 (by rw [hlt]; have := HM.out; omega) h2)
  clear hlt
  go_wp2_with fail
  refine HO.out.mono ?_; rintro e w3 ⟨rfl, h3, k3⟩
  clear m3
  go_wp2
  go_ret
  exact ⟨rfl, _, HPM.out, HH.out, h3, K2.trans k3⟩

set_option maxRecDepth 1000000 in
set_option maxHeartbeats 4000000 in
theorem take_any (w : World) (base : Nat → Prop) (qa : Nat) (q : List (Int × Int)) (hp : 0 < q.length) (hn : q.length ≤ 1048576) (hh : HeapN q q.length) (h : QSt w base qa q) :
    Calls Try.prog 81 #[.pointer (some ⟨qa, 0, none⟩)] w fun e w' => e = .returned (.agg #[.int .i64 (ptg q 0).1, .int .i64 (ptg q 0).2]) ∧ TookQ w base qa q w' := by
  have kb := below1 w (.cells #[.int .i64 0, .int .i64 0] 73)
  have P := Pair.new w 73 (.int .i64 0) (.int .i64 0)
  have hnb : ¬ base w.heap.size := fun k => by
    obtain ⟨_, _, _, -, -, -, -, -, -, -, -, hPin⟩ := h
    have := hPin _ k; omega
  have h0 := h.pinNew kb
  have HT := Lib.hid (heapPop_any _ _ qa q hp hn hh h0)
  have hta := assertItem
  clear hh h
  go_enter Try.func81, Try.ntmps81
  go_wp2_with fail
  refine HT.out.mono ?_; rintro e w1 ⟨rfl, q2, hpm, hn2, h2, k2⟩
  have hb : (fun b => base b ∨ w.heap.size ≤ b ∧ b < (w.alloc (.cells #[.int .i64 0, .int .i64 0] 73)).heap.size) w.heap.size := .inr ⟨Nat.le_refl _, by rw [World.size_alloc]; omega⟩
  have P1 : Pair w1 w.heap.size 73 (.int .i64 0) (.int .i64 0) := (k2.block w.heap.size hb (by rw [World.size_alloc]; omega)).trans P
  have HP := Lib.hid hpm
  have FIN : ∀ u v : Value, QSt ((w1.setCell ⟨w.heap.size, 0, none⟩ u).setCell ⟨w.heap.size, 1, none⟩ v) base qa q2 ∧ Kp base w ((w1.setCell ⟨w.heap.size, 0, none⟩ u).setCell ⟨w.heap.size, 1, none⟩ v) := fun u v =>
    ⟨((h2.kept hb (grown_setCell w1 ⟨w.heap.size, 0, none⟩ u)).kept hb (grown_setCell _ ⟨w.heap.size, 1, none⟩ v)).mono (fun b k => .inl k), by
      exact ((Kp.of kb : Kp base w _).trans ⟨k2.os, k2.tape, k2.output, k2.size, fun b hb' hl => k2.block b (.inl hb') hl⟩).setCell hnb u |>.setCell hnb v⟩
  clear HT h0 k2 h2
  obtain ⟨p0, p1, p2, p3⟩ := P1.cells
  go_wp2
  obtain ⟨f1, f2⟩ := FIN (.int .i64 (ptg q 0).1) (.int .i64 (ptg q 0).2)
  obtain ⟨q0, q1, -, -⟩ := ((P1.set0 (.int .i64 (ptg q 0).1)).set1 (.int .i64 (ptg q 0).2)).cells
  exact bodyPost_ret (v := .agg #[.int .i64 (ptg q 0).1, .int .i64 (ptg q 0).2]) (by simp [results, Try.results81, go_sem, q0, q1]) rfl ⟨rfl, q2, HP.out, hn2, f1, f2⟩

end Go.Proofs.Ytcaamhoakhgnhaa
