/-
  What impl.seenOf and impl.Search compute.
-/
import Derived.Test.YtcaamhoakhgnhaaSettled
namespace Go.Proofs.Ytcaamhoakhgnhaa
open Go.RowKit Go.Deep Go.Maps

/-- An order and distances of the call's own. -/
def SeenMade (w : World) (os ds : List Int) (e : Ending) (w' : World) : Prop :=
  ∃ A1 A2 c1 c2, e = .returned (.agg #[.slice A1 os.length c1, .slice A2 ds.length c2]) ∧ OwnSl w' w.heap.size 3 A1 os.length (zg os) ∧ OwnSl w' w.heap.size 3 A2 ds.length (zg ds) ∧ Parted A1 A2 os.length ds.length ∧ Below w.heap.size w w'

/-- The same with room for the order's own length. -/
def SeenCap (w : World) (os ds : List Int) (e : Ending) (w' : World) : Prop :=
  ∃ A1 A2 c1 c2, e = .returned (.agg #[.slice A1 os.length c1, .slice A2 ds.length c2]) ∧ OwnSl w' w.heap.size 3 A1 os.length (zg os) ∧ OwnSl w' w.heap.size 3 A2 ds.length (zg ds) ∧ (Parted A1 A2 os.length ds.length ∧ os.length ≤ c1) ∧ Below w.heap.size w w'
theorem SeenCap.made {w : World} {os ds : List Int} {e : Ending} {w' : World} (h : SeenCap w os ds e w') : SeenMade w os ds e w' := by
  obtain ⟨A1, A2, c1, c2, h1, h2, h3, h4, h5⟩ := h
  exact ⟨A1, A2, c1, c2, h1, h2, h3, h4.1, h5⟩

set_option maxRecDepth 100000 in
/-- A number appended to a row that is one's own. -/
theorem run_append_int {w : World} (ty : TypeId) (base : Nat) (v : Value) (n : Nat) (xs : List Value) (hown : w.ownsRow base 3 1 v n xs) (x : Int) (hn : n ≤ 1048576) (hbase : base ≤ w.heap.size) :
    ∃ v' w', (Builtin.append_ #[40, 40] ty #[v, .slice (some ⟨w.heap.size, 0, none⟩) 1 1]).run Try.prog (w.alloc (.cells #[.int .i64 x] 3)) = .ok v' w' ∧ w'.ownsRow base 3 1 v' (n + 1) (xs ++ [.int .i64 x]) ∧ (w.alloc (.cells #[.int .i64 x] 3)).grownBy w' v.ownBlock ∧ (v'.ownBlock = v.ownBlock ∨ v'.ownBlock = some (w.heap.size + 1)) := by
  obtain ⟨i0, hi, hz0, hz1, hz2⟩ := info_parts Try.infoInt
  have hb : (w.alloc (.cells #[.int .i64 x] 3)).heap[w.heap.size]? = some (.cells #[.int .i64 x] 3 (0, 0)) := heap_alloc_new w _
  obtain ⟨v', w', h1, h2, h3, -, h5⟩ := run_append_own_at (P := Try.prog) (w.alloc (.cells #[.int .i64 x] 3)) base 40 ty 3 i0 (.int .i64 0) 1 8 Try.underlying40 hi hz0 hz1 hz2 rfl (by decide) v n xs (hown.alloc _) ⟨w.heap.size, 0, none⟩ 1 1 [.int .i64 x] rfl
    (fun j u h => by
      have hj : j < 1 := by have := (List.getElem?_eq_some_iff.1 h).1; simpa using this
      obtain rfl : j = 0 := by omega
      rw [add_at, cell_of_block hb]
      simpa using h)
    (fun u h => by obtain rfl := List.mem_singleton.1 h; rfl) (by unfold maxLen; omega) (by omega) (by rw [World.size_alloc]; omega)
  exact ⟨v', w', h1, h2, h3, by rw [World.size_alloc] at h5; exact h5⟩

def idsL (L : List (Int × Int)) : List Int := L.map Prod.snd
def keysL (L : List (Int × Int)) : List Int := L.map Prod.fst
theorem ids_step {L : List (Int × Int)} {k : Nat} (hk : k < L.length) : (idsL (L.take (k + 1))).map (Value.int .i64) = (idsL (L.take k)).map (Value.int .i64) ++ [.int .i64 (ptg L k).2] := by
  rw [take_snocI L hk]; simp [idsL]
theorem keys_step {L : List (Int × Int)} {k : Nat} (hk : k < L.length) : (keysL (L.take (k + 1))).map (Value.int .i64) = (keysL (L.take k)).map (Value.int .i64) ++ [.int .i64 (ptg L k).1] := by
  rw [take_snocI L hk]; simp [keysL]
theorem ownB_map (A : Option Addr) (n c : Nat) : Value.ownBlock (.slice A n c) = A.map Addr.block := by cases A <;> rfl
theorem kept_apart {w w' : World} {base size n : Nat} {e : TypeId} {V1 V2 : Value} {xs : List Value} (h : w.ownsRow base e size V2 n xs) (hg : w.grownBy w' V1.ownBlock) (hd : ∀ g, V1.ownBlock = some g → V2.ownBlock ≠ some g) : w'.ownsRow base e size V2 n xs := by
  refine World.ownsRow.kept h hg ?_
  cases e2 : V2.ownBlock with
  | none => exact Or.inl rfl
  | some g => exact Or.inr (fun e => hd g e.symm e2)
theorem seen_cap {w w' : World} {N : Nat} {os ds : List Int} {V1 V2 : Value} (o1 : w'.ownsRow N 3 1 V1 os.length (os.map (Value.int .i64))) (o2 : w'.ownsRow N 3 1 V2 ds.length (ds.map (Value.int .i64))) (hN : w.heap.size ≤ N) (hd : ∀ g, V1.ownBlock = some g → V2.ownBlock ≠ some g) (K : Below w.heap.size w w') : SeenCap w os ds (.returned (.agg #[V1, V2])) w' := by
  obtain ⟨A1, c1, rfl, hc, h1⟩ := ownSl_of_own o1
  obtain ⟨A2, c2, rfl, -, h2⟩ := ownSl_of_own o2
  refine ⟨A1, A2, c1, c2, rfl, fun hp => ?_, fun hp => ?_, ⟨fun g e e' => ?_, hc⟩, K⟩
  · obtain ⟨g, o, a, b, c⟩ := h1 hp; exact ⟨g, o, a, by omega, c⟩
  · obtain ⟨g, o, a, b, c⟩ := h2 hp; exact ⟨g, o, a, by omega, c⟩
  · unfold blk at e e'
    split at e
    · split at e'
      · exact hd g ((ownB_map _ _ _).trans e) ((ownB_map _ _ _).trans e')
      · cases e'
    · cases e
theorem seen_end {w w' : World} {N : Nat} {os ds : List Int} {V1 V2 : Value} (o1 : w'.ownsRow N 3 1 V1 os.length (os.map (Value.int .i64))) (o2 : w'.ownsRow N 3 1 V2 ds.length (ds.map (Value.int .i64))) (hN : w.heap.size ≤ N) (hd : ∀ g, V1.ownBlock = some g → V2.ownBlock ≠ some g) (K : Below w.heap.size w w') : SeenMade w os ds (.returned (.agg #[V1, V2])) w' :=
  (seen_cap o1 o2 hN hd K).made

set_option maxRecDepth 100000 in
set_option maxHeartbeats 4000000 in
theorem seenOf_cap (A : Option Addr) (ca : Nat) (L : List (Int × Int)) (w : World) (hn : L.length ≤ 1000) (h : IsPts w A L) :
    Calls Try.prog 46 #[.slice A L.length ca] w (SeenCap w (idsL L) (keysL L)) := by
  have R := (Pair.new w 42 (.slice none 0 0) (.slice none 0 0)).alloc (.cells #[.slice none 0 0, .slice none 0 0] 42)
  have O : Pair ((w.alloc (.cells #[.slice none 0 0, .slice none 0 0] 42)).alloc (.cells #[.slice none 0 0, .slice none 0 0] 42)) (w.heap.size + 1) 42 (.slice none 0 0) (.slice none 0 0) := by
    have := Pair.new (w.alloc (.cells #[.slice none 0 0, .slice none 0 0] 42)) 42 (.slice none 0 0) (.slice none 0 0); rwa [World.size_alloc] at this
  have K := below2 w (.cells #[.slice none 0 0, .slice none 0 0] 42) (.cells #[.slice none 0 0, .slice none 0 0] 42)
  go_enter Try.func46, Try.ntmps46
  go_wp2_with fail
  go_loopw [8] (fun i wr => ∃ (k : Nat) (V1 V2 : Value), k ≤ L.length ∧ i = .int .i64 k ∧ Pair wr w.heap.size 42 (.slice none 0 0) (.slice none 0 0) ∧ Pair wr (w.heap.size + 1) 42 V1 V2 ∧ wr.ownsRow (w.heap.size + 2) 3 1 V1 k ((idsL (L.take k)).map (Value.int .i64)) ∧ wr.ownsRow (w.heap.size + 2) 3 1 V2 k ((keysL (L.take k)).map (Value.int .i64)) ∧ Hid (∀ g, V1.ownBlock = some g → V2.ownBlock ≠ some g) ∧ Below w.heap.size w wr) (fun i _ => L.length - (intOf i).toNat)
  case atStart => exact ⟨0, _, _, by omega, rfl, R, O, by simpa [idsL] using World.ownsRow_nil _ _ _ _, by simpa [keysL] using World.ownsRow_nil _ _ _ _, Lib.hid fun g e => by simp [Value.ownBlock] at e, K⟩
  case round =>
    clear R O K
    obtain ⟨k, V1, V2, hkl, rfl, R, O, o1, o2, HD, K⟩ := hrel
    by_cases hlt : k < L.length
    · obtain ⟨b, off, rfl, -, c0, c1⟩ := (h.below K).at_ hlt
      have HI := Lib.hid (ids_step hlt)
      have HJ := Lib.hid (keys_step hlt)
      generalize (ptg L k).1 = y at c0 HJ
      generalize (ptg L k).2 = x at c1 HI
      obtain ⟨A1, d1, rfl⟩ := own_form' o1
      obtain ⟨A2, d2, rfl⟩ := own_form' o2
      have hol := O.lt
      have l1 := World.ownsRow.lt o1
      have l2 := World.ownsRow.lt o2
      -- the item's copy
      have kb := below1 wr (.cells #[.int .i64 y, .int .i64 x] 73)
      have IB := Pair.new wr 73 (.int .i64 y) (.int .i64 x)
      replace R := R.below kb
      replace O := O.below kb
      replace o1 := ownsRow_below o1 kb
      replace o2 := ownsRow_below o2 kb
      replace K := K.trans (kb.mono K.size)
      clear kb
      have hs0 : (wr.alloc (.cells #[.int .i64 y, .int .i64 x] 73)).heap.size = wr.heap.size + 1 := World.size_alloc _ _
      -- the first append and its store
      have kc := below1 (wr.alloc (.cells #[.int .i64 y, .int .i64 x] 73)) (.cells #[.int .i64 x] 3)
      obtain ⟨v1, w1, hr1, p1, g1, hv1⟩ := run_append_int (w := wr.alloc (.cells #[.int .i64 y, .int .i64 x] 73)) 40 (w.heap.size + 2) _ k _ o1 x (by omega) (by omega)
      rw [← HI.out] at p1
      obtain ⟨B1, e1, rfl⟩ := own_form' p1
      have hg1s := g1.size
      rw [World.size_alloc, hs0] at hg1s
      rw [hs0] at hr1 hv1
      have m1 := World.ownsRow.lt p1
      have R1 := ((R.below kc).grownUp g1 (fun g e => by have := (l1 g e).1; omega)).far (c := w.heap.size + 1) (by omega) 0 (.slice B1 (k + 1) e1)
      have O1 := ((O.below kc).grownUp g1 (fun g e => by have := (l1 g e).1; omega)).set0 (.slice B1 (k + 1) e1)
      have IB1 := ((IB.below kc).grown' g1 (fun g e => by have := (l1 g e).2; omega)).far (c := w.heap.size + 1) (by omega) 0 (.slice B1 (k + 1) e1)
      have p1s := ownsRow_far (c := w.heap.size + 1) p1 (by omega) 0 (.slice B1 (k + 1) e1)
      have o2s := ownsRow_far (c := w.heap.size + 1) (kept_apart (ownsRow_below o2 kc) g1 HD.out) (by omega) 0 (.slice B1 (k + 1) e1)
      have K1 := ((K.trans (kc.mono K.size)).grown g1 (by have := K.size; rw [World.size_alloc]; omega) (fun g e => by have := (l1 g e).1; omega)).setCell (p := ⟨w.heap.size + 1, 0, none⟩) (by simp) (.slice B1 (k + 1) e1)
      have hsz : (w1.setCell ⟨w.heap.size + 1, 0, none⟩ (.slice B1 (k + 1) e1)).heap.size = w1.heap.size := by simp [World.setCell]
      -- the second
      have kd := below1 (w1.setCell ⟨w.heap.size + 1, 0, none⟩ (.slice B1 (k + 1) e1)) (.cells #[.int .i64 y] 3)
      obtain ⟨v2, w2, hr2, p2, g2, hv2⟩ := run_append_int (w := w1.setCell ⟨w.heap.size + 1, 0, none⟩ (.slice B1 (k + 1) e1)) 40 (w.heap.size + 2) _ k _ o2s y (by omega) (by omega)
      rw [← HJ.out] at p2
      obtain ⟨B2, e2, rfl⟩ := own_form' p2
      rw [hsz] at hr2 hv2
      have HD1 : ∀ g, Value.ownBlock (.slice A2 k d2) = some g → Value.ownBlock (.slice B1 (k + 1) e1) ≠ some g := fun g e e' => by
        rcases hv1 with hv | hv
        · exact HD.out g (hv.symm.trans e') e
        · rw [hv] at e'; injection e' with e'; have := (l2 g e).2; omega
      have R2 := ((R1.below kd).grownUp g2 (fun g e => by have := (l2 g e).1; omega)).far (c := w.heap.size + 1) (by omega) 1 (.slice B2 (k + 1) e2)
      have O2 := ((O1.below kd).grownUp g2 (fun g e => by have := (l2 g e).1; omega)).set1 (.slice B2 (k + 1) e2)
      have p1f := ownsRow_far (c := w.heap.size + 1) (kept_apart (ownsRow_below p1s kd) g2 HD1) (by omega) 1 (.slice B2 (k + 1) e2)
      have p2f := ownsRow_far (c := w.heap.size + 1) p2 (by omega) 1 (.slice B2 (k + 1) e2)
      have K2 := ((K1.trans (kd.mono K1.size)).grown g2 (by have := K1.size; rw [World.size_alloc]; omega) (fun g e => by have := (l2 g e).1; omega)).setCell (p := ⟨w.heap.size + 1, 1, none⟩) (by simp) (.slice B2 (k + 1) e2)
      have HDN := Lib.hid (show ∀ g, Value.ownBlock (.slice B1 (k + 1) e1) = some g → Value.ownBlock (.slice B2 (k + 1) e2) ≠ some g from fun g e e' => by
        have hm := (m1 g e).2
        rcases hv2 with hv | hv
        · exact HD1 g (hv.symm.trans e') e
        · rw [hv] at e'; injection e' with e'; omega)
      obtain ⟨o0, -, f0, -⟩ := ((O.below kc).grownUp g1 (fun g e => by have := (l1 g e).1; omega)).cells
      obtain ⟨i0, i1, -, -⟩ := IB.cells
      obtain ⟨-, oq1, -, -⟩ := O1.cells
      obtain ⟨j0, j1, -, -⟩ := IB1.cells
      obtain ⟨-, -, -, f1⟩ := ((O1.below kd).grownUp g2 (fun g e => by have := (l2 g e).1; omega)).cells
      obtain ⟨u0, u1, -, -⟩ := ((O1.below kd).grownUp g2 (fun g e => by have := (l2 g e).1; omega)).cells
      obtain ⟨oc0, -, -, -⟩ := O.cells
      clear R O o1 o2 K R1 O1 IB IB1 p1 p1s o2s K1 g1 g2 kc kd l1 l2 m1 p2 hv1 hv2 HD1 hsz hs0 hg1s
      go_wp2_with (at_builtin; first | (refine Lib.wpList_append_run _ rfl _ _ _ _ rfl _ _ rfl rfl _ _ hr1 ?_) | (refine Lib.wpList_append_run _ rfl _ _ _ _ rfl _ _ rfl rfl _ _ hr2 ?_))
      go_roundw
      case rel => exact ⟨k + 1, _, _, by omega, by go_num, R2, O2, p1f, p2f, HDN, K2⟩
      case measure => simp [intOf]; omega
    · obtain rfl : k = L.length := by omega
      rw [List.take_length] at o1 o2
      obtain ⟨A1, d1, rfl⟩ := own_form' o1
      obtain ⟨A2, d2, rfl⟩ := own_form' o2
      obtain ⟨r0, r1, r2, r3⟩ := R.cells
      obtain ⟨o0, o3, -, -⟩ := O.cells
      have hlO := World.ownsRow.lt o1
      have hlP := World.ownsRow.lt o2
      have p1 := ownsRow_far (c := w.heap.size) (ownsRow_far (c := w.heap.size) o1 (by omega) 0 (.slice A1 L.length d1)) (by omega) 1 (.slice A2 L.length d2)
      have p2 := ownsRow_far (c := w.heap.size) (ownsRow_far (c := w.heap.size) o2 (by omega) 0 (.slice A1 L.length d1)) (by omega) 1 (.slice A2 L.length d2)
      have KF := (K.setCell (p := ⟨w.heap.size, 0, none⟩) (by simp) (.slice A1 L.length d1)).setCell (p := ⟨w.heap.size, 1, none⟩) (by simp) (.slice A2 L.length d2)
      have HE := Lib.hid (seen_cap (os := idsL L) (ds := keysL L) (by rw [show (idsL L).length = L.length by simp [idsL]]; exact p1) (by rw [show (keysL L).length = L.length by simp [keysL]]; exact p2) (by omega) HD.out KF)
      obtain ⟨s0, s1, -, -⟩ := ((R.set0 (.slice A1 L.length d1)).set1 (.slice A2 L.length d2)).cells
      clear o1 o2 K R O p1 p2 KF hlO hlP
      go_wp2
      exact bodyPost_ret (v := .agg #[.slice A1 L.length d1, .slice A2 L.length d2]) (by simp [results, Try.results46, go_sem, s0, s1]) rfl HE.out

theorem seenOf_any (A : Option Addr) (ca : Nat) (L : List (Int × Int)) (w : World) (hn : L.length ≤ 1000) (h : IsPts w A L) :
    Calls Try.prog 46 #[.slice A L.length ca] w (SeenMade w (idsL L) (keysL L)) :=
  (seenOf_cap A ca L w hn h).mono fun _ _ h => h.made

end Go.Proofs.Ytcaamhoakhgnhaa
