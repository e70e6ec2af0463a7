/-
  What spec.NetText and impl.NetText compute: the text of a network.
-/
import Derived.Test.YtjaifbbkfgfdeaaDoorBuilderD
import Derived.Test.YtjaifbbkfgfdeaaDoorNetOkI
import Derived.Deep.RegionHeld3
namespace Go.Proofs.YtjaifbbkfgfdeaaDoor
open Go.RowKit Go.Deep

/-- The line of a node, of an arc; the text of a network. -/
def nodeL (p : Int × Int) : List UInt8 := lineB [110, 111, 100, 101] [p.1, p.2]
def arcL (a : Int × Int × Int) : List UInt8 := lineB [97, 114, 99] [a.1, a.2.1, a.2.2]
def nodesL (ps : List (Int × Int)) (k : Nat) : List UInt8 := (ps.take k).flatMap nodeL
def arcsL (rs : List (Int × Int × Int)) (k : Nat) : List UInt8 := (rs.take k).flatMap arcL
def netL (ps : List (Int × Int)) (rs : List (Int × Int × Int)) : List UInt8 := ps.flatMap nodeL ++ rs.flatMap arcL
theorem nodesL_succ {ps : List (Int × Int)} {k : Nat} (h : k < ps.length) : nodesL ps (k + 1) = nodesL ps k ++ nodeL (ptg ps k) := by
  unfold nodesL
  rw [List.take_succ_eq_append_getElem h, List.flatMap_append]
  simp [ptg, h]
theorem arcsL_succ {rs : List (Int × Int × Int)} {k : Nat} (h : k < rs.length) : arcsL rs (k + 1) = arcsL rs k ++ arcL (arg rs k) := by
  unfold arcsL
  rw [List.take_succ_eq_append_getElem h, List.flatMap_append]
  simp [arg, h]
theorem netB_in64 {ps : List (Int × Int)} {rs : List (Int × Int × Int)} (h : netB ps rs = true) : (∀ i, i < ps.length → In64 (ptg ps i).1 ∧ In64 (ptg ps i).2) ∧ ∀ i, i < rs.length → In64 (arg rs i).1 ∧ In64 (arg rs i).2.1 ∧ In64 (arg rs i).2.2 := by
  obtain ⟨h20, -, h3, h4⟩ := netB_iff.1 h
  refine ⟨fun i hi => ?_, fun i hi => ?_⟩
  · have := ptB_true (h3 i hi)
    unfold In64; omega
  · obtain ⟨g1, g2, -, g4⟩ := arcB_parts.1 (h4 i hi).1
    have := btB_iff.1 g1
    have := btB_iff.1 g2
    have := btB_iff.1 g4
    unfold In64; omega
theorem nums_in2 {a b : Int} (h1 : In64 a) (h2 : In64 b) : ∀ z ∈ [a, b], In64 z := by
  intro z hz
  rcases List.mem_cons.1 hz with rfl | hz
  · exact h1
  · rcases List.mem_cons.1 hz with rfl | hz
    · exact h2
    · cases hz
theorem nums_in3 {a b c : Int} (h1 : In64 a) (h2 : In64 b) (h3 : In64 c) : ∀ z ∈ [a, b, c], In64 z := by
  intro z hz
  rcases List.mem_cons.1 hz with rfl | hz
  · exact h1
  · exact nums_in2 h2 h3 z hz
theorem line_len (word : List UInt8) (zs : List Int) (hw : word.length ≤ 4) (hz : zs.length ≤ 3) (h : ∀ z ∈ zs, In64 z) : (lineB word zs).length ≤ 70 := by
  have := numsB_len zs h
  unfold lineB
  simp only [List.length_append, List.length_cons, List.length_nil]
  omega
theorem nodesL_len {ps : List (Int × Int)} (h : ∀ i, i < ps.length → In64 (ptg ps i).1 ∧ In64 (ptg ps i).2) : ∀ k, k ≤ ps.length → (nodesL ps k).length ≤ k * 70
  | 0, _ => by simp [nodesL]
  | k + 1, hk => by
    rw [nodesL_succ (by omega), List.length_append]
    have h1 := nodesL_len h k (by omega)
    have h2 := line_len [110, 111, 100, 101] [(ptg ps k).1, (ptg ps k).2] (by simp) (by simp) (nums_in2 (h k (by omega)).1 (h k (by omega)).2)
    unfold nodeL; omega
theorem arcsL_len {rs : List (Int × Int × Int)} (h : ∀ i, i < rs.length → In64 (arg rs i).1 ∧ In64 (arg rs i).2.1 ∧ In64 (arg rs i).2.2) : ∀ k, k ≤ rs.length → (arcsL rs k).length ≤ k * 70
  | 0, _ => by simp [arcsL]
  | k + 1, hk => by
    rw [arcsL_succ (by omega), List.length_append]
    have h1 := arcsL_len h k (by omega)
    have hh := h k (by omega)
    have h2 := line_len [97, 114, 99] [(arg rs k).1, (arg rs k).2.1, (arg rs k).2.2] (by simp) (by simp) (nums_in3 hh.1 hh.2.1 hh.2.2)
    unfold arcL; omega
theorem strCells_tx (l : List UInt8) : Lib.strCells (tx l) = bcells l := by unfold Lib.strCells bcells; rw [tx_data]
theorem bcells_append (a b : List UInt8) : bcells (a ++ b) = bcells a ++ bcells b := List.map_append
theorem bcells_len (a : List UInt8) : (bcells a).length = a.length := List.length_map _
/-- Cells of a literal slice of two, of three numbers. -/
theorem two_new (w : World) (a b : Int) (t : TypeId) : IntsAt (w.alloc (.cells #[.int .i64 a, .int .i64 b] t)) w.heap.size 0 [a, b] := by
  intro i hi
  match i, hi with
  | 0, _ => rw [cell_of_block (heap_alloc_new w _)]; rfl
  | 1, _ => rw [cell_of_block (heap_alloc_new w _)]; rfl
theorem three_new (w : World) (a b c : Int) (t : TypeId) : IntsAt (w.alloc (.cells #[.int .i64 a, .int .i64 b, .int .i64 c] t)) w.heap.size 0 [a, b, c] := by
  intro i hi
  match i, hi with
  | 0, _ => rw [cell_of_block (heap_alloc_new w _)]; rfl
  | 1, _ => rw [cell_of_block (heap_alloc_new w _)]; rfl
  | 2, _ => rw [cell_of_block (heap_alloc_new w _)]; rfl
/-- The text that NetText answers: none where the network is not valid. -/
def netTx (ps : List (Int × Int)) (rs : List (Int × Int × Int)) : List UInt8 := if netB ps rs = true then netL ps rs else []
theorem ownsRowB_base {w : World} {base base' : Nat} {e : TypeId} {size : Nat} {v : Value} {n : Nat} {xs : List Value} (h : w.ownsRow base e size v n xs) (hb : base' ≤ base) : w.ownsRow base' e size v n xs := by
  refine ⟨h.1, ?_⟩
  rcases h.2 with h | ⟨g, cap, cur, h1, h2, h3⟩
  · exact .inl h
  · exact .inr ⟨g, cap, cur, h1, Nat.le_trans hb h2, h3⟩
theorem ownsRowB_below {w w' : World} {base : Nat} {e : TypeId} {size : Nat} {v : Value} {n : Nat} {xs : List Value} (h : w.ownsRow base e size v n xs) (hb : Below w.heap.size w w') : w'.ownsRow base e size v n xs := by
  refine ⟨h.1, ?_⟩
  rcases h.2 with h | ⟨g, cap, cur, h1, h2, h3, h4⟩
  · exact .inl h
  · exact .inr ⟨g, cap, cur, h1, h2, (hb.block g (Array.getElem?_eq_some_iff.1 h3).1).trans h3, h4⟩
theorem ownsRowB_block {w : World} {base : Nat} {e : TypeId} {size : Nat} {v : Value} {n : Nat} {xs : List Value} (h : w.ownsRow base e size v n xs) : ∀ g, v.ownBlock = some g → base ≤ g := fun g hg => (World.ownsRow.lt h g hg).1

/-- append of a text onto a row of the call's own, as one step of a region that draws. -/
theorem step_append_own_string {P : Program} {w : World} {ops : Array Oper} {o : Oper} {a : Act} {K : Act → World → Prop} {Q : Exit → Act → World → Prop} {E : Prop} (hgd : o.guard = none) (sl x : Operand) (t u : TypeId)
    (ho : o.op = .call { callee := .builtin .append, args := #[sl, x], argTypes := #[t, u] })
    (base : Nat) (e : TypeId) (i : TypeInfo) (ht : P.underlying t = some (.slice e)) (hu : P.underlying u = some .string) (hi : P.info? e = some i) (hz : i.zero = some (.int .u8 0))
    (hsize : i.size = 1) (hby : i.bytes = 1)
    (v : Value) (n : Nat) (xs : List Value) (hs : a.eval sl = v) (hown : w.ownsRow base e 1 v n xs) (s : ByteArray) (hx : a.eval x = .string s)
    (h63 : n + s.size ≤ maxLen) (hbytes : n + s.size ≤ 140737488355328) (hbase : base ≤ w.heap.size)
    (h : ∀ v' w', w'.ownsRow base e 1 v' (n + s.size) (xs ++ Lib.strCells s) → w.grownBy w' v.ownBlock → (v' = .slice none 0 0 ↔ v = .slice none 0 0 ∧ s.size = 0) → K (a.put o.dst v') w') :
    if Region.wanted o (yielded ops a.tmps) = true then Oper.wp P o a w K Q else E := by
  have hw : Region.wanted o (yielded ops a.tmps) = true := by simp [Region.wanted, hgd]
  rw [if_pos hw]
  obtain ⟨v', w', hr, h2, h3, h4⟩ := Lib.run_append_own_string (P := P) w base t u o.type e i ht hu hi hz hsize hby v n xs hown s h63 hbytes hbase
  unfold Oper.wp execOp
  simp only [ho, resolve, invoke, builtin, Sem.run_bind, Sem.run_pure, Result.andThen_ok, List.map_toArray, List.map_cons, List.map_nil, hs, hx, hr]
  exact h v' w' h2 h3 h4
/-- What a round reads: the network's box, the point (the arc) at hand. -/
abbrev TxP (base : World) (xb : Nat) (u v : Value) (b o : Nat) (x y : Int) (w : World) : Prop :=
  w.cell? ⟨xb, 0, none⟩ = some u ∧ w.cell? ⟨xb, 1, none⟩ = some v ∧ w.cell? ⟨b, o, none⟩ = some (.int .i64 x) ∧ w.cell? ⟨b, o + 1, none⟩ = some (.int .i64 y) ∧ Below base.heap.size base w
abbrev TxA (base : World) (xb : Nat) (u v : Value) (b o : Nat) (x y z : Int) (w : World) : Prop :=
  w.cell? ⟨xb, 0, none⟩ = some u ∧ w.cell? ⟨xb, 1, none⟩ = some v ∧ w.cell? ⟨b, o, none⟩ = some (.int .i64 x) ∧ w.cell? ⟨b, o + 1, none⟩ = some (.int .i64 y) ∧ w.cell? ⟨b, o + 2, none⟩ = some (.int .i64 z) ∧ Below base.heap.size base w
theorem cell_grown {w w' : World} {r : Option Nat} {b i : Nat} {v : Value} (hg : w.grownBy w' r) (h : w.cell? ⟨b, i, none⟩ = some v) (hr : r ≠ some b) : w'.cell? ⟨b, i, none⟩ = some v := by
  have hb : b < w.heap.size := by simpa using World.block_lt_of_cell? w _ h
  exact (World.cell?_of_block (w := w) (a := ⟨b, i, none⟩) (hg.block b hb (fun e => hr e.symm))).trans h
section
variable {base w w' : World} {xb : Nat} {u v : Value} {b o : Nat} {x y z : Int}
theorem TxP.under (hb : Below w.heap.size w w') (h : TxP base xb u v b o x y w) : TxP base xb u v b o x y w' := ⟨cell_under hb h.1, cell_under hb h.2.1, cell_under hb h.2.2.1, cell_under hb h.2.2.2.1, h.2.2.2.2.trans (hb.mono h.2.2.2.2.size)⟩
theorem TxP.drew (h : TxP base xb u v b o x y w) : TxP base xb u v b o x y w.drew := ⟨h.1, h.2.1, h.2.2.1, h.2.2.2.1, h.2.2.2.2.drew⟩
theorem TxP.grown {r : Option Nat} (hg : w.grownBy w' r) (hr : ∀ g, r = some g → xb < g ∧ b < g ∧ base.heap.size ≤ g) (h : TxP base xb u v b o x y w) : TxP base xb u v b o x y w' :=
  ⟨cell_grown hg h.1 (fun e => by have := hr _ e; omega), cell_grown hg h.2.1 (fun e => by have := hr _ e; omega), cell_grown hg h.2.2.1 (fun e => by have := hr _ e; omega), cell_grown hg h.2.2.2.1 (fun e => by have := hr _ e; omega), h.2.2.2.2.grown hg h.2.2.2.2.size (fun g e => (hr g e).2.2)⟩
theorem TxA.under (hb : Below w.heap.size w w') (h : TxA base xb u v b o x y z w) : TxA base xb u v b o x y z w' := ⟨cell_under hb h.1, cell_under hb h.2.1, cell_under hb h.2.2.1, cell_under hb h.2.2.2.1, cell_under hb h.2.2.2.2.1, h.2.2.2.2.2.trans (hb.mono h.2.2.2.2.2.size)⟩
theorem TxA.drew (h : TxA base xb u v b o x y z w) : TxA base xb u v b o x y z w.drew := ⟨h.1, h.2.1, h.2.2.1, h.2.2.2.1, h.2.2.2.2.1, h.2.2.2.2.2.drew⟩
theorem TxA.grown {r : Option Nat} (hg : w.grownBy w' r) (hr : ∀ g, r = some g → xb < g ∧ b < g ∧ base.heap.size ≤ g) (h : TxA base xb u v b o x y z w) : TxA base xb u v b o x y z w' :=
  ⟨cell_grown hg h.1 (fun e => by have := hr _ e; omega), cell_grown hg h.2.1 (fun e => by have := hr _ e; omega), cell_grown hg h.2.2.1 (fun e => by have := hr _ e; omega), cell_grown hg h.2.2.2.1 (fun e => by have := hr _ e; omega), cell_grown hg h.2.2.2.2.1 (fun e => by have := hr _ e; omega), h.2.2.2.2.2.grown hg h.2.2.2.2.2.size (fun g e => (hr g e).2.2)⟩
end

set_option maxHeartbeats 1000000 in
theorem specNetText_no (A B : Option Addr) (ca cb : Nat) (ps : List (Int × Int)) (rs : List (Int × Int × Int)) (w : World) (hn : ps.length ≤ 1048576) (hm : rs.length ≤ 1048576) (ha : IsPts w A ps) (hb : IsArcs w B rs) (hok : netB ps rs = false) :
    Calls Tryd.prog 8 #[.agg #[.slice A ps.length ca, .slice B rs.length cb]] w fun e w' => e = .returned (.string (tx [])) ∧ Below w.heap.size w w' := by
  have K := below1 w (.cells #[.slice A ps.length ca, .slice B rs.length cb] 27)
  go_enter Tryd.func8, Tryd.ntmps8
  go_wp2_with fail
  refine (specNetOk_any A B ca cb ps rs _ hn hm (ha.below K) (hb.below K)).mono ?_; rintro e w1 ⟨rfl, b1⟩
  replace K := K.trans (b1.mono K.size)
  go_wp2
  go_ret
  exact ⟨rfl, K⟩
set_option maxHeartbeats 1000000 in
theorem implNetText_no (A B : Option Addr) (ca cb : Nat) (ps : List (Int × Int)) (rs : List (Int × Int × Int)) (w : World) (hn : ps.length ≤ 1048576) (hm : rs.length ≤ 1048576) (ha : IsPts w A ps) (hb : IsArcs w B rs) (hok : netB ps rs = false) :
    Calls Tryd.prog 7 #[.agg #[.slice A ps.length ca, .slice B rs.length cb]] w fun e w' => e = .returned (.string (tx [])) ∧ Below w.heap.size w w' := by
  have K := below1 w (.cells #[.slice A ps.length ca, .slice B rs.length cb] 27)
  go_enter Tryd.func7, Tryd.ntmps7
  go_wp2_with fail
  refine (implNetOk_any A B ca cb ps rs _ hn hm (ha.below K) (hb.below K)).mono ?_; rintro e w1 ⟨rfl, b1⟩
  replace K := K.trans (b1.mono K.size)
  go_wp2
  go_ret
  exact ⟨rfl, K⟩

set_option maxHeartbeats 2000000 in
set_option maxRecDepth 100000 in
theorem specNetText_yes (A B : Option Addr) (ca cb : Nat) (ps : List (Int × Int)) (rs : List (Int × Int × Int)) (w : World) (hn : ps.length ≤ 1048576) (hm : rs.length ≤ 1048576) (ha : IsPts w A ps) (hb : IsArcs w B rs) (hok : netB ps rs = true) :
    Calls Tryd.prog 8 #[.agg #[.slice A ps.length ca, .slice B rs.length cb]] w fun e w' => e = .returned (.string (tx (netL ps rs))) ∧ Below w.heap.size w w' := by
  obtain ⟨i0, hi, hz0, hz1, hz2⟩ := info_parts Tryd.infoByte
  have X := Pair.new w 27 (.slice A ps.length ca) (.slice B rs.length cb)
  have K := below1 w (.cells #[.slice A ps.length ca, .slice B rs.length cb] 27)
  obtain ⟨h20, h70, -, -⟩ := netB_iff.1 hok
  obtain ⟨hp64, hr64⟩ := netB_in64 hok
  have HP := Lib.hid hp64
  have HR := Lib.hid hr64
  clear hp64 hr64
  have HA := Lib.hid (show ∀ b off, 0 < ps.length → A = some ⟨b, off, none⟩ → b < w.heap.size from fun b off hp e => by obtain ⟨b', off', e', hl, -⟩ := ha hp; rw [e] at e'; injection e' with e'; injection e' with e1 e2; omega)
  have HB := Lib.hid (show ∀ b off, 0 < rs.length → B = some ⟨b, off, none⟩ → b < w.heap.size from fun b off hp e => by obtain ⟨b', off', e', hl, -⟩ := hb hp; rw [e] at e'; injection e' with e'; injection e' with e1 e2; omega)
  go_enter Tryd.func8, Tryd.ntmps8
  go_wp2_with fail
  refine (specNetOk_any A B ca cb ps rs _ hn hm (ha.below K) (hb.below K)).mono ?_; rintro e w1 ⟨rfl, b1⟩
  replace X := X.below b1
  replace K := K.trans (b1.mono K.size)
  clear b1
  have xl := X.lt
  have O := World.ownsRow_made (e := 5) (size := 1) (base := w.heap.size + 1) w1 #[] 0 (by omega) (Nat.zero_le _) rfl
  replace X := X.alloc (.cells #[] 5)
  replace K := K.alloc K.size (.cells #[] 5)
  go_wp2
  go_loopw [3, 4] (fun v i wr => ∃ k : Nat, k ≤ ps.length ∧ i = .int .i64 k ∧ Pair wr w.heap.size 27 (.slice A ps.length ca) (.slice B rs.length cb) ∧ ¬ v = .slice none 0 0 ∧ wr.ownsRow (w.heap.size + 1) 5 1 v (nodesL ps k).length (bcells (nodesL ps k)) ∧ Below w.heap.size w wr) (fun _ i _ => ps.length - (intOf i).toNat)
  case atStart => exact ⟨0, by omega, rfl, X, by simp, O, K⟩
  case round =>
    clear X K O
    obtain ⟨k, hk, rfl, X, hv, own, K⟩ := hrel
    obtain ⟨x0, x1, -, -⟩ := X.cells
    by_cases hlt : k < ps.length
    · obtain ⟨b, off, rfl, hbl, c0, c1⟩ := (ha.below K).at_ hlt
      have hbs : b < w.heap.size := HA.out _ _ (by omega) rfl
      have HIN := Lib.hid (nums_in2 (HP.out k hlt).1 (HP.out k hlt).2)
      have hnl : (tx (numsB [(ptg ps k).1, (ptg ps k).2])).size ≤ 63 := by rw [tx_size]; have := numsB_len [(ptg ps k).1, (ptg ps k).2] HIN.out; simp only [List.length_cons, List.length_nil] at this; omega
      have HX := Lib.hid (show (⟨#[110, 111, 100, 101]⟩ : ByteArray) ++ tx (numsB [(ptg ps k).1, (ptg ps k).2]) ++ ⟨#[10]⟩ = tx (nodeL (ptg ps k)) by unfold nodeL lineB; rw [← tx_append, ← tx_append]; rfl)
      have hll : (tx (nodeL (ptg ps k))).size ≤ 70 := by rw [tx_size]; exact line_len _ _ (by simp) (by simp) HIN.out
      have hal : (nodesL ps k).length ≤ 1400 := by have := nodesL_len HP.out k hk; omega
      have HST := Lib.hid (nodesL_succ hlt)
      have hs1 : ¬ 9223372036854775807 < 4 + (tx (numsB [(ptg ps k).1, (ptg ps k).2])).size := by omega
      have hs2 : ¬ 9223372036854775807 < 4 + (tx (numsB [(ptg ps k).1, (ptg ps k).2])).size + 1 := by omega
      have xl := X.lt
      have U : TxP w w.heap.size (.slice (some ⟨b, off, none⟩) ps.length ca) (.slice B rs.length cb) b (off + k * 2) (ptg ps k).1 (ptg ps k).2 wr := ⟨x0, x1, c0, c1, K⟩
      have own0 : (wr.alloc (.cells #[.int .i64 (ptg ps k).1, .int .i64 (ptg ps k).2] 3)).drew.ownsRow (w.heap.size + 1) 5 1 _ (nodesL ps k).length (bcells (nodesL ps k)) := ownsRowB_below own (below1 wr (.cells #[.int .i64 (ptg ps k).1, .int .i64 (ptg ps k).2] 3)).drew
      have X0 : Pair (wr.alloc (.cells #[.int .i64 (ptg ps k).1, .int .i64 (ptg ps k).2] 3)).drew w.heap.size 27 (.slice (some ⟨b, off, none⟩) ps.length ca) (.slice B rs.length cb) := X.below (below1 wr (.cells #[.int .i64 (ptg ps k).1, .int .i64 (ptg ps k).2] 3)).drew
      have I : IntsAt (wr.alloc (.cells #[.int .i64 (ptg ps k).1, .int .i64 (ptg ps k).2] 3)).drew wr.heap.size 0 [(ptg ps k).1, (ptg ps k).2] := two_new wr (ptg ps k).1 (ptg ps k).2 _
      have HI := Lib.hid I
      clear I
      clear x0 x1 K c0 c1
      have q3 : (nodesL ps k).length + (tx (nodeL (ptg ps k))).size ≤ maxLen := by unfold maxLen; omega
      have q4 : (nodesL ps k).length + (tx (nodeL (ptg ps k))).size ≤ 140737488355328 := by omega
      have hbk := ownsRowB_block own
      have HBK := Lib.hid hbk
      have HQ3 := Lib.hid q3
      have HQ4 := Lib.hid q4
      clear hbk q3 q4
      go_wp2_with fail
      go_region_held3 (fun w' => TxP w w.heap.size (.slice (some ⟨b, off, none⟩) ps.length ca) (.slice B rs.length cb) b (off + k * 2) (ptg ps k).1 (ptg ps k).2 w') (first | exact TxP.drew U | exact TxP.drew (TxP.under (below1 _ _) U) | assumption | (refine TxP.under (by assumption) ?_; assumption))
        (first
          | (refine step_append_own_string rfl (.tmp 17) (.tmp 33) 22 9 rfl (w.heap.size + 1) 5 i0 Tryd.underlying22 Tryd.underlying9 hi hz0 hz1 hz2 _ _ _ rfl own5 (tx (nodeL (ptg ps k))) (congrArg Value.string HX.out) HQ3.out HQ4.out (by omega) ?_; intro v' w6 own6 g6 hnn; have S6 : TxP w w.heap.size (.slice (some ⟨b, off, none⟩) ps.length ca) (.slice B rs.length cb) b (off + k * 2) (ptg ps k).1 (ptg ps k).2 w6 := TxP.grown g6 (fun g e => by have := HBK.out g e; omega) (by assumption))
          | (go_at_call 23; refine (l03Nums_any _ _ _ [(ptg ps k).1, (ptg ps k).2] _ (by simp) HI.out HIN.out).mono ?_; rintro e w5 ⟨rfl, b5⟩; have hw5 : wr.heap.size + 1 ≤ w5.heap.size := (by have := b5.size; rwa [show (wr.alloc (.cells #[.int .i64 (ptg ps k).1, .int .i64 (ptg ps k).2] 3)).drew.heap.size = wr.heap.size + 1 from World.size_alloc _ _] at this); have own5 := ownsRowB_below own0 b5; have X5 := X0.below b5))
      rename_i hU
      obtain ⟨-, -, -, -, K⟩ := hU
      have hv' : ¬ v' = .slice none 0 0 := fun e => hv (hnn.1 e).1
      replace X : Pair w6 w.heap.size 27 (.slice (some ⟨b, off, none⟩) ps.length ca) (.slice B rs.length cb) := (g6.block _ X5.lt (fun e => by have := HBK.out _ e.symm; omega)).trans X5
      replace own6 : w6.ownsRow (w.heap.size + 1) 5 1 v' (nodesL ps (k + 1)).length (bcells (nodesL ps (k + 1))) := by rw [HST.out, bcells_append, List.length_append, ← strCells_tx (nodeL (ptg ps k)), ← tx_size (nodeL (ptg ps k))]; exact own6
      clear g6 HBK own own0 X0 own5 X5 S6 b5 hnn U
      go_wp2
      go_roundw
      case rel => exact ⟨k + 1, by omega, by go_num, X, hv', own6, K⟩
      case measure => simp [intOf]; omega
    · obtain rfl : k = ps.length := by omega
      clear hlt hk
      go_wp2
      clear x0 x1
      go_loopw [3, 5] (fun v i wr => ∃ k : Nat, k ≤ rs.length ∧ i = .int .i64 k ∧ Pair wr w.heap.size 27 (.slice A ps.length ca) (.slice B rs.length cb) ∧ ¬ v = .slice none 0 0 ∧ wr.ownsRow (w.heap.size + 1) 5 1 v (nodesL ps ps.length ++ arcsL rs k).length (bcells (nodesL ps ps.length ++ arcsL rs k)) ∧ Below w.heap.size w wr) (fun _ i _ => rs.length - (intOf i).toNat)
      case atStart => exact ⟨0, by omega, rfl, X, hv, by simpa [arcsL] using own, K⟩
      case round =>
        clear X K own hv
        obtain ⟨k, hk, rfl, X, hv, own, K⟩ := hrel
        obtain ⟨x0, x1, -, -⟩ := X.cells
        by_cases hlt : k < rs.length
        · obtain ⟨b, off, rfl, hbl, c0, c1, c2⟩ := (hb.below K).at_ hlt
          have hbs : b < w.heap.size := HB.out _ _ (by omega) rfl
          have HIN := Lib.hid (nums_in3 (HR.out k hlt).1 (HR.out k hlt).2.1 (HR.out k hlt).2.2)
          have hnl : (tx (numsB [(arg rs k).1, (arg rs k).2.1, (arg rs k).2.2])).size ≤ 63 := by rw [tx_size]; have := numsB_len [(arg rs k).1, (arg rs k).2.1, (arg rs k).2.2] HIN.out; simp only [List.length_cons, List.length_nil] at this; omega
          have HX := Lib.hid (show (⟨#[97, 114, 99]⟩ : ByteArray) ++ tx (numsB [(arg rs k).1, (arg rs k).2.1, (arg rs k).2.2]) ++ ⟨#[10]⟩ = tx (arcL (arg rs k)) by unfold arcL lineB; rw [← tx_append, ← tx_append]; rfl)
          have hll : (tx (arcL (arg rs k))).size ≤ 70 := by rw [tx_size]; exact line_len _ _ (by simp) (by simp) HIN.out
          have hal : (nodesL ps ps.length ++ arcsL rs k).length ≤ 6400 := by rw [List.length_append]; have := nodesL_len HP.out ps.length (Nat.le_refl _); have := arcsL_len HR.out k hk; omega
          have HST := Lib.hid (show nodesL ps ps.length ++ arcsL rs (k + 1) = nodesL ps ps.length ++ arcsL rs k ++ arcL (arg rs k) by rw [arcsL_succ hlt, List.append_assoc])
          have hs1 : ¬ 9223372036854775807 < 3 + (tx (numsB [(arg rs k).1, (arg rs k).2.1, (arg rs k).2.2])).size := by omega
          have hs2 : ¬ 9223372036854775807 < 3 + (tx (numsB [(arg rs k).1, (arg rs k).2.1, (arg rs k).2.2])).size + 1 := by omega
          have xl := X.lt
          have U : TxA w w.heap.size (.slice A ps.length ca) (.slice (some ⟨b, off, none⟩) rs.length cb) b (off + k * 3) (arg rs k).1 (arg rs k).2.1 (arg rs k).2.2 wr := ⟨x0, x1, c0, c1, c2, K⟩
          have own0 : (wr.alloc (.cells #[.int .i64 (arg rs k).1, .int .i64 (arg rs k).2.1, .int .i64 (arg rs k).2.2] 3)).drew.ownsRow (w.heap.size + 1) 5 1 _ (nodesL ps ps.length ++ arcsL rs k).length (bcells (nodesL ps ps.length ++ arcsL rs k)) := ownsRowB_below own (below1 wr (.cells #[.int .i64 (arg rs k).1, .int .i64 (arg rs k).2.1, .int .i64 (arg rs k).2.2] 3)).drew
          have X0 : Pair (wr.alloc (.cells #[.int .i64 (arg rs k).1, .int .i64 (arg rs k).2.1, .int .i64 (arg rs k).2.2] 3)).drew w.heap.size 27 (.slice A ps.length ca) (.slice (some ⟨b, off, none⟩) rs.length cb) := X.below (below1 wr (.cells #[.int .i64 (arg rs k).1, .int .i64 (arg rs k).2.1, .int .i64 (arg rs k).2.2] 3)).drew
          have I : IntsAt (wr.alloc (.cells #[.int .i64 (arg rs k).1, .int .i64 (arg rs k).2.1, .int .i64 (arg rs k).2.2] 3)).drew wr.heap.size 0 [(arg rs k).1, (arg rs k).2.1, (arg rs k).2.2] := three_new wr (arg rs k).1 (arg rs k).2.1 (arg rs k).2.2 _
          have HI := Lib.hid I
          clear I
          clear x0 x1 K c0 c1 c2
          have q3 : (nodesL ps ps.length ++ arcsL rs k).length + (tx (arcL (arg rs k))).size ≤ maxLen := by unfold maxLen; omega
          have q4 : (nodesL ps ps.length ++ arcsL rs k).length + (tx (arcL (arg rs k))).size ≤ 140737488355328 := by omega
          have hbk := ownsRowB_block own
          have HBK := Lib.hid hbk
          have HQ3 := Lib.hid q3
          have HQ4 := Lib.hid q4
          clear hbk q3 q4
          go_wp2_with fail
          go_region_held3 (fun w' => TxA w w.heap.size (.slice A ps.length ca) (.slice (some ⟨b, off, none⟩) rs.length cb) b (off + k * 3) (arg rs k).1 (arg rs k).2.1 (arg rs k).2.2 w') (first | exact TxA.drew U | exact TxA.drew (TxA.under (below1 _ _) U) | assumption | (refine TxA.under (by assumption) ?_; assumption))
            (first
              | (refine step_append_own_string rfl (.tmp 42) (.tmp 64) 22 9 rfl (w.heap.size + 1) 5 i0 Tryd.underlying22 Tryd.underlying9 hi hz0 hz1 hz2 _ _ _ rfl own5 (tx (arcL (arg rs k))) (congrArg Value.string HX.out) HQ3.out HQ4.out (by omega) ?_; intro v' w6 own6 g6 hnn; have S6 : TxA w w.heap.size (.slice A ps.length ca) (.slice (some ⟨b, off, none⟩) rs.length cb) b (off + k * 3) (arg rs k).1 (arg rs k).2.1 (arg rs k).2.2 w6 := TxA.grown g6 (fun g e => by have := HBK.out g e; omega) (by assumption))
              | (go_at_call 23; refine (l03Nums_any _ _ _ [(arg rs k).1, (arg rs k).2.1, (arg rs k).2.2] _ (by simp) HI.out HIN.out).mono ?_; rintro e w5 ⟨rfl, b5⟩; have hw5 : wr.heap.size + 1 ≤ w5.heap.size := (by have := b5.size; rwa [show (wr.alloc (.cells #[.int .i64 (arg rs k).1, .int .i64 (arg rs k).2.1, .int .i64 (arg rs k).2.2] 3)).drew.heap.size = wr.heap.size + 1 from World.size_alloc _ _] at this); have own5 := ownsRowB_below own0 b5; have X5 := X0.below b5))
          rename_i hU
          obtain ⟨-, -, -, -, -, K⟩ := hU
          have hv' : ¬ v' = .slice none 0 0 := fun e => hv (hnn.1 e).1
          replace X : Pair w6 w.heap.size 27 (.slice A ps.length ca) (.slice (some ⟨b, off, none⟩) rs.length cb) := (g6.block _ X5.lt (fun e => by have := HBK.out _ e.symm; omega)).trans X5
          replace own6 : w6.ownsRow (w.heap.size + 1) 5 1 v' (nodesL ps ps.length ++ arcsL rs (k + 1)).length (bcells (nodesL ps ps.length ++ arcsL rs (k + 1))) := by rw [HST.out, bcells_append, List.length_append, ← strCells_tx (arcL (arg rs k)), ← tx_size (arcL (arg rs k))]; exact own6
          clear g6 HBK own own0 X0 own5 X5 S6 b5 hnn U
          go_wp2
          go_roundw
          case rel => exact ⟨k + 1, by omega, by go_num, X, hv', own6, K⟩
          case measure => simp [intOf]; omega
        · obtain rfl : k = rs.length := by omega
          clear hlt hk
          have HE := Lib.hid (show nodesL ps ps.length ++ arcsL rs rs.length = netL ps rs by unfold nodesL arcsL netL; rw [List.take_length, List.take_length])
          rw [HE.out] at own
          obtain ⟨g, cap, rfl⟩ : ∃ g cap, _ = Value.slice (some ⟨g, 0, none⟩) (netL ps rs).length cap := by
            rcases own.2 with ⟨h1, -⟩ | ⟨g, cap, cur, h1, -⟩
            · exact absurd h1 hv
            · exact ⟨g, cap, h1⟩
          have hcv : (convert 22 9 (.slice (some ⟨g, 0, none⟩) (netL ps rs).length cap)).run Tryd.prog wr = .ok (.string ⟨(netL ps rs).toArray⟩) wr :=
            run_convert_bytes_back wr 22 9 5 ⟨g, 0, none⟩ cap (netL ps rs) Tryd.underlying22 Tryd.underlying5 Tryd.underlying9 (fun j hj => own.cells (g := g) rfl j _ (by simp [bcells, hj]))
          go_wp2
          go_ret
          exact ⟨rfl, K⟩

theorem isBuilderF_below {T e : TypeId} {B b : Nat} {bs : List Value} {w w' : World} (h : Lib.IsBuilderF T e B b bs w) (hb : Below w.heap.size w w') : Lib.IsBuilderF T e B b bs w' := by
  have one : ∀ p, Lib.BuilderAtF T e B b p bs w → Lib.BuilderAtF T e B b p bs w' := by
    rintro p ⟨hB, v, hbk, hown, hne⟩
    have hlt : b < w.heap.size := (Array.getElem?_eq_some_iff.1 hbk).1
    exact ⟨hB, v, (hb.block b hlt).trans hbk, World.ownsRowF.kept hown (row := none) ⟨hb.os, hb.tape, hb.output, hb.size, fun k hk _ => hb.block k hk⟩ (by cases v.ownBlock <;> simp), hne⟩
  rcases h with h | h
  · exact .inl (one _ h)
  · exact .inr (one _ h)

set_option maxHeartbeats 2000000 in
set_option maxRecDepth 100000 in
theorem implNetText_yes (A B : Option Addr) (ca cb : Nat) (ps : List (Int × Int)) (rs : List (Int × Int × Int)) (w : World) (hn : ps.length ≤ 1048576) (hm : rs.length ≤ 1048576) (ha : IsPts w A ps) (hb : IsArcs w B rs) (hok : netB ps rs = true) (ht : Lib.TabIs Tryd.prog w "internal/strconv.uint64pow10" .u64 Lib.pow10Tab) :
    Calls Tryd.prog 7 #[.agg #[.slice A ps.length ca, .slice B rs.length cb]] w fun e w' => e = .returned (.string (tx (netL ps rs))) ∧ Below w.heap.size w w' := by
  have X := Pair.new w 27 (.slice A ps.length ca) (.slice B rs.length cb)
  have K := below1 w (.cells #[.slice A ps.length ca, .slice B rs.length cb] 27)
  have HT := Lib.hid ht
  clear ht
  obtain ⟨h20, h70, -, -⟩ := netB_iff.1 hok
  obtain ⟨hp64, hr64⟩ := netB_in64 hok
  have HP := Lib.hid hp64
  have HR := Lib.hid hr64
  clear hp64 hr64
  go_enter Tryd.func7, Tryd.ntmps7
  go_wp2_with fail
  refine (implNetOk_any A B ca cb ps rs _ hn hm (ha.below K) (hb.below K)).mono ?_; rintro e w1 ⟨rfl, b1⟩
  replace X := X.below b1
  replace K := K.trans (b1.mono K.size)
  clear b1
  have xl : w.heap.size < w1.heap.size := X.lt
  have Bd := Lib.IsBuilderF.of (Lib.fresh_isBuilder 42 5 w1)
  replace X := X.alloc (.cells #[.pointer none, .slice none 0 0] 42)
  replace K := K.alloc K.size (.cells #[.pointer none, .slice none 0 0] 42)
  have hbl : w1.heap.size < (w1.alloc (.cells #[.pointer none, .slice none 0 0] 42)).heap.size := by simp
  obtain ⟨bb, hbb⟩ : ∃ bb, bb = w1.heap.size := ⟨_, rfl⟩
  rw [← hbb] at Bd xl hbl
  have HBB := Lib.hid hbb
  clear hbb
  obtain ⟨x0, x1, -, -⟩ := X.cells
  go_wp2
  rw [← HBB.out]
  clear x0 x1
  go_loopw [14] (fun i wr => ∃ k : Nat, k ≤ ps.length ∧ i = .int .i64 k ∧ Pair wr w.heap.size 27 (.slice A ps.length ca) (.slice B rs.length cb) ∧ bb < wr.heap.size ∧ Lib.IsBuilderF 42 5 bb bb (bcells (nodesL ps k)) wr ∧ Below w.heap.size w wr) (fun i _ => ps.length - (intOf i).toNat)
  case atStart => exact ⟨0, by omega, rfl, X, hbl, Bd, K⟩
  case round =>
    clear X K Bd hbl
    obtain ⟨k, hk, rfl, X, hbl, Bd, K⟩ := hrel
    by_cases hlt : k < ps.length
    · obtain ⟨b, off, rfl, -, c0, c1⟩ := (ha.below K).at_ hlt
      have HIN := Lib.hid (nums_in2 (HP.out k hlt).1 (HP.out k hlt).2)
      have hll : (tx (nodeL (ptg ps k))).size ≤ 70 := by rw [tx_size]; exact line_len _ _ (by simp) (by simp) HIN.out
      have hal : (nodesL ps k).length ≤ 1400 := by have := nodesL_len HP.out k hk; omega
      have HST := Lib.hid (nodesL_succ hlt)
      have b0 := below2 wr (.cells #[.int .i64 (ptg ps k).1, .int .i64 (ptg ps k).2] 44) (.cells #[.int .i64 (ptg ps k).1, .int .i64 (ptg ps k).2] 3)
      have I := two_new (wr.alloc (.cells #[.int .i64 (ptg ps k).1, .int .i64 (ptg ps k).2] 44)) (ptg ps k).1 (ptg ps k).2 3
      rw [World.size_alloc] at I
      have HT5 := Lib.hid (tab_below HT.out (K.trans (b0.mono K.size)))
      go_wp2_with fail
      refine (lineText_any [110, 111, 100, 101] _ _ _ [(ptg ps k).1, (ptg ps k).2] _ (by simp) (by simp) I HIN.out HT5.out).mono ?_; rintro e w5 ⟨rfl, b5⟩
      replace b5 := b0.trans (b5.mono b0.size)
      replace X := X.below b5
      replace Bd := isBuilderF_below Bd b5
      replace K := K.trans (b5.mono K.size)
      have hb5 := b5.size
      clear b0 b5 I HT5
      go_wp2_with fail
      refine (writeString_any bb bb (bcells (nodesL ps k)) (tx (nodeL (ptg ps k))) _ Bd (by rw [bcells_len]; omega) (by omega)).mono ?_; rintro e w6 ⟨rfl, B6, b6, O6⟩
      replace X : Pair w6 w.heap.size 27 (.slice (some ⟨b, off, none⟩) ps.length ca) (.slice B rs.length cb) := O6 _ _ X (fun e => by injection e with e; omega) (fun c fz e => by injection e with _ e2 _; exact absurd e2 (by decide))
      replace K := K.trans (b6.mono (by omega))
      have Bd6 : Lib.IsBuilderF 42 5 bb bb (bcells (nodesL ps (k + 1))) w6 := by rw [HST.out, bcells_append, ← strCells_tx (nodeL (ptg ps k))]; exact .inr B6
      have hlt6 : bb < w6.heap.size := B6.lt
      clear B6 b6 O6 Bd
      go_wp2
      go_roundw
      case rel => exact ⟨k + 1, by omega, by go_num, X, hlt6, Bd6, K⟩
      case measure => simp [intOf]; omega
    · obtain rfl : k = ps.length := by omega
      clear hlt hk
      obtain ⟨x0, x1, -, -⟩ := X.cells
      go_wp2
      clear x0 x1
      go_loopw [29] (fun i wr => ∃ k : Nat, k ≤ rs.length ∧ i = .int .i64 k ∧ Pair wr w.heap.size 27 (.slice A ps.length ca) (.slice B rs.length cb) ∧ bb < wr.heap.size ∧ Lib.IsBuilderF 42 5 bb bb (bcells (nodesL ps ps.length ++ arcsL rs k)) wr ∧ Below w.heap.size w wr) (fun i _ => rs.length - (intOf i).toNat)
      case atStart => exact ⟨0, by omega, rfl, X, hbl, by simpa [arcsL] using Bd, K⟩
      case round =>
        clear X K Bd hbl
        obtain ⟨k, hk, rfl, X, hbl, Bd, K⟩ := hrel
        by_cases hlt : k < rs.length
        · obtain ⟨b, off, rfl, -, c0, c1, c2⟩ := (hb.below K).at_ hlt
          have HIN := Lib.hid (nums_in3 (HR.out k hlt).1 (HR.out k hlt).2.1 (HR.out k hlt).2.2)
          have hll : (tx (arcL (arg rs k))).size ≤ 70 := by rw [tx_size]; exact line_len _ _ (by simp) (by simp) HIN.out
          have hal : (nodesL ps ps.length ++ arcsL rs k).length ≤ 6400 := by rw [List.length_append]; have := nodesL_len HP.out ps.length (Nat.le_refl _); have := arcsL_len HR.out k hk; omega
          have HST := Lib.hid (show nodesL ps ps.length ++ arcsL rs (k + 1) = nodesL ps ps.length ++ arcsL rs k ++ arcL (arg rs k) by rw [arcsL_succ hlt, List.append_assoc])
          have b0 := below2 wr (.cells #[.int .i64 (arg rs k).1, .int .i64 (arg rs k).2.1, .int .i64 (arg rs k).2.2] 51) (.cells #[.int .i64 (arg rs k).1, .int .i64 (arg rs k).2.1, .int .i64 (arg rs k).2.2] 3)
          have I := three_new (wr.alloc (.cells #[.int .i64 (arg rs k).1, .int .i64 (arg rs k).2.1, .int .i64 (arg rs k).2.2] 51)) (arg rs k).1 (arg rs k).2.1 (arg rs k).2.2 3
          rw [World.size_alloc] at I
          have HT5 := Lib.hid (tab_below HT.out (K.trans (b0.mono K.size)))
          go_wp2_with fail
          refine (lineText_any [97, 114, 99] _ _ _ [(arg rs k).1, (arg rs k).2.1, (arg rs k).2.2] _ (by simp) (by simp) I HIN.out HT5.out).mono ?_; rintro e w5 ⟨rfl, b5⟩
          replace b5 := b0.trans (b5.mono b0.size)
          replace X := X.below b5
          replace Bd := isBuilderF_below Bd b5
          replace K := K.trans (b5.mono K.size)
          have hb5 := b5.size
          clear b0 b5 I HT5
          go_wp2_with fail
          refine (writeString_any bb bb (bcells (nodesL ps ps.length ++ arcsL rs k)) (tx (arcL (arg rs k))) _ Bd (by rw [bcells_len]; omega) (by omega)).mono ?_; rintro e w6 ⟨rfl, B6, b6, O6⟩
          replace X : Pair w6 w.heap.size 27 (.slice A ps.length ca) (.slice (some ⟨b, off, none⟩) rs.length cb) := O6 _ _ X (fun e => by injection e with e; omega) (fun c fz e => by injection e with _ e2 _; exact absurd e2 (by decide))
          replace K := K.trans (b6.mono (by omega))
          have Bd6 : Lib.IsBuilderF 42 5 bb bb (bcells (nodesL ps ps.length ++ arcsL rs (k + 1))) w6 := by rw [HST.out, bcells_append, ← strCells_tx (arcL (arg rs k))]; exact .inr B6
          have hlt6 : bb < w6.heap.size := B6.lt
          clear B6 b6 O6 Bd
          go_wp2
          go_roundw
          case rel => exact ⟨k + 1, by omega, by go_num, X, hlt6, Bd6, K⟩
          case measure => simp [intOf]; omega
        · obtain rfl : k = rs.length := by omega
          clear hlt hk
          have HE := Lib.hid (show nodesL ps ps.length ++ arcsL rs rs.length = netL ps rs by unfold nodesL arcsL netL; rw [List.take_length, List.take_length])
          rw [HE.out] at Bd
          go_wp2_with fail
          refine (builderString_any bb bb (netL ps rs) _ Bd (by omega)).mono ?_; rintro e w7 ⟨rfl, b7⟩
          replace K := K.trans (b7.mono (by omega))
          go_wp2
          go_ret
          exact ⟨rfl, K⟩

theorem specNetText_any (A B : Option Addr) (ca cb : Nat) (ps : List (Int × Int)) (rs : List (Int × Int × Int)) (w : World) (hn : ps.length ≤ 1048576) (hm : rs.length ≤ 1048576) (ha : IsPts w A ps) (hb : IsArcs w B rs) :
    Calls Tryd.prog 8 #[.agg #[.slice A ps.length ca, .slice B rs.length cb]] w fun e w' => e = .returned (.string (tx (netTx ps rs))) ∧ Below w.heap.size w w' := by
  unfold netTx
  cases hok : netB ps rs with
  | false => exact specNetText_no A B ca cb ps rs w hn hm ha hb hok
  | true => exact specNetText_yes A B ca cb ps rs w hn hm ha hb hok
theorem implNetText_any (A B : Option Addr) (ca cb : Nat) (ps : List (Int × Int)) (rs : List (Int × Int × Int)) (w : World) (hn : ps.length ≤ 1048576) (hm : rs.length ≤ 1048576) (ha : IsPts w A ps) (hb : IsArcs w B rs) (ht : Lib.TabIs Tryd.prog w "internal/strconv.uint64pow10" .u64 Lib.pow10Tab) :
    Calls Tryd.prog 7 #[.agg #[.slice A ps.length ca, .slice B rs.length cb]] w fun e w' => e = .returned (.string (tx (netTx ps rs))) ∧ Below w.heap.size w w' := by
  unfold netTx
  cases hok : netB ps rs with
  | false => exact implNetText_no A B ca cb ps rs w hn hm ha hb hok
  | true => exact implNetText_yes A B ca cb ps rs w hn hm ha hb hok ht

end Go.Proofs.YtjaifbbkfgfdeaaDoor
