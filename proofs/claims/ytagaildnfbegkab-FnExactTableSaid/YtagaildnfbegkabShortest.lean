/-
  What impl.shortestTo computes: the length of the shortest way to each goal.
-/
import Derived.Test.YtagaildnfbegkabLeastBk
import Derived.Test.YtagaildnfbegkabRepeat
import Derived.Deep.AppendLies
import Derived.BigRegion
namespace Go.Proofs.Ytagaildnfbegkab
open Go.RowKit Go.Deep Go.Maps

/-- The ways to one goal among the first k. -/
def grp (ws : List A3) (i : Nat) : Nat → List A3
  | 0 => []
  | k + 1 => if (arg ws k).2.1 = (i : Int) then grp ws i k ++ [arg ws k] else grp ws i k
theorem grp_len (ws : List A3) (i : Nat) : ∀ k, (grp ws i k).length ≤ k
  | 0 => by simp [grp]
  | k + 1 => by
    have := grp_len ws i k
    unfold grp; split
    · rw [List.length_append]; simp; omega
    · omega
theorem grp_on {ws : List A3} {i k : Nat} (h : (arg ws k).2.1 = (i : Int)) : grp ws i (k + 1) = grp ws i k ++ [arg ws k] := if_pos h
theorem grp_off {ws : List A3} {i k : Nat} (h : (arg ws k).2.1 ≠ (i : Int)) : grp ws i (k + 1) = grp ws i k := if_neg h
/-- The length that is reported for a goal. -/
def stV (ws : List A3) (i : Nat) : Int := if 0 < (grp ws i ws.length).length then (leastK (grp ws i ws.length) (grp ws i ws.length).length).2.2 else -1
/-- The rows so far: the first k ways are entered, each in its goal's row; no two rows in one block. -/
structure GrS (w : World) (ob n : Nat) (V : Nat → Value) (ws : List A3) (k : Nat) : Prop where
  outer : w.rowIs ob 39 n V
  own : ∀ i, i < n → w.ownsRow (ob + 1) 67 3 (V i) (grp ws i k).length (cellsA (grp ws i k))
  sep : ∀ i j, i < n → j < n → i ≠ j → ∀ g, (V i).ownBlock = some g → (V j).ownBlock ≠ some g
section
variable {w w' : World} {ob n : Nat} {V : Nat → Value} {ws : List A3} {k : Nat}
theorem GrS.below (h : GrS w ob n V ws k) (b : Below w.heap.size w w') : GrS w' ob n V ws k := ⟨rowIs_below h.outer b, fun i hi => ownsRow_below (h.own i hi) b, h.sep⟩
theorem GrS.far (h : GrS w ob n V ws k) {c : Nat} (hc : ob < c) (hv : ∀ j q, j < n → (V j).ownBlock = some q → q < c) (i : Nat) (x : Value) : GrS (w.setCell ⟨c, i, none⟩ x) ob n V ws k :=
  ⟨h.outer.setOther (by simp; omega) x, fun j hj => World.ownsRow.kept (h.own j hj) (grown_set (World.grownBy.refl w _) i x) (by
    cases e : (V j).ownBlock with
    | none => exact .inl rfl
    | some q => exact .inr (fun e' => by injection e' with e'; have := hv j q hj e; omega)), h.sep⟩
set_option maxRecDepth 100000 in
theorem GrS.put (h : GrS w ob n V ws k) {T : Nat} (hT : T < n) (e : (arg ws k).2.1 = (T : Int)) (hk : k ≤ 20971519) {x y z : Int} (ea : arg ws k = (x, y, z)) :
    ∃ v' w', (Builtin.append_ #[39, 39] 39 #[V T, .slice (some ⟨w.heap.size, 0, none⟩) 1 1]).run Try.prog (w.alloc (.cells #[.int .i64 x, .int .i64 y, .int .i64 z] 67)) = .ok v' w' ∧
      w'.rowIs ob 39 n V ∧ (∀ b, b < w.heap.size → b ≤ ob → w'.heap[b]? = w.heap[b]?) ∧ (w.alloc (.cells #[.int .i64 x, .int .i64 y, .int .i64 z] 67)).grownBy w' (V T).ownBlock ∧
      GrS (w'.setCell ⟨ob, T, none⟩ v') ob n (fun i => if i = T then v' else V i) ws (k + 1) := by
  have hob := h.outer.lt
  obtain ⟨v', w', hr, own', g', hb⟩ := run_append_bk 39 (ob + 1) (V T) _ _ (h.own T hT) (x, y, z) (by have := grp_len ws T k; omega) (by omega)
  have kb := below1 w (.cells #[.int .i64 x, .int .i64 y, .int .i64 z] 67)
  have hlow : ∀ g, (V T).ownBlock = some g → ob + 1 ≤ g := ownsRow_block (h.own T hT)
  have hO : w'.rowIs ob 39 n V := (rowIs_below h.outer kb).of_block (g'.block ob (by rw [World.size_alloc]; omega) (fun e => by have := hlow ob e.symm; omega))
  have hold : ∀ i g, i < n → (V i).ownBlock = some g → g < w.heap.size := fun i g hi e => own_lt (h.own i hi) e
  refine ⟨v', w', hr, hO, fun b hb1 hb2 => (g'.block b (by rw [World.size_alloc]; omega) (fun e => by have := hlow b e.symm; omega)).trans (kb.block b hb1), g', hO.set T v', fun i hi => ?_, fun i j hi hj hij g eg => ?_⟩
  · by_cases hx : i = T
    · subst hx
      rw [if_pos rfl, grp_on e, ea]
      rw [List.length_append, cellsA_append]
      exact ownsRow_far (c := ob) own' (by omega) i v'
    · rw [if_neg hx, grp_off (by rw [e]; omega)]
      refine ownsRow_far (c := ob) (World.ownsRow.kept (ownsRow_below (h.own i hi) kb) g' ?_) (by omega) T v'
      cases ei : (V i).ownBlock with
      | none => exact .inl rfl
      | some q => exact .inr (fun e' => h.sep i T hi hT hx q ei e'.symm)
  · have hnew : ∀ q, v'.ownBlock = some q → (V T).ownBlock = some q ∨ q = w.heap.size + 1 := fun q eq => by
      rcases hb with hb | hb
      · exact .inl (by rw [← hb]; exact eq)
      · rw [hb] at eq; injection eq with eq; exact .inr eq.symm
    by_cases hx : i = T
    · rw [if_pos hx] at eg
      have hjT : j ≠ T := fun e => hij (by rw [hx, e])
      rw [if_neg hjT]
      intro ej
      rcases hnew g eg with q | q
      · exact h.sep T j hT hj (fun e => hjT e.symm) g q ej
      · have := hold j g hj ej; omega
    · rw [if_neg hx] at eg
      by_cases hy : j = T
      · rw [if_pos hy]
        intro ej
        rcases hnew g ej with q | q
        · exact h.sep T i hT hi (fun e => hx e.symm) g q eg
        · have := hold i g hi eg; omega
      · rw [if_neg hy]; exact h.sep i j hi hj hij g eg
end

theorem Try.infoBkRow : (Try.prog.info? 39).map (fun i => (i.zero, i.size, i.bytes)) = some (some (.slice none 0 0), 1, 24) := by kernel_rfl
def stL (ws : List A3) (n : Nat) : List Int := (List.range n).map (stV ws)
theorem stL_len (ws : List A3) (n : Nat) : (stL ws n).length = n := by simp [stL]
theorem stL_at (ws : List A3) {n i : Nat} (h : i < n) : zg (stL ws n) i = stV ws i := by unfold zg stL; simp [h]

set_option maxRecDepth 1000000 in
set_option maxHeartbeats 8000000 in
theorem shortestTo_any (Q : Option Addr) (cq n : Nat) (ws : List A3) (w : World) (h0 : 0 < n) (hn : n ≤ 20) (hq : ws.length ≤ 20971520) (hQ : IsArcs w Q ws) (hin : ∀ k, k < ws.length → 0 ≤ (arg ws k).2.1 ∧ (arg ws k).2.1 < (n : Int)) :
    Calls Try.prog 56 #[.int .i64 (n : Int), .slice Q ws.length cq] w (IntsMade w (stL ws n)) := by
  have hmk1 := run_make_row' (P := Try.prog) 106 39 (.slice none 0 0) 24 Try.underlying106 Try.infoBkRow rfl .i64 .i64 n (by omega) (by omega)
  have HIN := Lib.hid hin
  obtain ⟨ob, hob⟩ : ∃ ob, ob = w.heap.size := ⟨_, rfl⟩
  have R0 : GrS (w.alloc (.cells (madeCells #[.slice none 0 0] n) 39)) ob n (fun _ => .slice none 0 0) ws 0 := by
    rw [hob]
    exact ⟨World.rowIs_made w (.slice none 0 0) n 39, fun i hi => ⟨rfl, .inl ⟨rfl, rfl⟩⟩, fun i j _ _ _ g e => by cases e⟩
  have K0 := below1 w (.cells (madeCells #[.slice none 0 0] n) 39)
  have HOB := Lib.hid hob
  have hob1 : w.heap.size = ob := hob.symm
  clear hin hob
  go_enter Try.func56, Try.ntmps56
  go_wp2
  go_loopw [17] (fun vi wr => ∃ (k : Nat) (V : Nat → Value), k ≤ ws.length ∧ vi = .int .i64 k ∧ GrS wr ob n V ws k ∧ Below w.heap.size w wr) (fun i _ => ws.length - (intOf i).toNat)
  case atStart => exact ⟨0, _, by omega, rfl, R0, K0⟩
  case round =>
    clear R0 K0 hob1
    obtain ⟨k, V, hk, rfl, G, K⟩ := hrel
    by_cases hlt : k < ws.length
    · have hki : (k : Int) < ws.length := by omega
      obtain ⟨b, off, rfl, -, c0, c1, c2⟩ := (hQ.below K).at_ hlt
      obtain ⟨T, hT⟩ : ∃ T : Nat, (arg ws k).2.1 = (T : Int) := ⟨(arg ws k).2.1.toNat, by have := (HIN.out k hlt).1; omega⟩
      have hTn : T < n := by have := (HIN.out k hlt).2; omega
      have hTi : (T : Int) < n := by omega
      obtain ⟨x, z, hxz⟩ : ∃ x z, arg ws k = (x, (T : Int), z) := ⟨(arg ws k).1, (arg ws k).2.2, by rw [← hT]⟩
      rw [hxz] at c0 c1 c2
      dsimp only at c0 c1 c2
      have kv := below1 wr (.cells #[.int .i64 x, .int .i64 (T : Int), .int .i64 z] 67)
      have B := Trip.new wr 67 (.int .i64 x) (.int .i64 (T : Int)) (.int .i64 z)
      have KK := K.trans (kv.mono K.size)
      have GG := G.below kv
      have hobs := G.outer.lt
      obtain ⟨W1, hW1⟩ : ∃ W1, W1 = wr.alloc (.cells #[.int .i64 x, .int .i64 (T : Int), .int .i64 z] 67) := ⟨_, rfl⟩
      rw [← hW1] at B
      rw [← hW1] at KK GG
      have HW1 := Lib.hid hW1
      have hsW : Hid (W1.heap.size = wr.heap.size + 1) := Lib.hid (by rw [hW1]; simp)
      have hgb : ∀ g, (V T).ownBlock = some g → g < wr.heap.size := fun g e => own_lt (G.own T hTn) e
      clear hW1 kv G K
      go_wp2_with fail
      rw [← HW1.out]
      clear c0 c1 c2 HW1
      have kdw : Below W1.heap.size W1 W1.drew := (Below.refl _ W1).drew
      have GD := GG.below kdw
      have BD := B.below kdw
      have KD := KK.trans (kdw.mono KK.size)
      have hsD : W1.drew.heap.size = wr.heap.size + 1 := hsW.out
      obtain ⟨v', w', hr, hO, hlow, g', G1⟩ := GD.put hTn hT (by omega) hxz
      obtain ⟨VB, cB, hv'⟩ := own_formB (G1.own T hTn)
      rw [if_pos rfl] at hv'
      subst hv'
      have hr2 : Sem.run Try.prog (Builtin.append_ #[39, 39] 39 #[V T, .slice (some ⟨W1.heap.size, 0, none⟩) 1 1]) (W1.alloc (.cells #[.int .i64 x, .int .i64 (T : Int), .int .i64 z] 67)).drew = .ok (.slice VB (grp ws T (k + 1)).length cB) w' := hr
      have kb := below1 W1.drew (.cells #[.int .i64 x, .int .i64 (T : Int), .int .i64 z] 67)
      have hlo : ∀ g, (V T).ownBlock = some g → ob + 1 ≤ g := ownsRow_block (GD.own T hTn)
      have B2 := BD.below kb
      have B3 : Trip w' wr.heap.size 67 (.int .i64 x) (.int .i64 (T : Int)) (.int .i64 z) := (g'.block wr.heap.size B2.lt (fun e => by have := hgb wr.heap.size e.symm; omega)).trans B2
      have O2 := rowIs_below GD.outer kb
      have K1 := ((KD.trans (kb.mono KD.size)).grown g' (by have := KD.size; rw [World.size_alloc]; omega) (fun g e => by have := hlo g e; have := HOB.out; omega)).setCell (p := ⟨ob, T, none⟩) (by have := HOB.out; simp; omega) (.slice VB (grp ws T (k + 1)).length cB)
      obtain ⟨a0, a1, a2, -⟩ := B.cells
      obtain ⟨d0, d1, d2, -⟩ := B2.cells
      obtain ⟨e0, e1, e2, -⟩ := B3.cells
      have o0 := GG.outer.cell hTn
      have o2 := O2.cell hTn
      have o3 := hO.cell hTn
      have f3 := hO.frozen T
      have hsz1 := g'.size
      rw [World.size_alloc] at hsz1
      obtain ⟨VA, cV, hVT⟩ := own_formB (GD.own T hTn)
      rw [hVT] at hr hr2 o0 o2 o3
      have HVT := Lib.hid hVT
      have o4 : (W1.alloc (.cells #[.int .i64 x, .int .i64 (T : Int), .int .i64 z] 67)).cell? ⟨ob, T, none⟩ = some (.slice VA (grp ws T k).length cV) := o2
      have d3 : (W1.alloc (.cells #[.int .i64 x, .int .i64 (T : Int), .int .i64 z] 67)).cell? ⟨wr.heap.size, 0, none⟩ = some (.int .i64 x) := d0
      have d4 : (W1.alloc (.cells #[.int .i64 x, .int .i64 (T : Int), .int .i64 z] 67)).cell? ⟨wr.heap.size, 1, none⟩ = some (.int .i64 (T : Int)) := d1
      have d5 : (W1.alloc (.cells #[.int .i64 x, .int .i64 (T : Int), .int .i64 z] 67)).cell? ⟨wr.heap.size, 2, none⟩ = some (.int .i64 z) := d2
      clear GG GD B BD B2 B3 O2 KK KD kb g' hlo hgb hlow hO kdw hsz1 hVT hobs hsD
      go_region_law (first | (refine step_append_run rfl (.tmp 28) (.tmp 30) _ _ rfl _ _ rfl rfl _ _ hr2 ?_) | (refine step_append_run rfl (.tmp 28) (.tmp 30) _ _ rfl _ _ rfl rfl _ _ hr ?_))
      all_goals (
        clear hr hr2 o4 d3 d4 d5 a0 a1 a2 d0 d1 d2 e0 e1 e2 o0 o2 o3 f3
        go_wp2
        go_roundw
        case rel => exact ⟨k + 1, _, by omega, by go_num, G1, K1⟩
        case measure => simp [intOf]; omega)
    · obtain rfl : k = ws.length := by omega
      have kb := below1 wr (.cells #[.int .i64 (-1)] 3)
      have c1 : (wr.alloc (.cells #[.int .i64 (-1)] 3)).cell? ⟨wr.heap.size, 0, none⟩ = some (.int .i64 (-1)) := cell_of_block (heap_alloc_new _ _)
      have G2 := G.below kb
      have K2 := K.trans (kb.mono K.size)
      have hsz2 := K2.size
      clear kb G K hlt hmk1
      go_wp2_with fail
      refine (repeat_big wr.heap.size 1 n _ (by omega) h0 c1).mono ?_; rintro e w2 ⟨rfl, I2, b2⟩
      obtain ⟨g, hg⟩ : ∃ g, g = (wr.alloc (.cells #[.int .i64 (-1)] 3)).heap.size := ⟨_, rfl⟩
      rw [← hg] at I2 hsz2 ⊢
      have HGB : Hid (∀ j q, j < n → (V j).ownBlock = some q → q < g) := Lib.hid (fun j q hj e => by rw [hg]; exact own_lt (G2.own j hj) e)
      have G3 := G2.below b2
      have K3 := K2.trans (b2.mono K2.size)
      have hobg : ob < g := by rw [hg]; exact G2.outer.lt
      have I3 : IRow w2 g n (fun j => if j < 0 then stV ws j else -1) := I2.congr (fun j _ => by rw [if_neg (by omega)])
      clear b2 G2 K2 c1 hg I2
      go_wp2
      go_loopw [39] (fun vi wx => ∃ i : Nat, i ≤ n ∧ vi = .int .i64 i ∧ GrS wx ob n V ws ws.length ∧ IRow wx g n (fun j => if j < i then stV ws j else -1) ∧ Below w.heap.size w wx) (fun i _ => n - (intOf i).toNat)
      case atStart => exact ⟨0, by omega, rfl, G3, I3, K3⟩
      case round =>
        clear G3 I3 K3
        obtain ⟨i, hi, rfl, G, I, K⟩ := hrel
        by_cases hit : i < n
        · have hii : (i : Int) < n := by omega
          have o0 := G.outer.cell hit
          obtain ⟨VA, cV, hVi, -, -, hown⟩ := ownB_is (G.own i hit)
          rw [hVi] at o0
          have HA : Hid (IsArcs wr VA (grp ws i ws.length)) := Lib.hid (OwnSl.bks (base := ob + 1) (fun hp => by
            obtain ⟨q, h1, h2, h3⟩ := hown (by omega)
            exact ⟨q, 0, h1, h2, h3⟩))
          have hL := grp_len ws i ws.length
          have HV : Hid (stV ws i = if 0 < (grp ws i ws.length).length then (leastK (grp ws i ws.length) (grp ws i ws.length).length).2.2 else -1) := Lib.hid rfl
          clear hVi hown
          generalize grp ws i ws.length = gs at *
          go_wp2_with fail
          refine (leastBy_any VA cV gs _ (by omega) HA.out).mono ?_; rintro e w3 ⟨rfl, b3⟩
          generalize leastK gs gs.length = L at *
          obtain ⟨p, q, r⟩ := L
          dsimp only at *
          replace G := G.below b3
          replace I : IRow w3 g n (fun j => if j < i then stV ws j else -1) := OwnAt.below I b3
          replace K := K.trans (b3.mono K.size)
          clear b3 o0 HA
          have kv := below1 w3 (.cells #[.int .i64 p, .int .i64 q, .int .i64 r] 67)
          have B := Trip.new w3 67 (.int .i64 p) (.int .i64 q) (.int .i64 r)
          replace G := G.below kv
          replace I : IRow (w3.alloc (.cells #[.int .i64 p, .int .i64 q, .int .i64 r] 67)) g n (fun j => if j < i then stV ws j else -1) := OwnAt.below I kv
          replace K := K.trans (kv.mono K.size)
          obtain ⟨a0, a1, a2, -⟩ := B.cells
          have ic := I.cell hit
          have fz := I.frozen i
          cases hp : decide (0 < gs.length) with
          | false =>
            have HN : Hid (stV ws i = -1) := Lib.hid (by rw [HV.out, if_neg (of_decide_eq_false hp)])
            have I1 : IRow (w3.alloc (.cells #[.int .i64 p, .int .i64 q, .int .i64 r] 67)) g n (fun j => if j < i + 1 then stV ws j else -1) := I.congr (fun j _ => by
              by_cases e : j = i
              · subst e; rw [if_neg (by omega), if_pos (by omega), HN.out]
              · by_cases e2 : j < i
                · rw [if_pos e2, if_pos (by omega)]
                · rw [if_neg e2, if_neg (by omega)])
            clear I HV kv B
            go_wp2
            clear a0 a1 a2 ic fz
            go_roundw
            case rel => exact ⟨i + 1, by omega, by go_num, G, I1, K⟩
            case measure => simp [intOf]; omega
          | true =>
            have HN : Hid (stV ws i = r) := Lib.hid (by rw [HV.out, if_pos (of_decide_eq_true hp)])
            have I1 := (I.set i r).congr (f' := fun j => if j < i + 1 then stV ws j else -1) (fun j _ => by
              by_cases e : j = i
              · subst e; rw [if_pos rfl, if_pos (by omega), HN.out]
              · rw [if_neg e]
                by_cases e2 : j < i
                · rw [if_pos e2, if_pos (by omega)]
                · rw [if_neg e2, if_neg (by omega)])
            have G1 := G.far (c := g) (by omega) HGB.out i (.int .i64 r)
            have K1 := K.setCell (p := ⟨g, i, none⟩) (by have := HOB.out; simp; omega) (.int .i64 r)
            clear I HV kv B G K
            go_wp2
            clear a0 a1 a2 ic fz
            go_roundw
            case rel => exact ⟨i + 1, by omega, by go_num, G1, I1, K1⟩
            case measure => simp [intOf]; omega
        · obtain rfl : i = n := by omega
          have hln := stL_len ws i
          have I1 : IRow wr g i (zg (stL ws i)) := I.congr (fun j hj => by rw [if_pos hj]; exact (stL_at ws hj).symm)
          have HE := irow_made hln I1 (by have := HOB.out; omega) K
          clear I I1 G K
          go_wp2
          go_ret
          exact HE

end Go.Proofs.Ytagaildnfbegkab
