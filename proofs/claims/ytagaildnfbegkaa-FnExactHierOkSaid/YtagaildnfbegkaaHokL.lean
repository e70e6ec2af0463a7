/-
  What impl.ladderOf lays: a row of rows of pointers to the arcs.
-/
import Derived.Test.YtagaildnfbegkaaHokA
import Derived.BigRegion
namespace Go.Proofs.Ytagaildnfbegkaa
open Go.RowKit Go.Deep Go.Maps

theorem Try.infoPtrRow : (Try.prog.info? 132).map (fun i => (i.zero, i.size, i.bytes)) = some (some (.slice none 0 0), 1, 24) := by kernel_rfl
theorem Try.infoPtr : (Try.prog.info? 133).map (fun i => (i.zero, i.size, i.bytes)) = some (some (.pointer none), 1, 8) := by kernel_rfl
/-- The last of the first k arcs with these ends. -/
def lastH (hs : List A4) (u v : Int) : Nat → Option Nat
  | 0 => none
  | k + 1 => if hitH hs u v k = true then some k else lastH hs u v k
/-- A pointer to an arc. -/
def encL (b off : Nat) (i : Nat) : Value := .pointer (some ⟨b, off + i * 4, none⟩)
def ptrV (b off : Nat) : Option Nat → Value
  | none => .pointer none
  | some j => encL b off j
theorem lastH_some {hs : List A4} {u v : Int} {j : Nat} : ∀ {k : Nat}, lastH hs u v k = some j → j < k ∧ hitH hs u v j = true
  | 0, h => by cases h
  | k + 1, h => by
    unfold lastH at h
    split at h
    · rename_i e; injection h with h; subst h; exact ⟨by omega, e⟩
    · have := lastH_some h; exact ⟨by omega, this.2⟩
theorem lastH_none {hs : List A4} {u v : Int} : ∀ {k : Nat}, lastH hs u v k = none → ∀ j, j < k → hitH hs u v j = false
  | 0, _, j, hj => by omega
  | k + 1, h, j, hj => by
    unfold lastH at h
    split at h
    · cases h
    · rename_i e
      by_cases hx : j = k
      · subst hx; simpa using e
      · exact lastH_none h j (by omega)
/-- The rows so far: the first k arcs are entered. -/
structure LadRow (w : World) (ob n b off : Nat) (hs : List A4) (k : Nat) : Prop where
  outer : w.rowIs ob 132 n (fun u => .slice (some ⟨ob + 1 + u, 0, none⟩) n n)
  inner : ∀ u, u < n → w.rowIs (ob + 1 + u) 133 n (fun v => ptrV b off (lastH hs u v k))
section
variable {w w' : World} {ob n b off : Nat} {hs : List A4} {k : Nat}
theorem LadRow.below (h : LadRow w ob n b off hs k) (hb : Below w.heap.size w w') : LadRow w' ob n b off hs k := ⟨rowIs_below h.outer hb, fun u hu => rowIs_below (h.inner u hu) hb⟩
theorem LadRow.far (h : LadRow w ob n b off hs k) {c : Nat} (hc : c < ob) (i : Nat) (v : Value) : LadRow (w.setCell ⟨c, i, none⟩ v) ob n b off hs k := ⟨h.outer.setOther (by simp; omega) _, fun u hu => (h.inner u hu).setOther (by simp; omega) _⟩
theorem LadRow.drewN (h : LadRow w ob n b off hs k) (m : Nat) : LadRow (w.drewN m) ob n b off hs k := ⟨h.outer, fun u hu => h.inner u hu⟩
theorem LadRow.put (h : LadRow w ob n b off hs k) {F T : Nat} (e1 : (hcg hs k).1 = (F : Int)) (e2 : (hcg hs k).2.1 = (T : Int)) : LadRow (w.setCell ⟨ob + 1 + F, T, none⟩ (encL b off k)) ob n b off hs (k + 1) := by
  refine ⟨h.outer.setOther (by simp; omega) _, fun u hu => ?_⟩
  by_cases hx : u = F
  · subst hx
    refine ((h.inner u hu).set T (encL b off k)).congr fun v hv => ?_
    by_cases hy : v = T
    · subst hy
      have : hitH hs (u : Int) (v : Int) k = true := by unfold hitH; rw [e1, e2]; simp
      show (if v = v then encL b off k else _) = ptrV b off (if hitH hs (u : Int) (v : Int) k = true then some k else _)
      rw [if_pos rfl, if_pos this]; rfl
    · have : ¬ hitH hs (u : Int) (v : Int) k = true := by unfold hitH; rw [e1, e2]; simp; omega
      show (if v = T then encL b off k else _) = ptrV b off (if hitH hs (u : Int) (v : Int) k = true then some k else _)
      rw [if_neg hy, if_neg this]
  · refine ((h.inner u hu).setOther (by simp; omega) _).congr fun v hv => ?_
    have : ¬ hitH hs (u : Int) (v : Int) k = true := by unfold hitH; rw [e1, e2]; simp; omega
    show _ = ptrV b off (if hitH hs (u : Int) (v : Int) k = true then some k else _)
    rw [if_neg this]
end

set_option maxRecDepth 1000000 in
set_option maxHeartbeats 8000000 in
theorem ladderOf_any (R B : Option Addr) (cr cb : Nat) (zs : List Int) (hs : List A4) (w : World) (hz : zs.length ≤ 20) (hm : hs.length ≤ 1048576) (hok : hok zs.length hs) (hb : IsHs w B hs) :
    Calls Try.prog 54 #[.slice R zs.length cr, .slice B hs.length cb] w fun e w' => ∃ ob b off, e = .returned (.agg #[.slice R zs.length cr, .slice (some ⟨ob, 0, none⟩) zs.length zs.length]) ∧
      w.heap.size ≤ ob ∧ (0 < hs.length → B = some ⟨b, off, none⟩) ∧ LadRow w' ob zs.length b off hs hs.length ∧ Below w.heap.size w w' := by
  have hmk1 := run_make_row' (P := Try.prog) 89 132 (.slice none 0 0) 24 Try.underlying89 Try.infoPtrRow rfl .i64 .i64 zs.length (by omega) (by omega)
  have hmk2 := run_make_row' (P := Try.prog) 132 133 (.pointer none) 8 Try.underlying132 Try.infoPtr rfl .i64 .i64 zs.length (by omega) (by omega)
  obtain ⟨b, off, hB⟩ : ∃ b off, 0 < hs.length → B = some ⟨b, off, none⟩ := by
    rcases Nat.eq_zero_or_pos hs.length with h | h
    · exact ⟨0, 0, fun h' => by omega⟩
    · obtain ⟨b, off, e, -, -⟩ := hb.at_ h
      exact ⟨b, off, fun _ => e⟩
  have HOK := Lib.hid hok
  have HB := Lib.hid hB
  have HHS := Lib.hid hb
  clear hok hB hb
  generalize hn : zs.length = n at *
  obtain ⟨ob, hob⟩ : ∃ ob, ob = w.heap.size + 1 := ⟨_, rfl⟩
  have HOB := Lib.hid hob
  have R0 : (((w.alloc (.cells #[.slice none 0 0, .slice none 0 0] 91)).alloc (.cells (madeCells #[.slice none 0 0] n) 132))).rowIs ob 132 n (fun u => if u < 0 then .slice (some ⟨ob + 1 + u, 0, none⟩) n n else .slice none 0 0) := by
    have h := World.rowIs_made (w.alloc (.cells #[.slice none 0 0, .slice none 0 0] 91)) (.slice none 0 0) n 132
    rw [World.size_alloc, ← hob] at h
    exact h.congr fun u hu => by rw [if_neg (by omega)]
  have K0 := below2 w (.cells #[.slice none 0 0, .slice none 0 0] 91) (.cells (madeCells #[.slice none 0 0] n) 132)
  have B0 : Pair (((w.alloc (.cells #[.slice none 0 0, .slice none 0 0] 91)).alloc (.cells (madeCells #[.slice none 0 0] n) 132))) w.heap.size 91 (.slice none 0 0) (.slice none 0 0) := (Pair.new w _ _ _).alloc _
  have S0 : Hid ((((w.alloc (.cells #[.slice none 0 0, .slice none 0 0] 91)).alloc (.cells (madeCells #[.slice none 0 0] n) 132))).heap.size = ob + 1 + 0) := Lib.hid (by rw [World.size_alloc, World.size_alloc, hob])
  have HE : w.heap.size + 1 = ob := hob.symm
  clear hob
  go_enter Try.func54, Try.ntmps54
  go_wp2
  go_loopw [14] (fun vi wr => ∃ k : Nat, k ≤ n ∧ vi = .int .i64 k ∧ Hid (wr.heap.size = ob + 1 + k) ∧ wr.rowIs ob 132 n (fun u => if u < k then .slice (some ⟨ob + 1 + u, 0, none⟩) n n else .slice none 0 0) ∧ (∀ u, u < k → wr.rowIs (ob + 1 + u) 133 n (fun _ => .pointer none)) ∧ Pair wr w.heap.size 91 (.slice none 0 0) (.slice none 0 0) ∧ Below w.heap.size w wr) (fun i _ => n - (intOf i).toNat)
  case atStart => exact ⟨0, by omega, rfl, S0, R0, fun u hu => by omega, B0, K0⟩
  case round =>
    clear R0 K0 B0 S0 HE
    obtain ⟨k, hk, rfl, HS, RO, RI, BX, K⟩ := hrel
    replace RI := Lib.hid RI
    by_cases hlt : k < n
    · have hki : (k : Int) < n := by omega
      have RO1 := RO.alloc (.cells (madeCells #[.pointer none] n) 133)
      have dc := RO1.cell hlt
      have fz := RO1.frozen k
      have RN := World.rowIs_made wr (.pointer none) n 133
      have RO2 := RO1.set k (.slice (some ⟨wr.heap.size, 0, none⟩) n n)
      go_wp2
      go_roundw
      case rel =>
        have hs' := HS.out
        have hob := HOB.out
        refine ⟨k + 1, by omega, by go_num, Lib.hid (by simp [World.setCell]; omega), RO2.congr fun u hu => ?_, fun u hu => ?_, (BX.alloc _).far (c := ob) (by omega) k _, (K.alloc K.size _).setCell (p := ⟨ob, k, none⟩) (by simp; omega) _⟩
        · by_cases hx : u = k
          · subst hx; rw [if_pos rfl, if_pos (by omega), hs']
          · rw [if_neg hx]
            by_cases hy : u < k
            · rw [if_pos hy, if_pos (by omega)]
            · rw [if_neg hy, if_neg (by omega)]
        · by_cases hx : u = k
          · subst hx; rw [← hs']; exact RN.setOther (by simp; omega) _
          · exact ((RI.out u (by omega)).alloc _).setOther (by simp; omega) _
      case measure => simp [intOf]; omega
    · obtain rfl : k = n := by omega
      have LR : LadRow wr ob k b off hs 0 := ⟨RO.congr fun u hu => by rw [if_pos hu], fun u hu => RI.out u hu⟩
      clear RO RI hlt HS
      go_wp2
      go_loopw [26] (fun vi w2 => ∃ j : Nat, j ≤ hs.length ∧ vi = .int .i64 j ∧ LadRow w2 ob k b off hs j ∧ Pair w2 w.heap.size 91 (.slice none 0 0) (.slice none 0 0) ∧ Below w.heap.size w w2) (fun i _ => hs.length - (intOf i).toNat)
      case atStart => exact ⟨0, by omega, rfl, LR, BX, K⟩
      case round =>
        clear LR BX K
        obtain ⟨j, hj, rfl, LR, BX, K⟩ := hrel
        by_cases hjt : j < hs.length
        · have hji : (j : Int) < hs.length := by omega
          have hBe := HB.out (by omega)
          obtain ⟨b', off', e', hbl, c0, c1, c2, c3⟩ := (HHS.out.below K).at_ hjt
          rw [hBe] at e'
          injection e' with e'; injection e' with e1 e2
          subst e1; subst e2
          obtain ⟨⟨f0, f1⟩, ⟨t0, t1⟩, l0, l1⟩ := HOK.out j hjt
          obtain ⟨F, hF⟩ : ∃ F : Nat, (hcg hs j).1 = (F : Int) := ⟨(hcg hs j).1.toNat, by omega⟩
          obtain ⟨T, hT⟩ : ∃ T : Nat, (hcg hs j).2.1 = (T : Int) := ⟨(hcg hs j).2.1.toNat, by omega⟩
          have L1 := LR.put hF hT
          rw [hF] at f0 f1 c0
          rw [hT] at t0 t1 c1
          have hFn : F < k := by omega
          have hTn : T < k := by omega
          have hob := HOB.out
          have dF := LR.outer.cell hFn
          have dT := (LR.inner F hFn).cell hTn
          have fz := (LR.inner F hFn).frozen T
          have BX1 := BX.far (c := ob + 1 + F) (by omega) T (encL b off j)
          have K1 := K.setCell (p := ⟨ob + 1 + F, T, none⟩) (by simp; omega) (encL b off j)
          unfold encL at L1 BX1 K1
          have HB2 := Lib.hid hBe
          clear hBe LR BX K c2 c3 l0 l1 hF hT hob
          subst B
          go_wp2_with fail
          go_region
          all_goals (
            go_wp2
            go_roundw
            case rel => exact ⟨j + 1, by omega, by go_num, L1.drewN _, BX1.drewM _, below_drewN K1 _⟩
            case measure => simp [intOf]; omega)
        · obtain rfl : j = hs.length := by omega
          have hob := HOB.out
          obtain ⟨x0, x1, q0, q1⟩ := BX.cells
          have BX1 := BX.set0 (.slice R k cr)
          obtain ⟨z0, z1, r0, r1⟩ := BX1.cells
          have BX2 := BX1.set1 (.slice (some ⟨ob, 0, none⟩) k k)
          obtain ⟨y0, y1, -, -⟩ := BX2.cells
          have L2 := (LR.far (c := w.heap.size) (by omega) 0 (.slice R k cr)).far (c := w.heap.size) (by omega) 1 (.slice (some ⟨ob, 0, none⟩) k k)
          have K2 := (K.setCell (p := ⟨w.heap.size, 0, none⟩) (by simp) (.slice R k cr)).setCell (p := ⟨w.heap.size, 1, none⟩) (by simp) (.slice (some ⟨ob, 0, none⟩) k k)
          have hle : w.heap.size ≤ ob := by omega
          clear LR BX BX1 BX2 K hob
          go_wp2
          exact bodyPost_ret (v := .agg #[.slice R k cr, .slice (some ⟨ob, 0, none⟩) k k]) (by simp [results, Try.results54, go_sem, y0, y1]) rfl ⟨ob, b, off, rfl, hle, HB.out, L2, K2⟩

end Go.Proofs.Ytagaildnfbegkaa
