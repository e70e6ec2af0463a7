/-
  What (impl.Hier).rungs gives: pointers to the arcs that lead to a greater rank, by the rank at which they are entered.
-/
import Derived.Test.YtagaildnfbegkabRungsIm
import Derived.Test.YtagaildnfbegkabNetArcs
import Derived.Laws.AppendOwn
import Derived.RangeFuncBox
import Derived.Test.YtagaildnfbegkabLinked
namespace Go.Proofs.Ytagaildnfbegkab
open Go.RowKit Go.Deep Go.Maps

def useD (zs : List Int) (rs : List A4) (up : Bool) (i : Nat) : Bool := decide (zg zs (lw rs up i) < zg zs (hg rs up i))
def luse (zs : List Int) (rs : List A4) (up : Bool) (k : Nat) : List Nat := (List.range k).filter (useD zs rs up)
theorem luse_yes {zs : List Int} {rs : List A4} {up : Bool} {k : Nat} (h : useD zs rs up k = true) : luse zs rs up (k + 1) = luse zs rs up k ++ [k] := by
  unfold luse; rw [List.range_succ, List.filter_append]; simp [h]
theorem luse_no {zs : List Int} {rs : List A4} {up : Bool} {k : Nat} (h : useD zs rs up k = false) : luse zs rs up (k + 1) = luse zs rs up k := by
  unfold luse; rw [List.range_succ, List.filter_append]; simp [h]
theorem luse_len (zs : List Int) (rs : List A4) (up : Bool) (k : Nat) : (luse zs rs up k).length ≤ k := by
  unfold luse; exact Nat.le_trans (List.length_filter_le _ _) (by simp)
theorem luse_in {zs : List Int} {rs : List A4} {up : Bool} {k i : Nat} : i ∈ luse zs rs up k ↔ i < k ∧ useA zs rs up i := by
  unfold luse useD useA; simp

theorem Try.infoPtrH : (Try.prog.info? 98).map (fun i => (i.zero, i.size, i.bytes)) = some (some (.pointer none), 1, 8) := by kernel_rfl
set_option maxRecDepth 100000 in
theorem run_append_ptr {w : World} (ty : TypeId) (base : Nat) (v : Value) (n : Nat) (xs : List Value) (hown : w.ownsRow base 98 1 v n xs) (a : Addr) (hn : n ≤ 1048576) (hbase : base ≤ w.heap.size) :
    ∃ v' w', (Builtin.append_ #[96, 96] ty #[v, .slice (some ⟨w.heap.size, 0, none⟩) 1 1]).run Try.prog (w.alloc (.cells #[.pointer (some a)] 98)) = .ok v' w' ∧ w'.ownsRow base 98 1 v' (n + 1) (xs ++ [.pointer (some a)]) ∧ (w.alloc (.cells #[.pointer (some a)] 98)).grownBy w' v.ownBlock := by
  obtain ⟨i0, hi, hzz⟩ := Option.map_eq_some_iff.1 Try.infoPtrH
  simp only [Prod.mk.injEq] at hzz
  obtain ⟨hz0, hz1, hz2⟩ := hzz
  have hb : (w.alloc (.cells #[.pointer (some a)] 98)).heap[w.heap.size]? = some (.cells #[.pointer (some a)] 98 (0, 0)) := heap_alloc_new w _
  obtain ⟨v', w', h1, h2, h3, -, h5⟩ := run_append_own_at (P := Try.prog) (w.alloc (.cells #[.pointer (some a)] 98)) base 96 ty 98 i0 (.pointer none) 1 8 Try.underlying96 hi hz0 hz1 hz2 rfl (by decide) v n xs (hown.alloc _) ⟨w.heap.size, 0, none⟩ 1 1 [.pointer (some a)] rfl
    (fun j u h => by
      have hj : j < 1 := by have := (List.getElem?_eq_some_iff.1 h).1; simpa using this
      obtain rfl : j = 0 := by omega
      rw [Addr.add_lit, cell_of_block hb]
      simpa using h)
    (fun u h => by obtain rfl := List.mem_singleton.1 h; rfl) (by unfold maxLen; omega) (by omega) (by rw [World.size_alloc]; omega)
  exact ⟨v', w', h1, h2, h3⟩

/-- What rungs gives. -/
def RungsR (w : World) (B : Option Addr) (zs : List Int) (rs : List A4) (up : Bool) (e : Ending) (w' : World) : Prop :=
  ∃ (b off : Nat) (L : List Nat) (A' : Option Addr) (cap : Nat), (0 < rs.length → B = some ⟨b, off, none⟩) ∧ L.Perm (luse zs rs up rs.length) ∧ (∀ i j, i < j → j < L.length → zg zs (lw rs up (L.getD i 0)) ≤ zg zs (lw rs up (L.getD j 0))) ∧
    e = .returned (.slice A' L.length cap) ∧ (0 < L.length → ∃ g, A' = some ⟨g, 0, none⟩ ∧ w.heap.size ≤ g ∧ g < w'.heap.size ∧ ∀ k, k < L.length → w'.cell? ⟨g, k, none⟩ = some (encP b off (L.getD k 0))) ∧ Below w.heap.size w w'

set_option maxRecDepth 100000 in
set_option maxHeartbeats 4000000 in
theorem rungs_any (up : Bool) (s : Int) (A B : Option Addr) (ca cc : Nat) (zs : List Int) (rs : List A4) (w : World) (hn : zs.length ≤ 1048576) (hm : rs.length ≤ 1048576) (hk : hok zs.length rs) (ha : IsInts w A zs) (hs : IsHs w B rs) (h0 : 0 < zs.length) :
    Calls Try.prog 63 #[.agg #[.slice A zs.length ca, .slice B rs.length cc], climbV up s] w (RungsR w B zs rs up) := by
  have hmf : ∀ (fn : Fn) (first cap : Array Value) (w : World), (Instr.makeFunc fn first cap).run Try.prog w = .ok (.func fn first cap) w := fun _ _ _ _ => rfl
  obtain ⟨b, off, hB⟩ : ∃ b off, 0 < rs.length → B = some ⟨b, off, none⟩ := by
    rcases Nat.eq_zero_or_pos rs.length with h | h
    · exact ⟨0, 0, fun h' => by omega⟩
    · obtain ⟨b, off, e, -⟩ := hs h; exact ⟨b, off, fun _ => e⟩
  have X := (Pair.new w 30 (.slice A zs.length ca) (.slice B rs.length cc)).alloc (.cells #[climbV up s] 94)
  have F : Boxed ((w.alloc (.cells #[.slice A zs.length ca, .slice B rs.length cc] 30)).alloc (.cells #[climbV up s] 94)) (w.heap.size + 1) 94 (climbV up s) := by
    have := Boxed.new (w.alloc (.cells #[.slice A zs.length ca, .slice B rs.length cc] 30)) 94 (climbV up s); rwa [World.size_alloc] at this
  have K := below2 w (.cells #[.slice A zs.length ca, .slice B rs.length cc] 30) (.cells #[climbV up s] 94)
  have HB := Lib.hid hB
  have HK := Lib.hid hk
  clear hB hk
  obtain ⟨x0, x1, -, -⟩ := X.cells
  obtain ⟨ty, hty⟩ : ∃ ty, climbV up s = .iface ty (.int .i64 s) := by cases up; exact ⟨_, rfl⟩; exact ⟨_, rfl⟩
  rw [hty] at X F K x0 x1 ⊢
  have HCV := Lib.hid hty
  clear hty
  go_enter Try.func63, Try.ntmps63
  go_wp2
  clear x0 x1
  go_loopw [5, 13] (fun v vi wr => ∃ k : Nat, k ≤ rs.length ∧ vi = .int .i64 k ∧ wr.ownsRow (w.heap.size + 2) 98 1 v (luse zs rs up k).length ((luse zs rs up k).map (encP b off)) ∧ Pair wr w.heap.size 30 (.slice A zs.length ca) (.slice B rs.length cc) ∧ Boxed wr (w.heap.size + 1) 94 (.iface ty (.int .i64 s)) ∧ Below w.heap.size w wr) (fun _ i _ => rs.length - (intOf i).toNat)
  case atStart => exact ⟨0, by omega, rfl, by simpa [luse] using World.ownsRow_nil _ _ _ _, X, F, K⟩
  case round =>
    clear X F K
    obtain ⟨k, hkk, rfl, own, X, F, K⟩ := hrel
    by_cases hlt : k < rs.length
    · obtain ⟨e1, l1, e2, l2, -, -⟩ := hok_at HK.out up hlt
      obtain ⟨b', off', rfl, hbb, c0, c1, -, -⟩ := (hs.below K).at_ hlt
      have hbo := HB.out (by omega)
      injection hbo with hbo
      injection hbo with hbo1 hbo2
      obtain rfl := hbo1.symm
      obtain rfl := hbo2.symm
      obtain ⟨rb, ro, rfl, -, r0⟩ := (ha.below K).at_ l1
      obtain ⟨rb', ro', er, -, r1⟩ := (ha.below K).at_ l2
      cases er
      have hki : (k : Int) < rs.length := by omega
      obtain ⟨x0, x1, -, -⟩ := X.cells
      have fc := F.cell
      have HEF := Lib.hid (endsFor_any up s b (off + k * 4) (hcg rs k).1 (hcg rs k).2.1 wr c0 c1)
      rw [HCV.out] at HEF
      have q1 : (if up = true then (hcg rs k).1 else (hcg rs k).2.1) = ((lw rs up k : Nat) : Int) := by rw [← e1]; rfl
      have q2 : (if up = true then (hcg rs k).2.1 else (hcg rs k).1) = ((hg rs up k : Nat) : Int) := by rw [← e2]; rfl
      rw [q1, q2] at HEF
      have HUY := Lib.hid (fun h => luse_yes (zs := zs) (rs := rs) (up := up) (k := k) h)
      have HUN := Lib.hid (fun h => luse_no (zs := zs) (rs := rs) (up := up) (k := k) h)
      have HUD : Hid (useD zs rs up k = decide (zg zs (lw rs up k) < zg zs (hg rs up k))) := Lib.hid rfl
      have hll := luse_len zs rs up k
      clear e1 e2 c0 c1 q1 q2
      generalize lw rs up k = P at *
      generalize hg rs up k = Q at *
      have hPi : (P : Int) < zs.length := by omega
      have hQi : (Q : Int) < zs.length := by omega
      go_wp2_with fail
      refine HEF.out.mono ?_; rintro e w1 ⟨rfl, kk, rfl⟩
      by_cases hu : zg zs P < zg zs Q
      · have hu' : decide (zg zs P < zg zs Q) = true := decide_eq_true hu
        have HU : Hid (luse zs rs up (k + 1) = luse zs rs up k ++ [k]) := Lib.hid (HUY.out (by rw [HUD.out]; exact hu'))
        generalize zg zs P = x at r0 hu hu'
        generalize zg zs Q = y at r1 hu hu'
        clear HUY HUN HUD HEF
        generalize luse zs rs up k = L at own HU hll
        obtain ⟨W1, hW1⟩ : ∃ W1, W1 = wr.drewN kk := ⟨_, rfl⟩
        have own1 := (show (wr.drewN kk).ownsRow _ _ _ _ _ _ from own)
        rw [← hW1] at own1
        have X1 : Pair W1 w.heap.size 30 (.slice (some ⟨rb, ro, none⟩) zs.length ca) (.slice (some ⟨b, off, none⟩) rs.length cc) := by rw [hW1]; exact X.drewM kk
        have F1 : Boxed W1 (w.heap.size + 1) 94 (.iface ty (.int .i64 s)) := by rw [hW1]; exact F
        have K1 : Below w.heap.size w W1 := by rw [hW1]; exact below_drewN K kk
        have r0' : W1.cell? ⟨rb, ro + P, none⟩ = some (.int .i64 x) := by rw [hW1]; exact r0
        have r1' : W1.cell? ⟨rb, ro + Q, none⟩ = some (.int .i64 y) := by rw [hW1]; exact r1
        rw [← hW1]
        clear hW1 own X F K r0 r1 x0 x1 fc
        obtain ⟨x0, x1, -, -⟩ := X1.cells
        go_wp2_with fail
        go_quiet (fail)
        obtain ⟨W2, hW2⟩ : ∃ W2, W2 = W1.drewN nq := ⟨_, rfl⟩
        have own2 := (show (W1.drewN nq).ownsRow _ _ _ _ _ _ from own1)
        rw [← hW2] at own2
        have X2 : Pair W2 w.heap.size 30 (.slice (some ⟨rb, ro, none⟩) zs.length ca) (.slice (some ⟨b, off, none⟩) rs.length cc) := by rw [hW2]; exact X1.drewM nq
        have F2 : Boxed W2 (w.heap.size + 1) 94 (.iface ty (.int .i64 s)) := by rw [hW2]; exact F1
        have K2 : Below w.heap.size w W2 := by rw [hW2]; exact below_drewN K1 nq
        rw [← hW2]
        clear hW2 own1 X1 F1 K1 r0' r1' x0 x1
        have hs2 : w.heap.size + 2 ≤ W2.heap.size := by have := F2.lt; omega
        have hln : L.length ≤ 1048576 := by omega
        have kx := below1 W2 (.cells #[.pointer (some ⟨b, off + k * 4, none⟩)] 98)
        obtain ⟨v', w3, hr, own3, g3⟩ := run_append_ptr 96 (w.heap.size + 2) _ L.length _ own2 ⟨b, off + k * 4, none⟩ hln hs2
        have hol := World.ownsRow.lt own2
        have X3 := (X2.below kx).grownUp g3 (fun g e => by have := (hol g e).1; omega)
        have F3 : Boxed w3 (w.heap.size + 1) 94 (.iface ty (.int .i64 s)) := (g3.block _ (by rw [World.size_alloc]; omega) (fun e => by have := (hol _ e.symm).1; omega)).trans ((kx.block _ (by omega)).trans F2)
        have K3 := (K2.trans (kx.mono K2.size)).grown g3 (by have := K2.size; rw [World.size_alloc]; omega) (fun g e => by have := (hol g e).1; omega)
        have own4 : w3.ownsRow (w.heap.size + 2) 98 1 v' (L ++ [k]).length ((L ++ [k]).map (encP b off)) := by rw [List.length_append, List.map_append]; exact own3
        clear own2 own3 X2 F2 K2 g3 kx hol
        go_wp2_with (at_builtin; refine Lib.wpList_append_run _ rfl _ _ _ _ rfl _ _ rfl rfl _ _ hr ?_)
        go_roundw
        case rel => exact ⟨k + 1, by omega, by go_num, by rw [HU.out]; exact own4, X3, F3, K3⟩
        case measure => simp [intOf]; omega
      · have hu' : decide (zg zs P < zg zs Q) = false := decide_eq_false hu
        have HU : Hid (luse zs rs up (k + 1) = luse zs rs up k) := Lib.hid (HUN.out (by rw [HUD.out]; exact hu'))
        generalize zg zs P = x at r0 hu hu'
        generalize zg zs Q = y at r1 hu hu'
        clear HUY HUN HUD HEF
        obtain ⟨W1, hW1⟩ : ∃ W1, W1 = wr.drewN kk := ⟨_, rfl⟩
        have own1 := (show (wr.drewN kk).ownsRow _ _ _ _ _ _ from own)
        rw [← hW1] at own1
        have X1 : Pair W1 w.heap.size 30 (.slice (some ⟨rb, ro, none⟩) zs.length ca) (.slice (some ⟨b, off, none⟩) rs.length cc) := by rw [hW1]; exact X.drewM kk
        have F1 : Boxed W1 (w.heap.size + 1) 94 (.iface ty (.int .i64 s)) := by rw [hW1]; exact F
        have K1 : Below w.heap.size w W1 := by rw [hW1]; exact below_drewN K kk
        have r0' : W1.cell? ⟨rb, ro + P, none⟩ = some (.int .i64 x) := by rw [hW1]; exact r0
        have r1' : W1.cell? ⟨rb, ro + Q, none⟩ = some (.int .i64 y) := by rw [hW1]; exact r1
        rw [← hW1]
        clear hW1 own X F K r0 r1 x0 x1 fc
        obtain ⟨x0, x1, -, -⟩ := X1.cells
        go_wp2_with fail
        go_quiet (fail)
        go_wp2
        go_roundw
        case rel => exact ⟨k + 1, by omega, by go_num, by rw [HU.out]; exact own1, X1.drewM nq, F1, below_drewN K1 nq⟩
        case measure => simp [intOf]; omega
    · obtain rfl : k = rs.length := by omega
      obtain ⟨x0, x1, -, -⟩ := X.cells
      have fc := F.cell
      have hll := luse_len zs rs up rs.length
      have HIN := Lib.hid (fun i (h : i ∈ luse zs rs up rs.length) => (luse_in.1 h).1)
      have HPL : Hid (∀ L' : List Nat, L'.Perm (luse zs rs up rs.length) → L'.length = (luse zs rs up rs.length).length) := Lib.hid (fun L' h => h.length_eq)
      have HNIL : Hid ((luse zs rs up rs.length).length = 0 → ([] : List Nat).Perm (luse zs rs up rs.length)) := Lib.hid (fun h => by rw [List.eq_nil_of_length_eq_zero h])
      have hFl := F.lt
      obtain ⟨rb, ro, hA, -, -⟩ := ha.at_ h0
      have hrb : rb < w.heap.size := by obtain ⟨q, o, e, hq, -⟩ := ha h0; rw [hA] at e; cases e; exact hq
      rcases own.2 with ⟨rfl, hz⟩ | ⟨g, cap, cur, rfl, hbase, hcur, h4, h5, h6, h7⟩
      · have HP := Lib.hid (HNIL.out hz)
        clear own
        go_wp2_with fail
        refine (AnyF.slices_SortFunc_none Try.laysNone none 0 _ _).mono ?_; rintro e w' ⟨rfl, rfl⟩
        go_wp2
        go_ret
        exact ⟨b, off, [], none, 0, HB.out, HP.out, fun i j _ h => by simp at h, rfl, fun h => by simp at h, K⟩
      · have hgl : g < wr.heap.size := (Array.getElem?_eq_some_iff.1 hcur).1
        rcases Nat.eq_zero_or_pos (luse zs rs up rs.length).length with hz | hz
        · have HP := Lib.hid (HNIL.out hz)
          clear own
          rw [hz]
          go_wp2_with fail
          refine (AnyF.slices_SortFunc_none Try.laysNone (some ⟨g, 0, none⟩) cap _ _).mono ?_; rintro e w' ⟨rfl, rfl⟩
          go_wp2
          go_ret
          exact ⟨b, off, [], some ⟨g, 0, none⟩, cap, HB.out, HP.out, fun i j _ h => by simp at h, rfl, fun h => by simp at h, K⟩
        · have hrs : 0 < rs.length := by omega
          have hbo := HB.out hrs
          subst hbo
          have hbl : b < w.heap.size := by obtain ⟨q, o, e, hq, -⟩ := hs hrs; cases e; exact hq
          have HS := Lib.hid (sortPtr_any up s (w.heap.size + 1) w.heap.size b off ca cc g cap A zs rs (luse zs rs up rs.length) wr hm hll HIN.out HK.out hgl (by omega) (by omega) (ha.below K) (hs.below K) (fun a e => by rw [hA] at e; cases e; show rb < g; omega) (by omega)
            ⟨by rw [HCV.out]; exact fc, x0, x1⟩ hz cur hcur (by rw [Nat.mul_one] at h7; exact h7) (by omega))
          have hbase' : w.heap.size ≤ g := by omega
          clear own hcur h4 h5 h6 h7 HIN HNIL hbase
          go_wp2_with fail
          refine HS.out.mono ?_; rintro e w2 ⟨rfl, L', hp, hso, hce, b2⟩
          have K2 := K.trans (b2.mono hbase')
          have hs2 := b2.size
          have HLL := Lib.hid (HPL.out L' hp)
          have HP := Lib.hid hp
          have HSO := Lib.hid hso
          have HCE := Lib.hid hce
          clear hp hso hce x0 x1 fc
          go_wp2
          go_ret
          exact ⟨b, off, L', some ⟨g, 0, none⟩, cap, fun _ => rfl, HP.out, HSO.out, by rw [HLL.out]; rfl, fun _ => ⟨g, rfl, hbase', by omega, HCE.out⟩, K2⟩

end Go.Proofs.Ytagaildnfbegkab
