/-
  What spec.NetRead computes: the network of a text, or the number of the line that is wrong.
-/
import Derived.Test.YtjaifbbkfgfdeaaDoorNetRow
import Derived.Test.YtjaifbbkfgfdeaaDoorSpecLine
import Derived.Deep.AppendLies
import Derived.Deep.RegionLaw
namespace Go.Proofs.YtjaifbbkfgfdeaaDoor
open Go.RowKit Go.Deep

/-- What NetRead answers: a network and a code. -/
noncomputable def rdNet (s : List UInt8) : List (Int × Int) × List A3 × Int := if 4000 < s.length then ([], [], -1) else match readL 1 [] [] (splitL 10 s) with
  | .inl k => ([], [], (k : Int))
  | .inr st => if netB st.1 st.2 = true then (st.1, st.2, 0) else ([], [], -1)
/-- A network and a code, in memory of the call's own. -/
def RdMade (w : World) (r : List (Int × Int) × List A3 × Int) (e : Ending) (w' : World) : Prop :=
  ∃ A B ca cb, e = .returned (.tuple #[.agg #[.slice A r.1.length ca, .slice B r.2.1.length cb], .int .i64 r.2.2]) ∧ OwnSl w' w.heap.size 44 A (r.1.length * 2) (flatP r.1) ∧ OwnSl w' w.heap.size 51 B (r.2.1.length * 3) (flatA r.2.1) ∧ Parted A B (r.1.length * 2) (r.2.1.length * 3) ∧ Below w.heap.size w w'
theorem rdMade_zero {w w' : World} {r : List (Int × Int) × List A3 × Int} {c : Int} (hr : r = ([], [], c)) (K : Below w.heap.size w w') : RdMade w r (.returned (.tuple #[.agg #[.slice none 0 0, .slice none 0 0], .int .i64 c])) w' := by
  subst hr
  exact ⟨none, none, 0, 0, rfl, fun h => by simp at h, fun h => by simp at h, fun g h => by simp [blk] at h, K⟩
theorem rd_long {s : List UInt8} (h : 4000 < s.length) : rdNet s = ([], [], -1) := by unfold rdNet; rw [if_pos h]
theorem rd_bad {s : List UInt8} {k : Nat} (h : ¬ 4000 < s.length) (hr : readL 1 [] [] (splitL 10 s) = .inl k) : rdNet s = ([], [], (k : Int)) := by unfold rdNet; rw [if_neg h, hr]
theorem rd_no {s : List UInt8} {ps : List (Int × Int)} {rs : List A3} (h : ¬ 4000 < s.length) (hr : readL 1 [] [] (splitL 10 s) = .inr (ps, rs)) (hn : netB ps rs = false) : rdNet s = ([], [], -1) := by unfold rdNet; rw [if_neg h, hr]; simp [hn]
theorem rd_yes {s : List UInt8} {ps : List (Int × Int)} {rs : List A3} (h : ¬ 4000 < s.length) (hr : readL 1 [] [] (splitL 10 s) = .inr (ps, rs)) (hn : netB ps rs = true) : rdNet s = (ps, rs, 0) := by unfold rdNet; rw [if_neg h, hr]; simp [hn]

theorem cell_keep {w w' : World} {r : Option Nat} {b i : Nat} {v : Value} (hg : w.grownBy w' r) (h : w.cell? ⟨b, i, none⟩ = some v) (hr : r ≠ some b) : w'.cell? ⟨b, i, none⟩ = some v := by
  have hb : b < w.heap.size := by simpa using World.block_lt_of_cell? w _ h
  exact (World.cell?_of_block (w := w) (a := ⟨b, i, none⟩) (hg.block b hb (fun e => hr e.symm))).trans h
theorem StrsAt.grown {w w' : World} {g off : Nat} {l : List (List UInt8)} {r : Option Nat} (h : StrsAt w g off l) (hg : w.grownBy w' r) (hr : r ≠ some g) : StrsAt w' g off l := fun i hi => cell_keep hg (h i hi) hr
theorem StrsAt.far {w : World} {g off : Nat} {l : List (List UInt8)} (h : StrsAt w g off l) {c : Nat} (hc : c ≠ g) (i : Nat) (x : Value) : StrsAt (w.setCell ⟨c, i, none⟩ x) g off l := fun j hj => by rw [World.cell?_setCell_far _ _ _ _ (by simpa using hc)]; exact h j hj
theorem cells2N (w : World) (p : Int × Int) (t : TypeId) : ∀ j u, (cellsP [p])[j]? = some u → (w.alloc (.cells #[.int .i64 p.1, .int .i64 p.2] t)).cell? ((⟨w.heap.size, 0, none⟩ : Addr).add j) = some u := by
  intro j u h
  rw [Addr.add_lit, Nat.zero_add, cell_of_block (heap_alloc_new w _)]
  rw [← h]
  match j with
  | 0 | 1 => rfl
  | j + 2 => simp [cellsP]
theorem lineIs_len {word : List UInt8} {many : Nat} {l : List UInt8} {zs : List Int} (h : lineIs word many l = some zs) : zs.length = many := by
  unfold lineIs at h
  split at h
  · rename_i hc; rw [readNs_len _ _ h, hc.2]
  · cases h
theorem ptsT {w : World} {base : Nat} {A : Option Addr} {ps : List (Int × Int)} (h : OwnSl w base 44 A (ps.length * 2) (flatP ps)) : IsPts w A ps := fun hp => by
  obtain ⟨g, off, rfl, -, ho⟩ := h (by omega)
  exact ⟨g, off, rfl, ho.lt, fun i hi => ⟨by rw [ho.cell (i := i * 2) (by omega), flatP_0], by rw [show off + i * 2 + 1 = off + (i * 2 + 1) by omega, ho.cell (i := i * 2 + 1) (by omega), flatP_1]⟩⟩
theorem arcsT {w : World} {base : Nat} {B : Option Addr} {rs : List A3} (h : OwnSl w base 51 B (rs.length * 3) (flatA rs)) : IsArcs w B rs := fun hp => by
  obtain ⟨g, off, rfl, -, ho⟩ := h (by omega)
  exact ⟨g, off, rfl, ho.lt, fun i hi => ⟨by rw [ho.cell (i := i * 3) (by omega), flatA_0], by rw [show off + i * 3 + 1 = off + (i * 3 + 1) by omega, ho.cell (i := i * 3 + 1) (by omega), flatA_1], by rw [show off + i * 3 + 2 = off + (i * 3 + 2) by omega, ho.cell (i := i * 3 + 2) (by omega), flatA_2]⟩⟩
theorem own_base {w : World} {base base' : Nat} {t : TypeId} {A : Option Addr} {N : Nat} {f : Nat → Int} (h : OwnSl w base t A N f) (hb : base' ≤ base) : OwnSl w base' t A N f := fun hp => by
  obtain ⟨g, off, h1, h2, h3⟩ := h hp
  exact ⟨g, off, h1, Nat.le_trans hb h2, h3⟩

set_option maxRecDepth 100000 in
set_option maxHeartbeats 4000000 in
theorem specNetRead_any (s : ByteArray) (w : World) (hs : s.size ≤ 1048576) :
    Calls Tryd.prog 13 #[.string s] w (RdMade w (rdNet s.data.toList)) := by
  have hsl : s.data.toList.length = s.size := by rw [Array.length_toList]; rfl
  obtain ⟨i0, hi, hz0, hz1, hz2⟩ := info_parts Tryd.infoPt
  obtain ⟨i1, hi', hy0, hy1, hy2⟩ := info_parts Tryd.infoArc
  have R := Pair.new w 27 (.slice none 0 0) (.slice none 0 0)
  have K := below1 w (.cells #[.slice none 0 0, .slice none 0 0] 27)
  by_cases hbig : 4000 < s.size
  · have HQ := Lib.hid (rd_long (s := s.data.toList) (by omega))
    obtain ⟨r0, r1, r2, r3⟩ := R.cells
    go_enter Tryd.func13, Tryd.ntmps13
    go_wp2
    exact bodyPost_ret (v := .tuple #[.agg #[.slice none 0 0, .slice none 0 0], .int .i64 (-1)]) (by simp [results, Tryd.results13, go_sem, r0, r1]) rfl (rdMade_zero HQ.out K)
  · have HBAD := Lib.hid (fun k h => rd_bad (s := s.data.toList) (k := k) (by omega) h)
    have HNO := Lib.hid (fun ps rs h hn => rd_no (s := s.data.toList) (ps := ps) (rs := rs) (by omega) h hn)
    have HYES := Lib.hid (fun ps rs h hn => rd_yes (s := s.data.toList) (ps := ps) (rs := rs) (by omega) h hn)
    have hsp := splitL_len 10 s.data.toList
    have hct := List.count_le_length (a := (10 : UInt8)) (l := s.data.toList)
    have HLE := Lib.hid (fun x hx => splitL_le 10 s.data.toList x hx)
    have Q : Pair ((w.alloc (.cells #[.slice none 0 0, .slice none 0 0] 27)).alloc (.cells #[.slice none 0 0, .slice none 0 0] 27)) (w.heap.size + 1) 27 (.slice none 0 0) (.slice none 0 0) := by
      have := Pair.new (w.alloc (.cells #[.slice none 0 0, .slice none 0 0] 27)) 27 (.slice none 0 0) (.slice none 0 0); rwa [World.size_alloc] at this
    replace R := R.alloc (.cells #[.slice none 0 0, .slice none 0 0] 27)
    replace K := below2 w (.cells #[.slice none 0 0, .slice none 0 0] 27) (.cells #[.slice none 0 0, .slice none 0 0] 27)
    go_enter Tryd.func13, Tryd.ntmps13
    go_wp2_with fail
    refine (l03Parts_any s 10 _ (by omega)).mono ?_; rintro e w1 ⟨v, rfl, O, b1⟩
    replace R := R.below b1
    replace Q := Q.below b1
    replace K := K.trans (b1.mono K.size)
    clear b1
    generalize splitL 10 s.data.toList = L at O hsp HBAD HNO HYES HLE
    obtain ⟨gl, cl, rfl, hgl, hcl, S⟩ := strs_of_own O (by omega)
    clear O
    obtain ⟨m, hm⟩ : ∃ m, m = L.length := ⟨_, rfl⟩
    rw [← hm] at hcl hsp ⊢
    have HM := Lib.hid hm
    have hm1 : 1 ≤ m := by omega
    have hm2 : m ≤ 4001 := by omega
    clear hm hsp hct
    have qlt := Q.lt
    have hgl2 : w.heap.size + 2 ≤ gl := by rw [World.size_alloc, World.size_alloc] at hgl; omega
    have hglt : gl < w1.heap.size := by simpa using World.block_lt_of_cell? w1 _ (S 0 (by rw [← HM.out]; omega))
    clear hgl
    go_wp2
    go_loopw [6] (fun i wr => ∃ (k : Nat) (ps : List (Int × Int)) (rs : List A3) (NV V : Value), k < m ∧ ps.length + rs.length ≤ k ∧ i = .int .i64 k ∧ Hid (readL 1 [] [] L = readL (k + 1) ps rs (L.drop k)) ∧ Pair wr w.heap.size 27 (.slice none 0 0) (.slice none 0 0) ∧ Pair wr (w.heap.size + 1) 27 NV V ∧ NRow wr w1.heap.size NV V ps rs ∧ StrsAt wr gl 0 L ∧ w1.heap.size ≤ wr.heap.size ∧ Below w.heap.size w wr) (fun i _ => m - (intOf i).toNat)
    case atStart => exact ⟨0, [], [], _, _, by omega, by simp, rfl, Lib.hid (by rw [List.drop_zero]), R, Q, NRow.nil _ _, S, Nat.le_refl _, K⟩
    case round =>
      clear R Q S K
      obtain ⟨k, ps, rs, NV, V, hk, hle, rfl, HR, R, Q, N, S, hszz, K⟩ := hrel
      have hkm : (k : Int) < m := by omega
      have c0 := S k (by rw [← HM.out]; exact hk)
      rw [Nat.zero_add] at c0
      obtain ⟨j, hj⟩ : ∃ j, j + 1 = m := ⟨m - 1, by omega⟩
      have HJ := Lib.hid hj
      have hwr : IntKind.i64.wrap ((m : Int) - 1) = (j : Int) := by rw [show (m : Int) - 1 = (j : Int) by omega]; exact IntWalk.i64_in _ (by omega)
      have hwk : IntKind.i64.wrap ((k : Int) + 1) = ((k + 1 : Nat) : Int) := by rw [show (k : Int) + 1 = ((k + 1 : Nat) : Int) by omega]; exact IntWalk.i64_in _ (by omega)
      by_cases hlast : k = j
      · subst hlast
        have HD : Hid (L.drop k = [L.getD k []]) := Lib.hid (by
          have hk' : k < L.length := by have := HM.out; omega
          rw [List.drop_eq_getElem_cons hk', List.drop_eq_nil_of_le (by have := HM.out; omega)]
          simp [hk'])
        generalize L.getD k [] = x at c0 HD
        obtain ⟨r0, r1, r2, r3⟩ := R.cells
        by_cases hx : x = []
        · subst hx
          have HRR : Hid (readL 1 [] [] L = .inr (ps, rs)) := Lib.hid (by rw [HR.out, HD.out, readL, if_pos rfl])
          clear HR HD HLE hj
          have hemp : (tx ([] : List UInt8)).toList.isEmpty = true := by rw [ByteArray.toList_eq, tx_data]; rfl
          obtain ⟨A, ca, B, cb, rfl, rfl⟩ := N.vals
          obtain ⟨q0, q1, q2, q3⟩ := Q.cells
          obtain ⟨-, -, OP, OA, hpa⟩ := N.owned
          have IP := ptsT OP
          have IA := arcsT OA
          cases hok : netB ps rs with
          | false =>
            have HQ := Lib.hid (HNO.out _ _ HRR.out hok)
            go_wp2_with fail
            refine (specNetOk_any A B ca cb ps rs _ (by omega) (by omega) IP IA).mono ?_; rintro e w2 ⟨rfl, b2⟩
            replace R := R.below b2
            replace K := K.trans (b2.mono K.size)
            clear r0 r1 r2 r3 q0 q1 q2 q3 OP OA hpa IP IA N S c0 b2 HBAD HNO HYES
            obtain ⟨r0, r1, r2, r3⟩ := R.cells
            go_wp2
            exact bodyPost_ret (v := .tuple #[.agg #[.slice none 0 0, .slice none 0 0], .int .i64 (-1)]) (by simp [results, Tryd.results13, go_sem, r0, r1]) rfl (rdMade_zero HQ.out ((K.setCell (by simp) _).setCell (by simp) _))
          | true =>
            have HQ := Lib.hid (HYES.out _ _ HRR.out hok)
            go_wp2_with fail
            refine (specNetOk_any A B ca cb ps rs _ (by omega) (by omega) IP IA).mono ?_; rintro e w2 ⟨rfl, b2⟩
            replace R := R.below b2
            replace Q := Q.below b2
            replace N := N.below b2
            replace K := K.trans (b2.mono K.size)
            clear r0 r1 r2 r3 q0 q1 q2 q3 OP OA hpa IP IA S c0 b2 HBAD HNO HYES
            obtain ⟨r0, r1, r2, r3⟩ := R.cells
            obtain ⟨q0, q1, q2, q3⟩ := Q.cells
            go_wp2
            refine bodyPost_ret (v := .tuple #[.agg #[.slice A ps.length ca, .slice B rs.length cb], .int .i64 0]) (by simp [results, Tryd.results13, go_sem, r0, r1]) rfl ?_
            obtain ⟨-, -, OP, OA, hpa⟩ := ((N.far (c := w.heap.size) (by omega) 0 (.slice A ps.length ca)).far (c := w.heap.size) (by omega) 1 (.slice B rs.length cb)).owned
            rw [HQ.out]
            exact ⟨A, B, ca, cb, rfl, own_base OP (by omega), own_base OA (by omega), hpa, (K.setCell (by simp) _).setCell (by simp) _⟩
        · have HRR : Hid (readL 1 [] [] L = .inl (k + 1)) := Lib.hid (by rw [HR.out, HD.out, readL, if_neg hx])
          have HQ := Lib.hid (HBAD.out _ HRR.out)
          have hne : (tx x).toList.isEmpty = false := by rw [ByteArray.toList_eq, tx_data]; simpa using hx
          clear HR HD HLE hj HBAD HNO HYES
          go_wp2
          exact bodyPost_ret (v := .tuple #[.agg #[.slice none 0 0, .slice none 0 0], .int .i64 ((k + 1 : Nat) : Int)]) (by simp [results, Tryd.results13, go_sem, r0, r1]) rfl (rdMade_zero HQ.out ((K.setCell (by simp) _).setCell (by simp) _))
      · have hkj : k < j := by omega
        have hk1m : k + 1 < m := by omega
        have hne : ((k : Int) == (j : Int)) = false := beq_eq_false_iff_ne.2 (by omega)
        obtain ⟨x, HD, hxl⟩ : ∃ x, Hid (L.getD k [] = x ∧ ∃ y r, L.drop k = x :: y :: r ∧ L.drop (k + 1) = y :: r) ∧ x.length ≤ 1048575 := by
          have hk' : k < L.length := by have := HM.out; omega
          have hk2 : k + 1 < L.length := by have := HM.out; omega
          refine ⟨L[k], Lib.hid ⟨by simp [hk'], L[k + 1], L.drop (k + 2), ?_, ?_⟩, ?_⟩
          · rw [List.drop_eq_getElem_cons hk', List.drop_eq_getElem_cons hk2]
          · rw [List.drop_eq_getElem_cons hk2]
          · have := HLE.out L[k] (List.getElem_mem _); omega
        rw [HD.out.1] at c0
        have HSTEP : Hid (readL 1 [] [] L = match addL ps rs x with
            | none => .inl (k + 1)
            | some st => readL (k + 1 + 1) st.1 st.2 (L.drop (k + 1))) := Lib.hid (by
          obtain ⟨-, y, r, e1, e2⟩ := HD.out
          rw [HR.out, e1, e2, readL]
          cases addL ps rs x <;> rfl)
        have HAD := Lib.hid (show addL ps rs x = match (if rs.length = 0 then lineIs nodeW 2 x else none) with
          | some zs => some (ps ++ [(zs.getD 0 0, zs.getD 1 0)], rs)
          | none => match lineIs arcW 3 x with
            | some zs => some (ps, rs ++ [(zs.getD 0 0, zs.getD 1 0, zs.getD 2 0)])
            | none => none from rfl)
        have HNA := Lib.hid (fun zs h => node_not_arc (l := x) (zs := zs) h)
        clear HR HD HLE hj hlast
        obtain ⟨A, ca, B, cb, rfl, rfl⟩ := N.vals
        go_wp2_with fail
        refine (l03Line_any x nodeW 2 _ (by omega) (by omega)).mono ?_; rintro e w2 ⟨A2, c2, b2, M2⟩
        have c1 := cell_under b2 c0
        replace hszz := Nat.le_trans hszz b2.size
        replace R := R.below b2
        replace Q := Q.below b2
        replace N := N.below b2
        replace S := S.below b2
        replace K := K.trans (b2.mono K.size)
        clear b2 c0
        cases hnd : lineIs nodeW 2 x with
        | some zs =>
          rw [hnd] at M2
          obtain ⟨rfl, O2⟩ := M2
          have har : lineIs arcW 3 x = none := HNA.out zs hnd
          go_wp2_with fail
          refine (l03Line_any x arcW 3 _ (by omega) (by omega)).mono ?_; rintro e w3 ⟨A3', c3, b3, M3⟩
          rw [har] at M3
          obtain rfl := M3
          have hzl := lineIs_len hnd
          replace O2 := O2.below b3
          replace hszz := Nat.le_trans hszz b3.size
          replace R := R.below b3
          replace Q := Q.below b3
          replace N := N.below b3
          replace S := S.below b3
          replace K := K.trans (b3.mono K.size)
          clear b3 c1
          by_cases hrs : rs.length = 0
          · have HNX : Hid (readL 1 [] [] L = readL (k + 1 + 1) (ps ++ [(zg zs 0, zg zs 1)]) rs (L.drop (k + 1))) := Lib.hid (by
              have h1 := HSTEP.out
              have h2 := HAD.out
              rw [if_pos hrs, hnd] at h2
              rw [h2] at h1; exact h1)
            obtain ⟨b2, o2, rfl, -, z0⟩ := O2.ints.at_ (k := 0) (by omega)
            obtain ⟨b2', o2', e2, -, z1⟩ := O2.ints.at_ (k := 1) (by omega)
            cases e2
            obtain ⟨q0, q1, q2, q3⟩ := Q.cells
            obtain ⟨r0, r1, r2, r3⟩ := R.cells
            rw [hzl]
            clear HSTEP HAD HNA hnd har O2
            have q0d : w3.drew.cell? ⟨w.heap.size + 1, 0, none⟩ = some (.slice A ps.length ca) := q0
            have z0d : w3.drew.cell? ⟨b2, o2 + 0, none⟩ = some (.int .i64 (zg zs 0)) := z0
            have z1d : w3.drew.cell? ⟨b2, o2 + 1, none⟩ = some (.int .i64 (zg zs 1)) := z1
            have k4 := (below1 w3 (.cells #[.int .i64 (zg zs 0), .int .i64 (zg zs 1)] 44)).drew
            have N4 := N.below k4
            have Q4 : Pair (w3.alloc (.cells #[.int .i64 (zg zs 0), .int .i64 (zg zs 1)] 44)).drew (w.heap.size + 1) 27 (.slice A ps.length ca) (.slice B rs.length cb) := Q.below k4
            have R4 : Pair (w3.alloc (.cells #[.int .i64 (zg zs 0), .int .i64 (zg zs 1)] 44)).drew w.heap.size 27 (.slice none 0 0) (.slice none 0 0) := R.below k4
            have S4 : StrsAt (w3.alloc (.cells #[.int .i64 (zg zs 0), .int .i64 (zg zs 1)] 44)).drew gl 0 L := S.below k4
            have K4 := K.trans (k4.mono K.size)
            have q0a : (w3.alloc (.cells #[.int .i64 (zg zs 0), .int .i64 (zg zs 1)] 44)).drew.cell? ⟨w.heap.size + 1, 0, none⟩ = some (.slice A ps.length ca) := cell_under k4 q0
            have hs4 : w3.heap.size + 1 = (w3.alloc (.cells #[.int .i64 (zg zs 0), .int .i64 (zg zs 1)] 44)).drew.heap.size := (World.size_alloc w3 _).symm
            have hsz : w1.heap.size ≤ w3.heap.size := hszz
            rw [Nat.add_zero] at z0d
            clear q0 q2 q3 r0 r1 r2 r3 z0 z1 k4
            have hr0 : (((rs.length : Nat) : Int) == 0) = true := by rw [hrs]; rfl
            go_wp2_with fail
            clear q1 hr0
            go_region_law (first
              | (refine step_append_lies _ rfl (.tmp 65) (.tmp 73) 24 rfl w1.heap.size 44 i0 (.agg #[.int .i64 0, .int .i64 0]) 2 16 Tryd.underlying24 hi hz0 hz1 hz2 rfl (by decide) _ ps.length _ rfl N4.pts ⟨w3.heap.size, 0, none⟩ 1 1 (cellsP [(zg zs 0, zg zs 1)]) rfl rfl (fun j u h => cells2N w3 (zg zs 0, zg zs 1) _ j u h) (cellsP_one _) (by decide) (by unfold maxLen; omega) (by omega) (by rw [← hs4]; omega) _ rfl ?_; intro g6 cap6 w6 own6 gr6 hg6 hl6; have Q6 := Q4.grownUp gr6 (fun g e => by have := ownsRow_block N4.pts g e; omega); obtain ⟨q60, q61, q62, q63⟩ := Q6.cells))
            all_goals (
              have hbk := ownsRow_block N4.pts
              have N6 := N4.node rfl own6 gr6 hg6
              have R6 := R4.grownUp gr6 (fun g e => by have := hbk g e; omega)
              have S6 := S4.grown gr6 (fun e => by have := hbk gl e; omega)
              have hs6 : w1.heap.size ≤ w6.heap.size := by have := gr6.size; rw [← hs4] at this; omega
              have K6 := K4.grown gr6 (by have := K.size; rw [← hs4]; omega) (fun g e => by have := hbk g e; omega)
              replace Q6 := Q6.set0 (.slice (some ⟨g6, 0, none⟩) (ps.length + 1) cap6)
              replace R6 := R6.far (c := w.heap.size + 1) (by omega) 0 (.slice (some ⟨g6, 0, none⟩) (ps.length + 1) cap6)
              replace N6 := N6.far (c := w.heap.size + 1) (by omega) 0 (.slice (some ⟨g6, 0, none⟩) (ps.length + 1) cap6)
              replace S6 := S6.far (c := w.heap.size + 1) (by omega) 0 (.slice (some ⟨g6, 0, none⟩) (ps.length + 1) cap6)
              replace K6 : Below w.heap.size w (w6.setCell ⟨w.heap.size + 1, 0, none⟩ (.slice (some ⟨g6, 0, none⟩) (ps.length + 1) cap6)) := K6.setCell (by simp) _
              replace hs6 : w1.heap.size ≤ (w6.setCell ⟨w.heap.size + 1, 0, none⟩ (.slice (some ⟨g6, 0, none⟩) (ps.length + 1) cap6)).heap.size := by simpa [World.setCell] using hs6
              clear own6 gr6 hg6 hl6 hbk q60 q61 q62 q63 N4 R4 S4 K4 Q4 q0a q0d z0d z1d hs4 hsz N Q R S K
              go_wp2
              go_roundw
              case rel => exact ⟨k + 1, ps ++ [(zg zs 0, zg zs 1)], rs, _, _, by omega, by rw [List.length_append]; simp; omega, by first | rfl | go_num, HNX, R6, Q6, N6, S6, hs6, K6⟩
              case measure => simp [intOf]; omega)
          · have HQ := Lib.hid (HBAD.out (k + 1) (by
              have h1 := HSTEP.out
              have h2 := HAD.out
              rw [if_neg hrs, har] at h2
              rw [h2] at h1; exact h1))
            obtain ⟨r0, r1, r2, r3⟩ := R.cells
            obtain ⟨q0, q1, q2, q3⟩ := Q.cells
            have hr0 : (((rs.length : Nat) : Int) == 0) = false := beq_eq_false_iff_ne.2 (by omega)
            clear HBAD HNO HYES HSTEP HAD HNA hnd har O2 hrs
            go_wp2
            exact bodyPost_ret (v := .tuple #[.agg #[.slice none 0 0, .slice none 0 0], .int .i64 ((k + 1 : Nat) : Int)]) (by simp [results, Tryd.results13, go_sem, r0, r1]) rfl (rdMade_zero HQ.out ((K.setCell (by simp) _).setCell (by simp) _))
        | none =>
          rw [hnd] at M2
          obtain rfl := M2
          cases har : lineIs arcW 3 x with
          | some zs =>
            go_wp2_with fail
            refine (l03Line_any x arcW 3 _ (by omega) (by omega)).mono ?_; rintro e w3 ⟨A3', c3, b3, M3⟩
            rw [har] at M3
            obtain ⟨rfl, O3⟩ := M3
            have hzl := lineIs_len har
            have HNX : Hid (readL 1 [] [] L = readL (k + 1 + 1) ps (rs ++ [(zg zs 0, zg zs 1, zg zs 2)]) (L.drop (k + 1))) := Lib.hid (by
              have h1 := HSTEP.out
              have h2 := HAD.out
              rw [hnd, har, ite_self] at h2
              rw [h2] at h1; exact h1)
            replace hszz := Nat.le_trans hszz b3.size
            replace R := R.below b3
            replace Q := Q.below b3
            replace N := N.below b3
            replace S := S.below b3
            replace K := K.trans (b3.mono K.size)
            clear b3 c1
            obtain ⟨b2, o2, rfl, -, z0⟩ := O3.ints.at_ (k := 0) (by omega)
            obtain ⟨b2', o2', e2, -, z1⟩ := O3.ints.at_ (k := 1) (by omega)
            cases e2
            obtain ⟨b2', o2', e2, -, z2⟩ := O3.ints.at_ (k := 2) (by omega)
            cases e2
            obtain ⟨q0, q1, q2, q3⟩ := Q.cells
            rw [hzl]
            clear HSTEP HAD HNA hnd har O3
            have q1d : w3.drew.cell? ⟨w.heap.size + 1, 1, none⟩ = some (.slice B rs.length cb) := q1
            have z0d : w3.drew.cell? ⟨b2, o2 + 0, none⟩ = some (.int .i64 (zg zs 0)) := z0
            have z1d : w3.drew.cell? ⟨b2, o2 + 1, none⟩ = some (.int .i64 (zg zs 1)) := z1
            have z2d : w3.drew.cell? ⟨b2, o2 + 2, none⟩ = some (.int .i64 (zg zs 2)) := z2
            rw [Nat.add_zero] at z0d
            have k4 := (below1 w3 (.cells #[.int .i64 (zg zs 0), .int .i64 (zg zs 1), .int .i64 (zg zs 2)] 51)).drew
            have N4 := N.below k4
            have Q4 : Pair (w3.alloc (.cells #[.int .i64 (zg zs 0), .int .i64 (zg zs 1), .int .i64 (zg zs 2)] 51)).drew (w.heap.size + 1) 27 (.slice A ps.length ca) (.slice B rs.length cb) := Q.below k4
            have R4 : Pair (w3.alloc (.cells #[.int .i64 (zg zs 0), .int .i64 (zg zs 1), .int .i64 (zg zs 2)] 51)).drew w.heap.size 27 (.slice none 0 0) (.slice none 0 0) := R.below k4
            have S4 : StrsAt (w3.alloc (.cells #[.int .i64 (zg zs 0), .int .i64 (zg zs 1), .int .i64 (zg zs 2)] 51)).drew gl 0 L := S.below k4
            have K4 := K.trans (k4.mono K.size)
            have q1a : (w3.alloc (.cells #[.int .i64 (zg zs 0), .int .i64 (zg zs 1), .int .i64 (zg zs 2)] 51)).drew.cell? ⟨w.heap.size + 1, 1, none⟩ = some (.slice B rs.length cb) := cell_under k4 q1
            have hs4 : w3.heap.size + 1 = (w3.alloc (.cells #[.int .i64 (zg zs 0), .int .i64 (zg zs 1), .int .i64 (zg zs 2)] 51)).drew.heap.size := (World.size_alloc w3 _).symm
            have hsz : w1.heap.size ≤ w3.heap.size := hszz
            clear q0 q2 q3 z0 z1 z2 k4
            go_wp2_with fail
            clear q1
            go_region_law (first
              | (refine step_append_lies _ rfl (.tmp 79) (.tmp 90) 25 rfl w1.heap.size 51 i1 (.agg #[.int .i64 0, .int .i64 0, .int .i64 0]) 3 24 Tryd.underlying25 hi' hy0 hy1 hy2 rfl (by decide) _ rs.length _ rfl N4.arcs ⟨w3.heap.size, 0, none⟩ 1 1 (cellsA [(zg zs 0, zg zs 1, zg zs 2)]) rfl rfl (fun j u h => cells3_new w3 (zg zs 0, zg zs 1, zg zs 2) _ j u h) (cellsA_one _) (by decide) (by unfold maxLen; omega) (by omega) (by rw [← hs4]; omega) _ rfl ?_; intro g6 cap6 w6 own6 gr6 hg6 hl6; have Q6 := Q4.grownUp gr6 (fun g e => by have := ownsRow_block N4.arcs g e; omega); obtain ⟨q60, q61, q62, q63⟩ := Q6.cells))
            all_goals (
              have hbk := ownsRow_block N4.arcs
              have N6 := N4.arc rfl own6 gr6 hg6
              have R6 := R4.grownUp gr6 (fun g e => by have := hbk g e; omega)
              have S6 := S4.grown gr6 (fun e => by have := hbk gl e; omega)
              have hs6 : w1.heap.size ≤ w6.heap.size := by have := gr6.size; rw [← hs4] at this; omega
              have K6 := K4.grown gr6 (by have := K.size; rw [← hs4]; omega) (fun g e => by have := hbk g e; omega)
              replace Q6 := Q6.set1 (.slice (some ⟨g6, 0, none⟩) (rs.length + 1) cap6)
              replace R6 := R6.far (c := w.heap.size + 1) (by omega) 1 (.slice (some ⟨g6, 0, none⟩) (rs.length + 1) cap6)
              replace N6 := N6.far (c := w.heap.size + 1) (by omega) 1 (.slice (some ⟨g6, 0, none⟩) (rs.length + 1) cap6)
              replace S6 := S6.far (c := w.heap.size + 1) (by omega) 1 (.slice (some ⟨g6, 0, none⟩) (rs.length + 1) cap6)
              replace K6 : Below w.heap.size w (w6.setCell ⟨w.heap.size + 1, 1, none⟩ (.slice (some ⟨g6, 0, none⟩) (rs.length + 1) cap6)) := K6.setCell (by simp) _
              replace hs6 : w1.heap.size ≤ (w6.setCell ⟨w.heap.size + 1, 1, none⟩ (.slice (some ⟨g6, 0, none⟩) (rs.length + 1) cap6)).heap.size := by simpa [World.setCell] using hs6
              clear own6 gr6 hg6 hl6 hbk q60 q61 q62 q63 N4 R4 S4 K4 Q4 q1a q1d z0d z1d z2d hs4 hsz N Q R S K
              go_wp2
              go_roundw
              case rel => exact ⟨k + 1, ps, rs ++ [(zg zs 0, zg zs 1, zg zs 2)], _, _, by omega, by rw [List.length_append]; simp; omega, by first | rfl | go_num, HNX, R6, Q6, N6, S6, hs6, K6⟩
              case measure => simp [intOf]; omega)
          | none =>
            go_wp2_with fail
            refine (l03Line_any x arcW 3 _ (by omega) (by omega)).mono ?_; rintro e w3 ⟨A3', c3, b3, M3⟩
            rw [har] at M3
            obtain rfl := M3
            replace R := R.below b3
            replace Q := Q.below b3
            replace K := K.trans (b3.mono K.size)
            clear b3 c1
            have HQ := Lib.hid (HBAD.out (k + 1) (by
              have h1 := HSTEP.out
              have h2 := HAD.out
              rw [hnd, har, ite_self] at h2
              rw [h2] at h1; exact h1))
            obtain ⟨r0, r1, r2, r3⟩ := R.cells
            obtain ⟨q0, q1, q2, q3⟩ := Q.cells
            clear HBAD HNO HYES HSTEP HAD HNA
            go_wp2
            exact bodyPost_ret (v := .tuple #[.agg #[.slice none 0 0, .slice none 0 0], .int .i64 ((k + 1 : Nat) : Int)]) (by simp [results, Tryd.results13, go_sem, r0, r1]) rfl (rdMade_zero HQ.out ((K.setCell (by simp) _).setCell (by simp) _))

end Go.Proofs.YtjaifbbkfgfdeaaDoor
