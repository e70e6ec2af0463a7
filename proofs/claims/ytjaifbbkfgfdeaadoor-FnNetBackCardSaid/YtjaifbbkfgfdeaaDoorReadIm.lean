/-
  What impl.NetRead computes.
-/
import Derived.Test.YtjaifbbkfgfdeaaDoorWithLine
import Derived.Test.YtjaifbbkfgfdeaaDoorReadSp
import Derived.Test.YtjaifbbkfgfdeaaDoorNetOkI
import Derived.Deep.LoopGhost
namespace Go.Proofs.YtjaifbbkfgfdeaaDoor
open Go.RowKit Go.Deep

theorem addL_len {ps : List (Int × Int)} {rs : List A3} {l : List UInt8} {st : List (Int × Int) × List A3} (h : addL ps rs l = some st) : st.1.length + st.2.length ≤ ps.length + rs.length + 1 := by
  unfold addL at h
  split at h
  · cases h; simp; omega
  · split at h
    · cases h; simp; omega
    · cases h
theorem Pair.belowB {w w' : World} {b B : Nat} {t : TypeId} {u v : Value} (h : Pair w b t u v) (hb : Below B w w') (hB : b < B) : Pair w' b t u v := (hb.block b hB).trans h

set_option maxRecDepth 100000 in
set_option maxHeartbeats 4000000 in
theorem implNetRead_any (s : List UInt8) (w : World) (hs : s.length ≤ 1048576) (hx : MaxV w) (hv : LibVars w) :
    Calls Tryd.prog 10 #[.string (tx s)] w (RdMade w (rdNet s)) := by
  have hsl : (tx s).size = s.length := tx_size s
  have R := Pair.new w 27 (.slice none 0 0) (.slice none 0 0)
  have K := below1 w (.cells #[.slice none 0 0, .slice none 0 0] 27)
  by_cases hbig : 4000 < s.length
  · have HQ := Lib.hid (rd_long hbig)
    have hgt : (4000 : Int) < ((s.length : Nat) : Int) := by omega
    obtain ⟨r0, r1, r2, r3⟩ := R.cells
    go_enter Tryd.func10, Tryd.ntmps10
    go_wp2
    exact bodyPost_ret (v := .tuple #[.agg #[.slice none 0 0, .slice none 0 0], .int .i64 (-1)]) (by simp [results, Tryd.results10, go_sem, r0, r1]) rfl (rdMade_zero HQ.out K)
  · have HBAD := Lib.hid (fun k h => rd_bad (s := s) (k := k) hbig h)
    have HNO := Lib.hid (fun ps rs h hn => rd_no (s := s) (ps := ps) (rs := rs) hbig h hn)
    have HYES := Lib.hid (fun ps rs h hn => rd_yes (s := s) (ps := ps) (rs := rs) hbig h hn)
    have Q : Pair ((w.alloc (.cells #[.slice none 0 0, .slice none 0 0] 27)).alloc (.cells #[.slice none 0 0, .slice none 0 0] 27)) (w.heap.size + 1) 27 (.slice none 0 0) (.slice none 0 0) := by
      have := Pair.new (w.alloc (.cells #[.slice none 0 0, .slice none 0 0] 27)) 27 (.slice none 0 0) (.slice none 0 0); rwa [World.size_alloc] at this
    replace R := R.alloc (.cells #[.slice none 0 0, .slice none 0 0] 27)
    replace K := below2 w (.cells #[.slice none 0 0, .slice none 0 0] 27) (.cells #[.slice none 0 0, .slice none 0 0] 27)
    have hle : ((s.length : Nat) : Int) ≤ 4000 := by omega
    have HX := Lib.hid hx
    have HV := Lib.hid hv
    clear hx hv
    go_enter Tryd.func10, Tryd.ntmps10
    go_wp2
    go_loopg [5, 6] (s.length + 1) (fun gk rest num wr => ∃ (l : List UInt8) (k : Nat) (ps : List (Int × Int)) (rs : List A3) (NV V : Value), l.length ≤ gk ∧ rest = .string (tx l) ∧ num = .int .i64 k ∧ l.length + k ≤ 4001 ∧ ps.length + rs.length + 1 ≤ k ∧ Hid (readL 1 [] [] (splitL 10 s) = readL k ps rs (splitL 10 l)) ∧ Pair wr w.heap.size 27 (.slice none 0 0) (.slice none 0 0) ∧ Pair wr (w.heap.size + 1) 27 NV V ∧ NRow wr (w.heap.size + 2) NV V ps rs ∧ w.heap.size + 2 ≤ wr.heap.size ∧ Below w.heap.size w wr)
    case atStart => exact ⟨s, 1, [], [], _, _, by omega, rfl, rfl, by omega, by simp, Lib.hid rfl, R, Q, NRow.nil _ _, by simp, K⟩
    case round =>
      clear R Q K
      obtain ⟨l, k, ps, rs, NV, V, hlg, rfl, rfl, hlk, hpk, HR, R, Q, N, hsz, K⟩ := hrel
      obtain ⟨A, ca, B, cb, rfl, rfl⟩ := N.vals
      by_cases hl : l = []
      · subst hl
        have HRR : Hid (readL 1 [] [] (splitL 10 s) = .inr (ps, rs)) := Lib.hid (by rw [HR.out]; exact readL_end k ps rs)
        have hemp : (tx ([] : List UInt8)).toList.isEmpty = true := by rw [ByteArray.toList_eq, tx_data]; rfl
        obtain ⟨q0, q1, q2, q3⟩ := Q.cells
        obtain ⟨-, -, OP, OA, hpa⟩ := N.owned
        have IP := ptsT OP
        have IA := arcsT OA
        cases hok : netB ps rs with
        | false =>
          have HQ := Lib.hid (HNO.out _ _ HRR.out hok)
          go_wp2_with fail
          refine (implNetOk_any A B ca cb ps rs _ (by omega) (by omega) IP IA).mono ?_; rintro e w2 ⟨rfl, b2⟩
          replace R := R.below b2
          replace K := K.trans (b2.mono K.size)
          clear q0 q1 q2 q3 OP OA hpa IP IA N b2 HBAD HNO HYES HR HRR
          obtain ⟨r0, r1, r2, r3⟩ := R.cells
          go_wp2
          exact bodyPost_ret (v := .tuple #[.agg #[.slice none 0 0, .slice none 0 0], .int .i64 (-1)]) (by simp [results, Tryd.results10, go_sem, r0, r1]) rfl (rdMade_zero HQ.out ((K.setCell (by simp) _).setCell (by simp) _))
        | true =>
          have HQ := Lib.hid (HYES.out _ _ HRR.out hok)
          go_wp2_with fail
          refine (implNetOk_any A B ca cb ps rs _ (by omega) (by omega) IP IA).mono ?_; rintro e w2 ⟨rfl, b2⟩
          replace R := R.below b2
          replace Q := Q.below b2
          replace N := N.below b2
          replace K := K.trans (b2.mono K.size)
          clear q0 q1 q2 q3 OP OA hpa IP IA b2 HBAD HNO HYES HR HRR
          obtain ⟨r0, r1, r2, r3⟩ := R.cells
          obtain ⟨q0, q1, q2, q3⟩ := Q.cells
          go_wp2
          refine bodyPost_ret (v := .tuple #[.agg #[.slice A ps.length ca, .slice B rs.length cb], .int .i64 0]) (by simp [results, Tryd.results10, go_sem, r0, r1]) rfl ?_
          obtain ⟨-, -, OP, OA, hpa⟩ := ((N.far (c := w.heap.size) (by omega) 0 (.slice A ps.length ca)).far (c := w.heap.size) (by omega) 1 (.slice B rs.length cb)).owned
          rw [HQ.out]
          exact ⟨A, B, ca, cb, rfl, own_base OP (by omega), own_base OA (by omega), hpa, (K.setCell (by simp) _).setCell (by simp) _⟩
      · have hemp : (tx l).toList.isEmpty = false := by rw [ByteArray.toList_eq, tx_data]; simpa using hl
        have hlp : 0 < l.length := List.length_pos_iff.2 hl
        have HNE := Lib.hid hl
        clear hl
        go_wp2_with fail
        refine (cut_any l _ (by omega) (HX.out.below K)).mono ?_; rintro e w2 ⟨P, b2⟩
        replace R := R.below b2
        replace Q := Q.below b2
        replace N := N.below b2
        replace hsz := Nat.le_trans hsz b2.size
        replace K := K.trans (b2.mono K.size)
        clear b2
        obtain ⟨q0, q1, q2, q3⟩ := Q.cells
        rcases P with ⟨hno, rfl⟩ | ⟨a, r, hlr, hno, rfl⟩
        · have HRR : Hid (readL 1 [] [] (splitL 10 s) = .inl k) := Lib.hid (by rw [HR.out]; exact readL_miss k ps rs l hno HNE.out)
          have HQ := Lib.hid (HBAD.out _ HRR.out)
          clear hno HR HRR HBAD HNO HYES
          go_wp2_with fail
          clear q0 q1 q2 q3
          refine (withLine_any l _ _ ps rs (w.heap.size + 2) _ (by omega) (by omega) (by omega) hsz N (HX.out.below K) (HV.out.below K)).mono ?_; rintro e w3 ⟨b3, M⟩
          replace R := R.belowB b3 (by omega)
          replace K := K.trans (b3.mono (by omega))
          clear b3
          cases hadd : addL ps rs l with
          | none =>
            rw [hadd] at M
            obtain rfl := M
            have k4 := below1 w3 (.cells #[.slice none 0 0, .slice none 0 0] 27)
            replace R := R.below k4
            replace K := K.trans (k4.mono K.size)
            clear k4
            obtain ⟨r0, r1, r2, r3⟩ := R.cells
            go_wp2
            exact bodyPost_ret (v := .tuple #[.agg #[.slice none 0 0, .slice none 0 0], .int .i64 (k : Int)]) (by simp [results, Tryd.results10, go_sem, r0, r1]) rfl (rdMade_zero HQ.out ((K.setCell (by simp) _).setCell (by simp) _))
          | some st =>
            rw [hadd] at M
            obtain ⟨NV', V', rfl, N'⟩ := M
            obtain ⟨A', ca', B', cb', rfl, rfl⟩ := N'.vals
            have k4 := below1 w3 (.cells #[.slice A' st.1.length ca', .slice B' st.2.length cb'] 27)
            replace R := R.below k4
            replace K := K.trans (k4.mono K.size)
            clear k4 N'
            obtain ⟨r0, r1, r2, r3⟩ := R.cells
            go_wp2
            exact bodyPost_ret (v := .tuple #[.agg #[.slice none 0 0, .slice none 0 0], .int .i64 (k : Int)]) (by simp [results, Tryd.results10, go_sem, r0, r1]) rfl (rdMade_zero HQ.out ((K.setCell (by simp) _).setCell (by simp) _))
        · have hlen : a.length + r.length + 1 = l.length := by rw [hlr]; simp; omega
          have HST : Hid (readL 1 [] [] (splitL 10 s) = match addL ps rs a with
            | none => .inl k
            | some st => readL (k + 1) st.1 st.2 (splitL 10 r)) := Lib.hid (by rw [HR.out, hlr]; exact readL_line k ps rs a r hno)
          clear hno HR hlr
          go_wp2_with fail
          clear q0 q1 q2 q3
          refine (withLine_any a _ _ ps rs (w.heap.size + 2) _ (by omega) (by omega) (by omega) hsz N (HX.out.below K) (HV.out.below K)).mono ?_; rintro e w3 ⟨b3, M⟩
          have hsz3 := Nat.le_trans hsz b3.size
          replace R := R.belowB b3 (by omega)
          replace Q := Q.belowB b3 (by omega)
          replace K := K.trans (b3.mono (by omega))
          clear b3
          cases hadd : addL ps rs a with
          | none =>
            have HQ := Lib.hid (HBAD.out k (by have := HST.out; rw [hadd] at this; exact this))
            rw [hadd] at M
            obtain rfl := M
            have k4 := below1 w3 (.cells #[.slice none 0 0, .slice none 0 0] 27)
            replace R := R.below k4
            replace K := K.trans (k4.mono K.size)
            clear k4 HBAD HNO HYES HST
            obtain ⟨r0, r1, r2, r3⟩ := R.cells
            go_wp2
            exact bodyPost_ret (v := .tuple #[.agg #[.slice none 0 0, .slice none 0 0], .int .i64 (k : Int)]) (by simp [results, Tryd.results10, go_sem, r0, r1]) rfl (rdMade_zero HQ.out ((K.setCell (by simp) _).setCell (by simp) _))
          | some st =>
            have HNX : Hid (readL 1 [] [] (splitL 10 s) = readL (k + 1) st.1 st.2 (splitL 10 r)) := Lib.hid (by have := HST.out; rw [hadd] at this; exact this)
            have hst : st.1.length + st.2.length ≤ ps.length + rs.length + 1 := addL_len hadd
            rw [hadd] at M
            obtain ⟨NV', V', rfl, N'⟩ := M
            clear HST hadd N
            obtain ⟨A', ca', B', cb', rfl, rfl⟩ := N'.vals
            have Y := Pair.new w3 27 (.slice A' st.1.length ca') (.slice B' st.2.length cb')
            have k4 := below1 w3 (.cells #[.slice A' st.1.length ca', .slice B' st.2.length cb'] 27)
            replace R := R.below k4
            replace Q := Q.below k4
            replace N' := N'.below k4
            replace K := K.trans (k4.mono K.size)
            replace hsz3 := Nat.le_trans hsz3 k4.size
            clear k4
            obtain ⟨q0, q1, q2, q3⟩ := Q.cells
            obtain ⟨y0, y1, -, -⟩ := Y.cells
            have hwk : IntKind.i64.wrap ((k : Int) + 1) = ((k + 1 : Nat) : Int) := by rw [show (k : Int) + 1 = ((k + 1 : Nat) : Int) by omega]; exact IntWalk.i64_in _ (by omega)
            go_wp2
            go_roundg r.length
            case measure => omega
            case rel => exact ⟨r, k + 1, st.1, st.2, _, _, Nat.le_refl _, rfl, by first | rfl | go_num, by omega, by omega, HNX, (R.far (c := w.heap.size + 1) (by omega) 0 _).far (by omega) 1 _, (Q.set0 _).set1 _, (N'.far (c := w.heap.size + 1) (by omega) 0 _).far (by omega) 1 _, by simpa [World.setCell] using hsz3, (K.setCell (by simp) _).setCell (by simp) _⟩

end Go.Proofs.YtjaifbbkfgfdeaaDoor
