/-
  heap.Push, heap.Fix (of a key that decreased) and heap.Pop over the queue; (*queue).put and (*queue).take.
-/
import Derived.Test.YtdobiapnkdgjoaaHeapDn
namespace Go.Proofs.Ytdobiapnkdgjoaa
open Go.RowKit Go.Deep Go.Maps

set_option maxRecDepth 1000000 in
set_option maxHeartbeats 16000000 in
theorem heapDown_none (w : World) (base qa : Nat) (q : List (Int × Int)) (i : Nat) (hi : i < q.length) (hn : q.length ≤ 2097152) (hno : ∀ c, 0 < c → c < q.length → (c - 1) / 2 = i → ¬ ltI (ptg q c) (ptg q i)) (h : QSt w base qa q) :
    Calls Try.prog 146 #[.iface 101 (.pointer (some ⟨qa, 0, none⟩)), .int .i64 (i : Int), .int .i64 (q.length : Int)] w fun e w' => e = .returned (.bool false) ∧ Below w.heap.size w w' := by
  obtain ⟨n, hnq⟩ : ∃ n, n = q.length := ⟨_, rfl⟩
  have hn' : q.length ≤ 4194304 := by omega
  have HNQ := Lib.hid hnq
  have hA0 : n ≤ q.length ∧ q.length ≤ n := by omega
  rw [← hnq]
  clear hnq
  go_enter Try.func146, Try.ntmps146
  go_wp2_with fail
  go_loopw [7] (fun x wr => x = .int .i64 (i : Int) ∧ QSt wr base qa q ∧ Below w.heap.size w wr) (fun _ _ => 0)
  case atStart => exact ⟨rfl, h, Below.refl _ _⟩
  case round =>
    clear h
    obtain ⟨rfl, h, K⟩ := hrel
    obtain ⟨c1, hc1⟩ : ∃ c1 : Nat, c1 = 2 * i + 1 := ⟨_, rfl⟩
    obtain ⟨c2, hc2'⟩ : ∃ c2 : Nat, c2 = c1 + 1 := ⟨_, rfl⟩
    by_cases hlt : c1 < n
    · have hj1 : 2 * (i : Int) + 1 = c1 := by omega
      have hj2 : (c1 : Int) + 1 = c2 := by omega
      have hg1 : ¬ (c1 : Int) ≥ n := by omega
      have hg2 : decide ((c1 : Int) ≥ n) = false := decide_eq_false hg1
      have hg2' : decide ((n : Int) ≤ c1) = false := decide_eq_false (by omega)
      have hg3 : ¬ (c1 : Int) < 0 := by omega
      have hA : 2 * i + 1 ≤ c1 ∧ c1 ≤ 2 * i + 1 ∧ 2 * i + 2 ≤ c2 ∧ c2 ≤ 2 * i + 2 := by omega
      clear hc1 hc2'
      by_cases hc2 : c2 < n
      · have hi2 : (c2 : Int) < n := by omega
        have hd2 : decide ((c2 : Int) < n) = true := decide_eq_true hi2
        have HL1 := Lib.hid (fun (W : World) (g : QSt W base qa q) => queueLess_any W base qa q c2 c1 (by omega) (by omega) hn' g)
        cases ht : ltB (ptg q c2) (ptg q c1) with
        | false =>
          have hs : ltB (ptg q c1) (ptg q i) = false := by
            cases e : ltB (ptg q c1) (ptg q i) with
            | false => rfl
            | true => exact absurd (ltB_iff.1 e) (hno c1 (by omega) (by omega) (by omega))
          have HL2 := Lib.hid (fun (W : World) (g : QSt W base qa q) => queueLess_any W base qa q c1 i (by omega) (by omega) hn' g)
          rw [hs] at HL2
          rw [ht] at HL1
          clear ht
          clear hs hno
          have m1 := mLess
          go_wp2_with fail
          refine (HL1.out wr h).mono ?_; rintro e w1 ⟨rfl, b1⟩
          have h1 := h.below b1
          have K1 : Below w.heap.size w w1 := K.trans (b1.mono K.size)
          clear h K b1 HL1
          go_wp2_with fail
          refine (HL2.out w1 h1).mono ?_; rintro e w2 ⟨rfl, b2⟩
          have K2 : Below w.heap.size w w2 := K1.trans (b2.mono K1.size)
          clear h1 K1 b2 HL2 m1
          go_wp2
          go_ret
          exact ⟨by first | rfl | simp, K2⟩
        | true =>
          have hs : ltB (ptg q c2) (ptg q i) = false := by
            cases e : ltB (ptg q c2) (ptg q i) with
            | false => rfl
            | true => exact absurd (ltB_iff.1 e) (hno c2 (by omega) (by omega) (by omega))
          have HL2 := Lib.hid (fun (W : World) (g : QSt W base qa q) => queueLess_any W base qa q c2 i (by omega) (by omega) hn' g)
          rw [hs] at HL2
          rw [ht] at HL1
          clear ht
          clear hs hno
          have m1 := mLess
          go_wp2_with fail
          refine (HL1.out wr h).mono ?_; rintro e w1 ⟨rfl, b1⟩
          have h1 := h.below b1
          have K1 : Below w.heap.size w w1 := K.trans (b1.mono K.size)
          clear h K b1 HL1
          go_wp2_with fail
          refine (HL2.out w1 h1).mono ?_; rintro e w2 ⟨rfl, b2⟩
          have K2 : Below w.heap.size w w2 := K1.trans (b2.mono K1.size)
          clear h1 K1 b2 HL2 m1
          go_wp2
          go_ret
          exact ⟨by first | rfl | simp, K2⟩
      · have hi2 : ¬ (c2 : Int) < n := by omega
        have hd2 : decide ((c2 : Int) < n) = false := decide_eq_false hi2
        have hs : ltB (ptg q c1) (ptg q i) = false := by
          cases e : ltB (ptg q c1) (ptg q i) with
          | false => rfl
          | true => exact absurd (ltB_iff.1 e) (hno c1 (by omega) (by omega) (by omega))
        have HL2 := Lib.hid (fun (W : World) (g : QSt W base qa q) => queueLess_any W base qa q c1 i (by omega) (by omega) hn' g)
        rw [hs] at HL2
        clear hs hno
        have m1 := mLess
        have b1 := Below.refl wr.heap.size wr
        obtain ⟨w1, hw1⟩ : ∃ w1, w1 = wr := ⟨_, rfl⟩
        subst hw1
        have h1 := h.below b1
        have K1 : Below w.heap.size w w1 := K.trans (b1.mono K.size)
        clear h K b1
        go_wp2_with fail
        refine (HL2.out w1 h1).mono ?_; rintro e w2 ⟨rfl, b2⟩
        have K2 : Below w.heap.size w w2 := K1.trans (b2.mono K1.size)
        clear h1 K1 b2 HL2 m1
        go_wp2
        go_ret
        exact ⟨by first | rfl | simp, K2⟩
    · have hj1 : 2 * (i : Int) + 1 = c1 := by omega
      have hg1 : (c1 : Int) ≥ n := by omega
      have hg2 : decide ((c1 : Int) ≥ n) = true := decide_eq_true hg1
      have hg2' : decide ((n : Int) ≤ c1) = true := decide_eq_true (by omega)
      clear hc1 hc2' hno
      go_wp2
      go_ret
      exact ⟨by first | rfl | simp, K⟩

theorem ptg_snoc (q : List (Int × Int)) (x : Int × Int) (i : Nat) : ptg (q ++ [x]) i = if i < q.length then ptg q i else if i = q.length then x else (0, 0) := by
  unfold ptg
  by_cases h : i < q.length
  · rw [if_pos h]; simp [List.getElem?_append, h]
  · rw [if_neg h]
    by_cases e : i = q.length
    · subst e; simp
    · rw [if_neg e]; simp [List.getElem?_append, h, show ¬ i - q.length = 0 by omega]
theorem heapUp_snoc {q : List (Int × Int)} {x : Int × Int} (h : HeapN q q.length) : HeapUp (q ++ [x]) q.length :=
  ⟨fun c c0 cl ce => by
    have hc : c < q.length := by simp at cl; omega
    rw [ptg_snoc, ptg_snoc, if_pos hc, if_pos (by omega)]; exact h c c0 hc,
   fun c c0 cl ce _ => by simp at cl; omega⟩

set_option maxRecDepth 1000000 in
set_option maxHeartbeats 4000000 in
theorem heapPush_any (w : World) (base qa : Nat) (q : List (Int × Int)) (k d : Int) (hd : In64 d) (hn : q.length ≤ 1048576) (hfresh : ∀ i, i < q.length → idg q i ≠ d) (hh : HeapN q q.length) (h : QSt w base qa q) :
    Calls Try.prog 120 #[.iface 101 (.pointer (some ⟨qa, 0, none⟩)), .iface 45 (.agg #[.int .i64 k, .int .i64 d])] w (HeapMade w base qa (q ++ [(k, d)])) := by
  have HU := Lib.hid (heapUp_snoc (x := (k, d)) hh)
  have HP := Lib.hid (queuePush_any w base qa q k d hd (by omega) hfresh h)
  have hl : (q ++ [(k, d)]).length = q.length + 1 := by simp
  have HL := Lib.hid hl
  have hw1 : ((q.length + 1 : Nat) : Int) - 1 = q.length := by omega
  have m1 := mPush
  have m2 := mLen
  clear hh hfresh hl h
  go_enter Try.func120, Try.ntmps120
  go_wp2_with fail
  refine HP.out.mono ?_; rintro e w1 ⟨rfl, h1, b1⟩
  have HN := Lib.hid (queueLen_any w1 base qa _ h1)
  rw [HL.out] at HN
  have HV := Lib.hid (heapUp_any w1 base qa (q ++ [(k, d)]) q.length (by rw [HL.out]; omega) (by rw [HL.out]; omega) HU.out h1)
  clear HP h1
  go_wp2_with fail
  refine HN.out.mono ?_; rintro e w' ⟨rfl, rfl⟩
  go_wp2_with fail
  refine HV.out.mono ?_; rintro e w2 ⟨rfl, q', p2, hh2, h2, b2⟩
  go_wp2
  go_end0
  exact ⟨rfl, q', p2, hh2, h2, b1.trans b2⟩

end Go.Proofs.Ytdobiapnkdgjoaa
