/-
  container/heap.down over the queue.
-/
import Derived.Test.YtdobiapnkdgjoaaHeapUp
namespace Go.Proofs.Ytdobiapnkdgjoaa
open Go.RowKit Go.Deep Go.Maps

/-- What down leaves: the first n items are a heap; the others are where they were. -/
def DnMade (w : World) (base qa : Nat) (q : List (Int × Int)) (n : Nat) (e : Ending) (w' : World) : Prop :=
  ∃ (b : Bool) (q' : List (Int × Int)), e = .returned (.bool b) ∧ q'.Perm q ∧ q'.length = q.length ∧ HeapN q' n ∧ (∀ k, n ≤ k → ptg q' k = ptg q k) ∧ QSt w' base qa q' ∧ Below base w w'
theorem QSt.base_le {w : World} {base qa : Nat} {q : List (Int × Int)} (h : QSt w base qa q) : base ≤ w.heap.size := by
  have := h.lt; obtain ⟨_, _, _, -, -, -, -, hqa, -⟩ := h; omega

set_option maxRecDepth 1000000 in
set_option maxHeartbeats 16000000 in
theorem heapDown_zero (w : World) (base qa : Nat) (q : List (Int × Int)) (n : Nat) (hnl : n ≤ q.length) (hn : q.length ≤ 2097152) (hd : HeapDn q n 0) (h : QSt w base qa q) :
    Calls Try.prog 146 #[.iface 101 (.pointer (some ⟨qa, 0, none⟩)), .int .i64 0, .int .i64 (n : Int)] w (DnMade w base qa q n) := by
  go_enter Try.func146, Try.ntmps146
  go_wp2_with fail
  go_loopw [7] (fun x wr => ∃ (q' : List (Int × Int)) (i : Nat), x = .int .i64 (i : Int) ∧ i ≤ q.length ∧ q'.length = q.length ∧ q'.Perm q ∧ HeapDn q' n i ∧ (∀ k, n ≤ k → ptg q' k = ptg q k) ∧ QSt wr base qa q' ∧ Below base w wr) (fun x _ => n - (intOf x).toNat)
  case atStart => exact ⟨q, 0, rfl, Nat.zero_le _, rfl, List.Perm.refl _, hd, fun _ _ => rfl, h, Below.refl _ _⟩
  case round =>
    clear h hd
    obtain ⟨q', i, rfl, hil, hl, hperm, hdn, hrest, h, K⟩ := hrel
    have hn' : q'.length ≤ 4194304 := by omega
    have hnl' : n ≤ q'.length := by omega
    have HLQ := Lib.hid hl
    clear hl
    obtain ⟨c1, hc1⟩ : ∃ c1 : Nat, c1 = 2 * i + 1 := ⟨_, rfl⟩
    obtain ⟨c2, hc2'⟩ : ∃ c2 : Nat, c2 = c1 + 1 := ⟨_, rfl⟩
    by_cases hlt : c1 < n
    · have hj1 : 2 * (i : Int) + 1 = c1 := by omega
      have hj2 : (c1 : Int) + 1 = c2 := by omega
      have hg1 : ¬ (c1 : Int) ≥ n := by omega
      have hg2 : decide ((c1 : Int) ≥ n) = false := decide_eq_false hg1
      have hg2' : decide ((n : Int) ≤ c1) = false := decide_eq_false (by omega)
      have hg3 : ¬ (c1 : Int) < 0 := by omega
      have hi0 : i < n := by omega
      have hcc : c1 = 2 * i + 1 ∧ c2 = 2 * i + 2 := by omega
      obtain ⟨he1, he2⟩ := hcc
      have hA : 2 * i + 1 ≤ c1 ∧ c1 ≤ 2 * i + 1 ∧ 2 * i + 2 ≤ c2 ∧ c2 ≤ 2 * i + 2 := by omega
      clear he1 he2 hc1 hc2'
      by_cases hc2 : c2 < n
      · have hi2 : (c2 : Int) < n := by omega
        have hd2 : decide ((c2 : Int) < n) = true := decide_eq_true hi2
        have HL1 := Lib.hid (fun (W : World) (g : QSt W base qa q') => queueLess_any W base qa q' c2 c1 (by omega) (by omega) hn' g)
        cases ht : ltB (ptg q' c2) (ptg q' c1) with
        | false =>
          cases hs : ltB (ptg q' c1) (ptg q' i) with
          | false =>
            have hmin : ∀ c, 0 < c → c < n → (c - 1) / 2 = i → ¬ ltI (ptg q' c) (ptg q' c1) := fun c g0 g1 g2 => by
              rcases (show c = c1 ∨ c = c2 by omega) with e | e
              · subst e; exact ltI_irr _
              · subst e; exact fun g => by rw [ltB_iff.2 g] at ht; cases ht
            have HF := Lib.hid (hdn.done (fun c g0 g1 g2 => nlt_trans (hmin c g0 g1 g2) (fun g => by rw [ltB_iff.2 g] at hs; cases hs)))
            have HL2 := Lib.hid (fun (W : World) (g : QSt W base qa q') => queueLess_any W base qa q' c1 i (by omega) (by omega) hn' g)
            rw [hs] at HL2
            rw [ht] at HL1
            clear ht
            clear hmin hs hdn
            have m1 := mLess
            go_wp2_with fail
            refine (HL1.out wr h).mono ?_; rintro e w1 ⟨rfl, b1⟩
            have hb1 := h.base_le
            have h1 := h.below b1
            have K1 : Below base w w1 := K.trans (b1.mono hb1)
            clear h K b1 hb1 HL1
            go_wp2_with fail
            refine (HL2.out w1 h1).mono ?_; rintro e w2 ⟨rfl, b2⟩
            have hb2 := h1.base_le
            have h2 := h1.below b2
            have K2 : Below base w w2 := K1.trans (b2.mono hb2)
            clear h1 K1 b2 hb2 HL2 m1
            go_wp2
            go_ret
            exact ⟨_, q', rfl, hperm, HLQ.out, HF.out, hrest, h2, K2⟩
          | true =>
            have hmin : ∀ c, 0 < c → c < n → (c - 1) / 2 = i → ¬ ltI (ptg q' c) (ptg q' c1) := fun c g0 g1 g2 => by
              rcases (show c = c1 ∨ c = c2 by omega) with e | e
              · subst e; exact ltI_irr _
              · subst e; exact fun g => by rw [ltB_iff.2 g] at ht; cases ht
            have HS := Lib.hid (hdn.step (j := c1) (by omega) (by omega) (by omega) (by omega) hmin (ltB_iff.1 hs))
            have HL2 := Lib.hid (fun (W : World) (g : QSt W base qa q') => queueLess_any W base qa q' c1 i (by omega) (by omega) hn' g)
            rw [hs] at HL2
            rw [ht] at HL1
            clear ht
            clear hmin hs hdn
            have m1 := mLess
            go_wp2_with fail
            refine (HL1.out wr h).mono ?_; rintro e w1 ⟨rfl, b1⟩
            have hb1 := h.base_le
            have h1 := h.below b1
            have K1 : Below base w w1 := K.trans (b1.mono hb1)
            clear h K b1 hb1 HL1
            go_wp2_with fail
            refine (HL2.out w1 h1).mono ?_; rintro e w2 ⟨rfl, b2⟩
            have hb2 := h1.base_le
            have h2 := h1.below b2
            have K2 : Below base w w2 := K1.trans (b2.mono hb2)
            clear h1 K1 b2 hb2 HL2 m1
            have m2 := mSwap
            go_wp2_with fail
            refine (swap_any w2 base qa q' i c1 (by omega) (by omega) (by omega) hn' h2).mono ?_; rintro e w3 ⟨rfl, h3, b3⟩
            have K3 := K2.trans b3
            clear m2 h2 K2 b3
            have HP := Lib.hid ((swq_perm q' (i := i) (j := c1) (by omega) (by omega)).trans hperm)
            have HN := Lib.hid (swq_len q' i c1)
            have HR := Lib.hid (show ∀ k, n ≤ k → ptg (swq q' i c1) k = ptg q k from fun k hk => by rw [swq_at (by omega) (by omega), if_neg (by omega), if_neg (by omega)]; exact hrest k hk)
            clear hperm hrest
            go_wp2
            go_roundw
            case rel => exact ⟨swq q' i c1, c1, rfl, by omega, by rw [HN.out]; exact HLQ.out, HP.out, HS.out, HR.out, h3, K3⟩
            case measure => simp [intOf]; omega
        | true =>
          cases hs : ltB (ptg q' c2) (ptg q' i) with
          | false =>
            have hmin : ∀ c, 0 < c → c < n → (c - 1) / 2 = i → ¬ ltI (ptg q' c) (ptg q' c2) := fun c g0 g1 g2 => by
              rcases (show c = c1 ∨ c = c2 by omega) with e | e
              · subst e; exact ltI_asymm (ltB_iff.1 ht)
              · subst e; exact ltI_irr _
            have HF := Lib.hid (hdn.done (fun c g0 g1 g2 => nlt_trans (hmin c g0 g1 g2) (fun g => by rw [ltB_iff.2 g] at hs; cases hs)))
            have HL2 := Lib.hid (fun (W : World) (g : QSt W base qa q') => queueLess_any W base qa q' c2 i (by omega) (by omega) hn' g)
            rw [hs] at HL2
            rw [ht] at HL1
            clear ht
            clear hmin hs hdn
            have m1 := mLess
            go_wp2_with fail
            refine (HL1.out wr h).mono ?_; rintro e w1 ⟨rfl, b1⟩
            have hb1 := h.base_le
            have h1 := h.below b1
            have K1 : Below base w w1 := K.trans (b1.mono hb1)
            clear h K b1 hb1 HL1
            go_wp2_with fail
            refine (HL2.out w1 h1).mono ?_; rintro e w2 ⟨rfl, b2⟩
            have hb2 := h1.base_le
            have h2 := h1.below b2
            have K2 : Below base w w2 := K1.trans (b2.mono hb2)
            clear h1 K1 b2 hb2 HL2 m1
            go_wp2
            go_ret
            exact ⟨_, q', rfl, hperm, HLQ.out, HF.out, hrest, h2, K2⟩
          | true =>
            have hmin : ∀ c, 0 < c → c < n → (c - 1) / 2 = i → ¬ ltI (ptg q' c) (ptg q' c2) := fun c g0 g1 g2 => by
              rcases (show c = c1 ∨ c = c2 by omega) with e | e
              · subst e; exact ltI_asymm (ltB_iff.1 ht)
              · subst e; exact ltI_irr _
            have HS := Lib.hid (hdn.step (j := c2) (by omega) (by omega) (by omega) (by omega) hmin (ltB_iff.1 hs))
            have HL2 := Lib.hid (fun (W : World) (g : QSt W base qa q') => queueLess_any W base qa q' c2 i (by omega) (by omega) hn' g)
            rw [hs] at HL2
            rw [ht] at HL1
            clear ht
            clear hmin hs hdn
            have m1 := mLess
            go_wp2_with fail
            refine (HL1.out wr h).mono ?_; rintro e w1 ⟨rfl, b1⟩
            have hb1 := h.base_le
            have h1 := h.below b1
            have K1 : Below base w w1 := K.trans (b1.mono hb1)
            clear h K b1 hb1 HL1
            go_wp2_with fail
            refine (HL2.out w1 h1).mono ?_; rintro e w2 ⟨rfl, b2⟩
            have hb2 := h1.base_le
            have h2 := h1.below b2
            have K2 : Below base w w2 := K1.trans (b2.mono hb2)
            clear h1 K1 b2 hb2 HL2 m1
            have m2 := mSwap
            go_wp2_with fail
            refine (swap_any w2 base qa q' i c2 (by omega) (by omega) (by omega) hn' h2).mono ?_; rintro e w3 ⟨rfl, h3, b3⟩
            have K3 := K2.trans b3
            clear m2 h2 K2 b3
            have HP := Lib.hid ((swq_perm q' (i := i) (j := c2) (by omega) (by omega)).trans hperm)
            have HN := Lib.hid (swq_len q' i c2)
            have HR := Lib.hid (show ∀ k, n ≤ k → ptg (swq q' i c2) k = ptg q k from fun k hk => by rw [swq_at (by omega) (by omega), if_neg (by omega), if_neg (by omega)]; exact hrest k hk)
            clear hperm hrest
            go_wp2
            go_roundw
            case rel => exact ⟨swq q' i c2, c2, rfl, by omega, by rw [HN.out]; exact HLQ.out, HP.out, HS.out, HR.out, h3, K3⟩
            case measure => simp [intOf]; omega
      · have hi2 : ¬ (c2 : Int) < n := by omega
        have hd2 : decide ((c2 : Int) < n) = false := decide_eq_false hi2
        cases hs : ltB (ptg q' c1) (ptg q' i) with
        | false =>
          have hmin : ∀ c, 0 < c → c < n → (c - 1) / 2 = i → ¬ ltI (ptg q' c) (ptg q' c1) := fun c g0 g1 g2 => by
            obtain rfl : c = c1 := by omega
            exact ltI_irr _
          have HF := Lib.hid (hdn.done (fun c g0 g1 g2 => nlt_trans (hmin c g0 g1 g2) (fun g => by rw [ltB_iff.2 g] at hs; cases hs)))
          have HL2 := Lib.hid (fun (W : World) (g : QSt W base qa q') => queueLess_any W base qa q' c1 i (by omega) (by omega) hn' g)
          rw [hs] at HL2
          clear hmin hs hdn
          have m1 := mLess
          have b1 := Below.refl wr.heap.size wr
          obtain ⟨w1, hw1⟩ : ∃ w1, w1 = wr := ⟨_, rfl⟩
          subst hw1
          have hb1 := h.base_le
          have h1 := h.below b1
          have K1 : Below base w w1 := K.trans (b1.mono hb1)
          clear h K b1 hb1
          go_wp2_with fail
          refine (HL2.out w1 h1).mono ?_; rintro e w2 ⟨rfl, b2⟩
          have hb2 := h1.base_le
          have h2 := h1.below b2
          have K2 : Below base w w2 := K1.trans (b2.mono hb2)
          clear h1 K1 b2 hb2 HL2 m1
          go_wp2
          go_ret
          exact ⟨_, q', rfl, hperm, HLQ.out, HF.out, hrest, h2, K2⟩
        | true =>
          have hmin : ∀ c, 0 < c → c < n → (c - 1) / 2 = i → ¬ ltI (ptg q' c) (ptg q' c1) := fun c g0 g1 g2 => by
            obtain rfl : c = c1 := by omega
            exact ltI_irr _
          have HS := Lib.hid (hdn.step (j := c1) (by omega) (by omega) (by omega) (by omega) hmin (ltB_iff.1 hs))
          have HL2 := Lib.hid (fun (W : World) (g : QSt W base qa q') => queueLess_any W base qa q' c1 i (by omega) (by omega) hn' g)
          rw [hs] at HL2
          clear hmin hs hdn
          have m1 := mLess
          have b1 := Below.refl wr.heap.size wr
          obtain ⟨w1, hw1⟩ : ∃ w1, w1 = wr := ⟨_, rfl⟩
          subst hw1
          have hb1 := h.base_le
          have h1 := h.below b1
          have K1 : Below base w w1 := K.trans (b1.mono hb1)
          clear h K b1 hb1
          go_wp2_with fail
          refine (HL2.out w1 h1).mono ?_; rintro e w2 ⟨rfl, b2⟩
          have hb2 := h1.base_le
          have h2 := h1.below b2
          have K2 : Below base w w2 := K1.trans (b2.mono hb2)
          clear h1 K1 b2 hb2 HL2 m1
          have m2 := mSwap
          go_wp2_with fail
          refine (swap_any w2 base qa q' i c1 (by omega) (by omega) (by omega) hn' h2).mono ?_; rintro e w3 ⟨rfl, h3, b3⟩
          have K3 := K2.trans b3
          clear m2 h2 K2 b3
          have HP := Lib.hid ((swq_perm q' (i := i) (j := c1) (by omega) (by omega)).trans hperm)
          have HN := Lib.hid (swq_len q' i c1)
          have HR := Lib.hid (show ∀ k, n ≤ k → ptg (swq q' i c1) k = ptg q k from fun k hk => by rw [swq_at (by omega) (by omega), if_neg (by omega), if_neg (by omega)]; exact hrest k hk)
          clear hperm hrest
          go_wp2
          go_roundw
          case rel => exact ⟨swq q' i c1, c1, rfl, by omega, by rw [HN.out]; exact HLQ.out, HP.out, HS.out, HR.out, h3, K3⟩
          case measure => simp [intOf]; omega
    · have hj1 : 2 * (i : Int) + 1 = c1 := by omega
      have hg1 : (c1 : Int) ≥ n := by omega
      have hg2 : decide ((c1 : Int) ≥ n) = true := decide_eq_true hg1
      have hg2' : decide ((n : Int) ≤ c1) = true := decide_eq_true (by omega)
      have HF := Lib.hid (hdn.done (fun c g0 g1 g2 => by omega))
      clear hdn hc1 hc2'
      go_wp2
      go_ret
      exact ⟨_, q', rfl, hperm, HLQ.out, HF.out, hrest, h, K⟩

end Go.Proofs.Ytdobiapnkdgjoaa
