/-
  container/heap over the queue: heaps, up, down.
-/
import Derived.Test.YtdobiapnkdgjoaaHeapM
namespace Go.Proofs.Ytdobiapnkdgjoaa
open Go.RowKit Go.Deep Go.Maps

theorem nlt_trans {a b c : Int × Int} (h1 : ¬ ltI a b) (h2 : ¬ ltI b c) : ¬ ltI a c := by unfold ltI at *; omega
theorem ltI_asymm {a b : Int × Int} (h : ltI a b) : ¬ ltI b a := fun g => ltI_irr _ (ltI_trans h g)

/-- The first n items are a heap. -/
def HeapN (q : List (Int × Int)) (n : Nat) : Prop := ∀ c, 0 < c → c < n → ¬ ltI (ptg q c) (ptg q ((c - 1) / 2))
/-- A heap but for the item at i, which may be less than its parent. -/
def HeapUp (q : List (Int × Int)) (i : Nat) : Prop := (∀ c, 0 < c → c < q.length → c ≠ i → ¬ ltI (ptg q c) (ptg q ((c - 1) / 2))) ∧ ∀ c, 0 < c → c < q.length → (c - 1) / 2 = i → 0 < i → ¬ ltI (ptg q c) (ptg q ((i - 1) / 2))
/-- A heap of n items but for the item at i, which may be greater than its children. -/
def HeapDn (q : List (Int × Int)) (n i : Nat) : Prop := (∀ c, 0 < c → c < n → (c - 1) / 2 ≠ i → ¬ ltI (ptg q c) (ptg q ((c - 1) / 2))) ∧ ∀ c, 0 < c → c < n → (c - 1) / 2 = i → 0 < i → ¬ ltI (ptg q c) (ptg q ((i - 1) / 2))

theorem HeapUp.done {q : List (Int × Int)} {i : Nat} (h : HeapUp q i) (hi : i = 0 ∨ ¬ ltI (ptg q i) (ptg q ((i - 1) / 2))) : HeapN q q.length := fun c h0 hc => by
  by_cases e : c = i
  · subst e
    rcases hi with g | g
    · omega
    · exact g
  · exact h.1 c h0 hc e
theorem HeapUp.step {q : List (Int × Int)} {i p : Nat} (h : HeapUp q i) (hi : i < q.length) (h0 : 0 < i) (hp : p = (i - 1) / 2) (hl : ltI (ptg q i) (ptg q p)) : HeapUp (swq q p i) p := by
  have hpl : p < q.length := by omega
  have hpi : p ≠ i := by omega
  have at_ : ∀ k, ptg (swq q p i) k = if k = i then ptg q p else if k = p then ptg q i else ptg q k := fun k => swq_at hpl hi k
  refine ⟨fun c c0 cl cp => ?_, fun c c0 cl ce p0 => ?_⟩
  · rw [swq_len] at cl
    rw [at_, at_]
    by_cases e1 : c = i
    · rw [if_pos e1, if_neg (by omega), if_pos (by omega)]; exact ltI_asymm hl
    · rw [if_neg e1, if_neg cp]
      by_cases e2 : (c - 1) / 2 = i
      · rw [if_pos e2]; rw [hp]; exact h.2 c c0 cl e2 h0
      · rw [if_neg e2]
        by_cases e3 : (c - 1) / 2 = p
        · rw [if_pos e3]
          have := h.1 c c0 cl e1
          rw [e3] at this
          exact fun g => this (ltI_trans g hl)
        · rw [if_neg e3]; exact h.1 c c0 cl e1
  · rw [swq_len] at cl
    rw [at_, at_, if_neg (show ¬ (p - 1) / 2 = i by omega), if_neg (show ¬ (p - 1) / 2 = p by omega)]
    have hpp := h.1 p p0 hpl hpi
    by_cases e1 : c = i
    · rw [if_pos e1]; exact hpp
    · rw [if_neg e1, if_neg (by omega)]
      have := h.1 c c0 cl e1
      rw [ce] at this
      exact nlt_trans this hpp
theorem HeapDn.done {q : List (Int × Int)} {n i : Nat} (h : HeapDn q n i) (hi : ∀ c, 0 < c → c < n → (c - 1) / 2 = i → ¬ ltI (ptg q c) (ptg q i)) : HeapN q n := fun c h0 hc => by
  by_cases e : (c - 1) / 2 = i
  · rw [e]; exact hi c h0 hc e
  · exact h.1 c h0 hc e
theorem HeapDn.step {q : List (Int × Int)} {n i j : Nat} (h : HeapDn q n i) (hn : n ≤ q.length) (hj : j < n) (hij : (j - 1) / 2 = i) (j0 : 0 < j) (hmin : ∀ c, 0 < c → c < n → (c - 1) / 2 = i → ¬ ltI (ptg q c) (ptg q j)) (hl : ltI (ptg q j) (ptg q i)) : HeapDn (swq q i j) n j := by
  have hil : i < q.length := by omega
  have hjl : j < q.length := by omega
  have hne : i ≠ j := by omega
  have at_ : ∀ k, ptg (swq q i j) k = if k = j then ptg q i else if k = i then ptg q j else ptg q k := fun k => swq_at hil hjl k
  refine ⟨fun c c0 cl cp => ?_, fun c c0 cl ce p0 => ?_⟩
  · rw [at_, at_, if_neg (show ¬ (c - 1) / 2 = j from cp)]
    by_cases e1 : c = j
    · rw [if_pos e1, if_pos (by rw [e1]; exact hij)]; exact ltI_asymm hl
    · rw [if_neg e1]
      by_cases e2 : c = i
      · rw [if_pos e2, if_neg (by omega)]
        have := h.2 j j0 hj hij (by omega)
        rw [e2]; exact this
      · rw [if_neg e2]
        by_cases e3 : (c - 1) / 2 = i
        · rw [if_pos e3]; exact hmin c c0 cl e3
        · rw [if_neg e3]; exact h.1 c c0 cl e3
  · rw [at_, at_, hij, if_neg (show ¬ c = j by omega), if_neg (show ¬ c = i by omega), if_neg hne, if_pos rfl]
    have := h.1 c c0 cl (by omega)
    rw [ce] at this; exact this
/-- The first item of a heap is the least. -/
theorem HeapN.root {q : List (Int × Int)} {n : Nat} (h : HeapN q n) : ∀ k, k < n → ¬ ltI (ptg q k) (ptg q 0)
  | 0, _ => ltI_irr _
  | k + 1, hk => by
    have h1 := h (k + 1) (by omega) hk
    have h2 := h.root ((k + 1 - 1) / 2) (by omega)
    exact nlt_trans h1 h2
termination_by k => k
decreasing_by omega

theorem mLess (v : Value) (w : World) : (method 314 101 v "Less").run Try.prog w = .ok (188, v) w := by kernel_rfl
theorem mSwap (v : Value) (w : World) : (method 314 101 v "Swap").run Try.prog w = .ok (191, v) w := by kernel_rfl
theorem mLen (v : Value) (w : World) : (method 314 101 v "Len").run Try.prog w = .ok (128, v) w := by kernel_rfl
theorem mPush (v : Value) (w : World) : (method 314 101 v "Push").run Try.prog w = .ok (190, v) w := by kernel_rfl
theorem mPop (v : Value) (w : World) : (method 314 101 v "Pop").run Try.prog w = .ok (189, v) w := by kernel_rfl

/-- What a call that only exchanges items leaves. -/
def HeapMade (w : World) (base qa : Nat) (q : List (Int × Int)) (e : Ending) (w' : World) : Prop := e = .returned (.tuple #[]) ∧ ∃ q', q'.Perm q ∧ HeapN q' q'.length ∧ QSt w' base qa q' ∧ Below base w w'

set_option maxRecDepth 1000000 in
set_option maxHeartbeats 8000000 in
theorem heapUp_any (w : World) (base qa : Nat) (q : List (Int × Int)) (i : Nat) (hi : i < q.length) (hn : q.length ≤ 2097152) (hu : HeapUp q i) (h : QSt w base qa q) :
    Calls Try.prog 145 #[.iface 101 (.pointer (some ⟨qa, 0, none⟩)), .int .i64 (i : Int)] w (HeapMade w base qa q) := by
  go_enter Try.func145, Try.ntmps145
  go_wp2_with fail
  go_loopw [1] (fun x wr => ∃ (q' : List (Int × Int)) (j : Nat), x = .int .i64 (j : Int) ∧ j < q'.length ∧ q'.length = q.length ∧ q'.Perm q ∧ HeapUp q' j ∧ QSt wr base qa q' ∧ Below base w wr) (fun x _ => (intOf x).toNat)
  case atStart => exact ⟨q, i, rfl, hi, rfl, List.Perm.refl _, hu, h, Below.refl _ _⟩
  case round =>
    clear h hu hi
    obtain ⟨q', j, rfl, hj, hl, hperm, hu, h, K⟩ := hrel
    rcases Nat.eq_zero_or_pos j with h0 | hp
    · subst h0
      have HF := Lib.hid (hu.done (.inl rfl))
      clear hu
      go_wp2
      go_end0
      exact ⟨rfl, q', hperm, HF.out, h, K⟩
    · obtain ⟨p, hpj⟩ : ∃ p, p = (j - 1) / 2 := ⟨_, rfl⟩
      have hpl : p < q'.length := by omega
      have hpne : p ≠ j := by omega
      have hd1 : ((j : Int) - 1).tdiv 2 = p := by rw [Int.tdiv_eq_ediv_of_nonneg (by omega)]; omega
      have hd2 : ((j : Int) - 1) / 2 = p := by omega
      have hb1 : ((p : Int) == (j : Int)) = false := beq_false_of_ne (by omega)
      have hn' : q'.length ≤ 4194304 := by omega
      have HPJ := Lib.hid hpj
      clear hpj
      have HL := Lib.hid (queueLess_any wr base qa q' j p hj hpl hn' h)
      have hlq : q'.length = q.length := hl
      have HLQ := Lib.hid hlq
      clear hl hlq
      cases hlt : ltB (ptg q' j) (ptg q' p) with
      | false =>
        rw [hlt] at HL
        have HF := Lib.hid (hu.done (.inr (fun g => by rw [← HPJ.out] at g; rw [ltB_iff.2 g] at hlt; cases hlt)))
        clear hu hlt
        have m1 := mLess
        go_wp2_with fail
        refine HL.out.mono ?_; rintro e w1 ⟨rfl, b1⟩
        have h1 := h.below b1
        have K1 : Below base w w1 := K.trans (b1.mono (by have := h.lt; obtain ⟨_, _, _, -, -, -, -, hqa, -⟩ := h; omega))
        clear m1 h K b1
        go_wp2
        go_end0
        exact ⟨rfl, q', hperm, HF.out, h1, K1⟩
      | true =>
        rw [hlt] at HL
        have HS := Lib.hid (hu.step hj hp HPJ.out (ltB_iff.1 hlt))
        have hbase : base ≤ wr.heap.size := by have := h.lt; obtain ⟨_, _, _, -, -, -, -, hqa, -⟩ := h; omega
        clear hu hlt
        have m1 := mLess
        go_wp2_with fail
        refine HL.out.mono ?_; rintro e w1 ⟨rfl, b1⟩
        have h1 := h.below b1
        have K1 : Below base w w1 := K.trans (b1.mono hbase)
        clear m1 h K b1 HL
        have m2 := mSwap
        go_wp2_with fail
        refine (swap_any w1 base qa q' p j hpl hj hpne hn' h1).mono ?_; rintro e w2 ⟨rfl, h2, b2⟩
        have K2 := K1.trans b2
        clear m2 h1 K1 b2
        have HP := Lib.hid ((swq_perm q' hpl hj).trans hperm)
        have HN := Lib.hid (swq_len q' p j)
        clear hperm
        go_wp2
        go_roundw
        case rel => exact ⟨swq q' p j, p, rfl, by rw [HN.out]; exact hpl, by rw [HN.out]; exact HLQ.out, HP.out, HS.out, h2, K2⟩
        case measure => simp [intOf]; omega

end Go.Proofs.Ytdobiapnkdgjoaa
