/-
  Best routes: a best route is a route as long as the distance; the rest of it from any of its nodes is the best route from there.
-/
import Derived.Test.YtdobiapnkdgjoaaBestSp
import Derived.Test.YtdobiapnkdgjoaaTurnLaw
namespace Go.Proofs.Ytdobiapnkdgjoaa
open Go.RowKit

theorem findA_arc {rs : List A3} (h : rs.Pairwise Less) {i : Nat} (hi : i < rs.length) : findA rs (arg rs i).1 (arg rs i).2.1 = i := by
  refine findA_hit hi (by unfold hit; simp) (fun j hj => ?_)
  cases hh : hit rs (arg rs i).1 (arg rs i).2.1 j with
  | false => rfl
  | true =>
    exfalso
    have hl := rise_arg h hj hi
    unfold hit at hh
    rw [Bool.and_eq_true, beq_iff_eq, beq_iff_eq] at hh
    unfold Less at hl
    omega

theorem arcK_cons (rs : List A3) (x : Int) (zs : List Int) (k : Nat) : arcK rs (x :: zs) (k + 1) = arcK rs zs k := rfl
theorem lenK_cons (rs : List A3) (x : Int) (zs : List Int) : ∀ k, lenK rs (x :: zs) (k + 1) = (arg rs (arcK rs (x :: zs) 0).toNat).2.2 + lenK rs zs k
  | 0 => by simp [lenK]
  | k + 1 => by rw [lenK, lenK_cons rs x zs k, arcK_cons, lenK]; omega

theorem brF_fuel {n : Nat} {rs : List A3} {d : List Int} (hr : ArcsIn n rs) (hd : DBound n d) : ∀ (x U : Nat), 0 ≤ zg d U → (zg d U).toNat ≤ x → ∀ m m', x < m → x < m' → brF rs d m (U : Int) = brF rs d m' (U : Int)
  | x, U, h0, hx, m, m', hm, hm' => by
    obtain ⟨k, rfl⟩ : ∃ k, m = k + 1 := ⟨m - 1, by omega⟩
    obtain ⟨k', rfl⟩ : ∃ k', m' = k' + 1 := ⟨m' - 1, by omega⟩
    rw [brF_step rs d k U (by omega), brF_step rs d k' U (by omega)]
    rcases nxt_less hr hd h0 with e | ⟨V, e, hV, v0, v1⟩
    · rw [e, brF_end, brF_end]
    · rw [e]
      have hlt : x - 1 < x := by omega
      rw [brF_fuel hr hd (x - 1) V v0 (by omega) k k' (by omega) (by omega)]
termination_by x => x

/-- What is to be known of a way from U to T. -/
structure Way (n : Nat) (rs : List A3) (d : List Int) (T U : Nat) (r : List Int) : Prop where
  pos : 0 < r.length
  head : zg r 0 = U
  last : zg r (r.length - 1) = T
  arcs : ∀ k, k + 1 < r.length → arcK rs r k ≠ -1
  len : lenK rs r (r.length - 1) = zg d U
  few : r.length ≤ (zg d U).toNat + 1
  rest : ∀ i, i < r.length → ∃ V : Nat, zg r i = V ∧ V < n ∧ 0 ≤ zg d V ∧ ∀ m', (zg d V).toNat < m' → r.drop i = brF rs d m' V

theorem way_of {ps : List (Int × Int)} {rs : List A3} {T : Nat} (hok : netB ps rs = true) (hT : T < ps.length) : ∀ (x U : Nat), U < ps.length → 0 ≤ zg (dst ps.length (turnL rs) T) U → (zg (dst ps.length (turnL rs) T) U).toNat ≤ x → ∀ m, x < m →
    Way ps.length rs (dst ps.length (turnL rs) T) T U (brF rs (dst ps.length (turnL rs) T) m U)
  | x, U, hU, h0, hx, m, hm => by
    obtain ⟨h20, -, -, -⟩ := netB_iff.1 hok
    obtain ⟨h1, -, -⟩ := turn_arcs hok
    have hr := arcsIn_net hok
    have hD : DBound ps.length (dst ps.length (turnL rs) T) := ⟨dst_len _ _ _, fun i hi => dst_val h20 hT h1 hi⟩
    have hz : zg (dst ps.length (turnL rs) T) T = 0 := (dst_di h20 hT h1).src
    have hP := netB_rise hok
    have hself : ∀ m', (zg (dst ps.length (turnL rs) T) U).toNat < m' → brF rs (dst ps.length (turnL rs) T) m U = brF rs (dst ps.length (turnL rs) T) m' U := fun m' hm' => brF_fuel hr hD _ U h0 (Nat.le_refl _) _ _ (by omega) hm'
    obtain ⟨k, rfl⟩ : ∃ k, m = k + 1 := ⟨m - 1, by omega⟩
    by_cases hUT : U = T
    · subst hUT
      have e := brF_step rs (dst ps.length (turnL rs) U) k U (by omega)
      rw [nxt_goal hr hD hz, brF_end] at e
      refine ⟨by rw [e]; simp, by rw [e]; rfl, by rw [e]; rfl, fun q hq => ?_, by rw [e, hz]; rfl, by rw [e]; simp, fun i hi => ?_⟩
      · rw [e] at hq; simp at hq
      · rw [e] at hi
        obtain rfl : i = 0 := by simp at hi; omega
        exact ⟨U, by rw [e]; rfl, hU, h0, fun m' hm' => by rw [List.drop_zero]; exact hself m' hm'⟩
    · have hne := nxt_some hok hT hU hUT (by omega)
      rcases nxt_cases rs (dst ps.length (turnL rs) T) U with ⟨e, -⟩ | ⟨i, hi, hf, e⟩
      · exact absurd e hne
      obtain ⟨-, ⟨t0, t1⟩, -, l0, -⟩ := hr _ (arg_mem hi)
      obtain ⟨V, hV⟩ : ∃ V : Nat, (arg rs i).2.1 = V := ⟨(arg rs i).2.1.toNat, by omega⟩
      unfold fit at hf
      simp only [Bool.and_eq_true, decide_eq_true_eq, beq_iff_eq, hV, Int.toNat_natCast] at hf
      obtain ⟨f1, f2, f3⟩ := hf
      have hVn : V < ps.length := by omega
      have v0 : 0 ≤ zg (dst ps.length (turnL rs) T) V := ((hD.2 V hVn).resolve_left f2).1
      have hx1 : x - 1 < x := by omega
      have W := way_of hok hT (x - 1) V hVn v0 (by omega) k (by omega)
      have ek := brF_step rs (dst ps.length (turnL rs) T) k U (by omega)
      rw [e, hV] at ek
      obtain ⟨r, hr'⟩ : ∃ r, r = brF rs (dst ps.length (turnL rs) T) k V := ⟨_, rfl⟩
      rw [← hr'] at W ek
      obtain ⟨j, hj⟩ : ∃ j, r.length = j + 1 := ⟨r.length - 1, by have := W.pos; omega⟩
      have ea : arcK rs ((U : Int) :: r) 0 = i := by
        show findA rs U (zg r 0) = i
        rw [W.head, ← f1, ← hV]; exact findA_arc hP hi
      rw [ek]
      refine ⟨by simp, rfl, ?_, fun q hq => ?_, ?_, ?_, fun q hq => ?_⟩
      · have := W.last
        rw [hj] at this
        rw [List.length_cons, hj]; exact this
      · cases q with
        | zero => rw [ea]; omega
        | succ q => rw [arcK_cons]; exact W.arcs q (by simp at hq; omega)
      · have := W.len
        rw [hj] at this
        rw [List.length_cons, hj]
        show lenK rs ((U : Int) :: r) (j + 1) = _
        rw [lenK_cons, ea, Int.toNat_natCast]
        have e2 : j + 1 - 1 = j := by omega
        rw [e2] at this
        rw [this]; exact f3
      · have := W.few
        rw [List.length_cons]; omega
      · cases q with
        | zero => exact ⟨U, rfl, hU, h0, fun m' hm' => by rw [List.drop_zero, ← ek]; exact hself m' hm'⟩
        | succ q =>
          obtain ⟨Y, g1, g2, g3, g4⟩ := W.rest q (by simp at hq; omega)
          exact ⟨Y, g1, g2, g3, fun m' hm' => by rw [List.drop_succ_cons]; exact g4 m' hm'⟩
termination_by x => x

/-- A best route, with all that the law asks of it. -/
structure Best (ps : List (Int × Int)) (rs : List A3) (S T : Nat) (r : List Int) : Prop where
  pos : 0 < r.length
  few : r.length ≤ 200001
  ok : rtB ps rs r = true
  len : rtLen ps rs r = dB ps rs S T
  head : zg r 0 = S
  last : zg r (r.length - 1) = T
  rest : ∀ i, i < r.length → brt ps rs (zg r i) T = r.drop i
  arcs : (rtA ps rs r).length = r.length - 1

theorem best_of {ps : List (Int × Int)} {rs : List A3} {S T : Nat} (hok : netB ps rs = true) (hS : S < ps.length) (hT : T < ps.length) (h : dB ps rs S T ≠ -1) : Best ps rs S T (brt ps rs S T) := by
  obtain ⟨h20, -, -, -⟩ := netB_iff.1 hok
  obtain ⟨h1, -, -⟩ := turn_arcs hok
  have e := dB_back hok hS hT
  have hv := (dst_val h20 hT h1 hS).resolve_left (by rw [← e]; exact h)
  have hb : ∀ V : Nat, V < ps.length → 0 ≤ zg (dst ps.length (turnL rs) T) V → brt ps rs V T = brF rs (dst ps.length (turnL rs) T) 200001 V := fun V hV h0 => by
    unfold brt
    rw [dB_back hok hV hT, if_neg (by omega), Int.toNat_natCast]
  have W := way_of hok hT 200000 S hS hv.1 (by omega) 200001 (by omega)
  rw [hb S hS hv.1]
  have hrt : rtB ps rs (brF rs (dst ps.length (turnL rs) T) 200001 S) = true := rtB_iff.2 ⟨hok, W.pos, by rw [W.head]; exact btB_true (by omega) (by omega), W.arcs⟩
  refine ⟨W.pos, by have := W.few; omega, hrt, by rw [rtLen_yes hrt, W.len, e], W.head, W.last, fun i hi => ?_, by rw [rtA_yes hrt, alongL_len]⟩
  obtain ⟨V, g1, g2, g3, g4⟩ := W.rest i hi
  rw [g1, hb V g2 g3, g4 200001 (by rcases dst_val h20 hT h1 g2 with k | k <;> omega)]

theorem brt_far {ps : List (Int × Int)} {rs : List A3} {s t : Int} (h : dB ps rs s t = -1) : brt ps rs s t = [] := by unfold brt; rw [if_pos h]

end Go.Proofs.Ytdobiapnkdgjoaa
