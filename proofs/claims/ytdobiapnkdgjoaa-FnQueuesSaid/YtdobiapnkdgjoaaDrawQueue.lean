/-
  What (*l01Cur).queue leaves: some list of items.
-/
import Derived.Test.YtdobiapnkdgjoaaPutQ
import Derived.Test.YtdobiapnkdgjoaaDrawRoute
import Derived.Test.YtdobiapnkdgjoaaQueueLaw
namespace Go.Proofs.Ytdobiapnkdgjoaa
open Go.RowKit Go.Deep

/-- What 'size' leaves: a number of 0..7. -/
def Sized7 (w : World) (c : Nat) (A : Option Addr) (len cap m : Nat) (e : Ending) (w' : World) : Prop :=
  ∃ v : Int, e = .returned (.int .i64 v) ∧ 0 ≤ v ∧ v ≤ 7 ∧ CurAt w' c A len cap (m + 1) ∧ w.grownBy w' (some c)

theorem size7_any (w : World) (c : Nat) (A : Option Addr) (len cap m : Nat) (hm : m ≤ 1000000) (h : CurAt w c A len cap m) :
    Calls Try.prog 119 #[.pointer (some ⟨c, 0, none⟩), .int .i64 7] w (Sized7 w c A len cap m) := by
  have hcur := h
  obtain ⟨at_, seed, hb, -, -, -, -, -, hlen⟩ := h
  have c0 : w.cell? ⟨c, 0, none⟩ = some (.slice A len cap) := by rw [cell_of_block hb]; rfl
  have hq : (len : Int).tdiv 8 = ((len / 8 : Nat) : Int) := by rw [Int.tdiv_eq_ediv_of_nonneg (by omega)]; omega
  clear hb
  by_cases hk : 1 + len / 8 ≤ 7
  · have hd : ¬ ((7 : Int) < 1 + ((len / 8 : Nat) : Int)) := by omega
    have hd' : decide ((7 : Int) < 1 + ((len / 8 : Nat) : Int)) = false := decide_eq_false hd
    have hw1 : IntKind.i64.wrap (1 + ((len / 8 : Nat) : Int)) = 1 + ((len / 8 : Nat) : Int) := IntWalk.i64_in _ (by omega)
    have hw2 : IntKind.i64.wrap (1 + ((len / 8 : Nat) : Int) + 1) = 1 + ((len / 8 : Nat) : Int) + 1 := IntWalk.i64_in _ (by omega)
    go_enter Try.func119, Try.ntmps119
    go_wp2_with fail
    refine (pick_any _ c A len cap m _ (by omega) hcur (by omega)).mono ?_
    rintro e w1 ⟨v, rfl, hv0, hv1, -, k1, g1, -⟩
    have hv2 := hv1 (by omega)
    clear hv1
    go_wp2
    go_ret
    exact ⟨v, rfl, hv0, by omega, k1, g1⟩
  · have hd : (7 : Int) < 1 + ((len / 8 : Nat) : Int) := by omega
    have hd' : decide ((7 : Int) < 1 + ((len / 8 : Nat) : Int)) = true := decide_eq_true hd
    have hw1 : IntKind.i64.wrap (1 + ((len / 8 : Nat) : Int)) = 1 + ((len / 8 : Nat) : Int) := IntWalk.i64_in _ (by omega)
    go_enter Try.func119, Try.ntmps119
    go_wp2_with fail
    refine (pick_any _ c A len cap m _ (by omega) hcur (by omega)).mono ?_
    rintro e w1 ⟨v, rfl, hv0, hv1, -, k1, g1, -⟩
    have hv2 := hv1 (by omega)
    clear hv1
    go_wp2
    go_ret
    exact ⟨v, rfl, hv0, by omega, k1, g1⟩


/-- Some list of at most eight items, in memory of the call's own; the cursor; all else as it was. -/
def QueueDrawn (w : World) (c : Nat) (C : Option Addr) (len cap m : Nat) (e : Ending) (w' : World) : Prop :=
  ∃ (V : Value) (q : List (Int × Int)), e = .returned V ∧ q.length ≤ 8 ∧ (∀ p ∈ q, In64 p.2) ∧ w'.ownsRow w.heap.size 45 2 V q.length (cellsP q) ∧ CurAt w' c C len cap m ∧ w.grownBy w' (some c)
/-- What is at hand at the loop's head. -/
def QuR (w : World) (c : Nat) (C : Option Addr) (len cap m : Nat) (x3 x4 : Value) (wr : World) : Prop :=
  ∃ (q : List (Int × Int)) (k : Int) (j : Nat), x4 = .int .i64 k ∧ 0 ≤ k ∧ q.length ≤ j ∧ (j : Int) + k ≤ 7 ∧ (∀ p ∈ q, In64 p.2) ∧ wr.ownsRow w.heap.size 45 2 x3 q.length (cellsP q) ∧ CurAt wr c C len cap (m + 1 + 2 * j) ∧ w.grownBy wr (some c)

theorem own_isPts {w : World} {base : Nat} {A : Option Addr} {cap : Nat} {q : List (Int × Int)} (own : w.ownsRow base 45 2 (.slice A q.length cap) q.length (cellsP q)) : IsPts w A q := fun hp => by
  obtain ⟨A', cap', e, -, hA⟩ := ownI_is own
  cases e
  obtain ⟨g, rfl, -, -⟩ := hA hp
  exact own_pts own hp
theorem putL_mem {q : List (Int × Int)} {x p : Int × Int} (h : p ∈ putL q x) : p ∈ q ∨ p = x := by
  unfold putL at h
  split at h
  · exact .inl h
  · rcases List.mem_cons.1 ((insL_perm _ x).mem_iff.1 h) with e | e
    · exact .inr e
    · exact .inl (List.mem_filter.1 e).1
theorem in64_small {v n : Int} (h0 : 0 ≤ v) (h1 : v < n) (hn : n ≤ 1000) : In64 v := by unfold In64; omega

set_option maxRecDepth 100000 in
set_option maxHeartbeats 4000000 in
theorem queue_any (w : World) (c : Nat) (C : Option Addr) (len cap m : Nat) (hm : m ≤ 100000) (h : CurAt w c C len cap m) :
    Calls Try.prog 74 #[.pointer (some ⟨c, 0, none⟩)] w (QueueDrawn w c C len cap (m + 20)) := by
  have hcl := h.lt
  have O0 := World.ownsRow_made (base := w.heap.size) (size := 2) (e := 45) w #[] 0 (Nat.le_refl _) (by decide) rfl
  have k0 := h.alloc (.cells #[] 45)
  have G0 := only_alloc (World.grownBy.refl w (some c)) (.cells #[] 45)
  go_enter Try.func74, Try.ntmps74
  go_wp2_with fail
  refine (size7_any _ c C len cap m (by omega) k0).mono ?_
  rintro e w1 ⟨v1, rfl, hv0, hv7, k1, g1⟩
  have O1 := ownsRow_only O0 g1 (by omega)
  have G1 := only_trans G0 g1
  clear O0 k0 G0 g1
  go_wp2_with fail
  go_loopw [3, 4] (fun x3 x4 wr => QuR w c C len cap m x3 x4 wr) (fun _ x4 _ => (intOf x4).toNat)
  case atStart => exact ⟨[], v1, 0, rfl, hv0, by simp, by omega, by simp, O1, k1, G1⟩
  case round =>
    obtain ⟨q, k, j, rfl, hk0, hqj, hjk, h64, hO, hC, hG⟩ := hrel
    clear O1 k1 G1 hv0 hv7
    have hGs := hG.size
    by_cases hk : 0 < k
    rotate_left
    · have hkd : decide (k > 0) = false := decide_eq_false hk
      go_wp2_with fail
      refine (once_any _ c C len cap _ 12 (by omega) hC (by omega) (by omega)).mono ?_
      rintro e w8 ⟨bo, rfl, k8, g8⟩
      have own8 := ownsRow_only hO g8 (by omega)
      have G8 := only_trans hG g8
      clear g8 hC hO hG
      cases bo with
      | false =>
        go_wp2
        go_ret
        exact ⟨_, q, rfl, by omega, h64, own8, k8.more (by omega), G8⟩
      | true =>
        go_wp2_with fail
        refine (raw_any _ c C len cap _ (by omega) k8).mono ?_
        rintro e w9 ⟨v9, rfl, -, -, k9, g9⟩
        have own9 := ownsRow_only own8 g9 (by omega)
        have G9 := only_trans G8 g9
        clear g9 own8 G8 k8
        go_wp2_with fail
        refine (pick_any _ c C len cap _ 9 (by omega) k9 (by omega)).mono ?_
        rintro e w10 ⟨v10, rfl, hp0, hp1, -, k10, g10, -⟩
        have own10 := ownsRow_only own9 g10 (by omega)
        have G10 := only_trans G9 g10
        have HP := Lib.hid (in64_small hp0 (hp1 (by omega)) (by omega))
        clear g10 own9 G9 k9 hp0 hp1
        have hs10 := G10.size
        have nw := one_pts w10 v9 v10
        have kb := below1 w10 (.cells #[.int .i64 v9, .int .i64 v10] 45)
        obtain ⟨v', w', hr, own', g', -⟩ := run_append_items (ty := 43) _ _ _ _ (ownsRow_below own10 kb) (some ⟨w10.heap.size, 0, none⟩) 1 1 [(v9, v10)] rfl nw (by omega) (by simp; omega)
        have G' := grown_own (below_grown G10 kb) (ownsRow_below own10 kb) (Nat.le_refl _) g'
        have k' : CurAt w' c C len cap (m + 20) := ((k10.alloc _).later g' (fun g e => by have := (World.ownsRow.lt own10 g e).1; omega)).more (by omega)
        have own2 : w'.ownsRow w.heap.size 45 2 v' (q ++ [(v9, v10)]).length (cellsP (q ++ [(v9, v10)])) := by rw [List.length_append, cellsP_append]; exact own'
        have hl2 : (q ++ [(v9, v10)]).length ≤ 8 := by rw [List.length_append]; simp; omega
        have h2 : ∀ p ∈ q ++ [(v9, v10)], In64 p.2 := fun p hp => by
          rcases List.mem_append.1 hp with g | g
          · exact h64 p g
          · obtain rfl : p = (v9, v10) := by simpa using g
            exact HP.out
        have H2 := Lib.hid h2
        clear own' g' own10 nw kb k10 G10 h2
        generalize q ++ [(v9, v10)] = ys at own2 hl2 H2
        go_wp2_with (at_builtin; refine Lib.wpList_append_run _ rfl _ _ _ _ rfl _ _ rfl rfl _ _ hr ?_)
        go_ret
        exact ⟨_, ys, rfl, hl2, H2.out, own2, k', G'⟩
    have hkd : decide (k > 0) = true := decide_eq_true hk
    go_wp2_with fail
    refine (pick_any _ c C len cap _ 20 (by omega) hC (by omega)).mono ?_
    rintro e w3 ⟨v3, rfl, -, -, -, k3, g3, -⟩
    have own3 := ownsRow_only hO g3 (by omega)
    have G3 := only_trans hG g3
    clear g3 hO hC hG
    go_wp2_with fail
    refine (pick_any _ c C len cap _ 9 (by omega) k3 (by omega)).mono ?_
    rintro e w4 ⟨v4, rfl, hp0, hp1, -, k4, g4, -⟩
    have own4 := ownsRow_only own3 g4 (by omega)
    have G4 := only_trans G3 g4
    have HP := Lib.hid (in64_small hp0 (hp1 (by omega)) (by omega))
    clear g4 own3 G3 k3 hp0 hp1
    obtain ⟨A, ca, rfl, hca, -⟩ := ownI_is own4
    have I4 := own_isPts own4
    go_wp2_with fail
    refine (l06Put_any A ca q v3 v4 _ (by omega) I4).mono ?_; rintro e w5 ⟨v5, rfl, own5, b5⟩
    have hG4 := G4.size
    replace own5 := ownsRow_base own5 hG4
    have G5 := below_grown G4 b5
    have k5 := CurAt.below k4 b5
    have hl5 := putL_len (q := q) (x := (v3, v4))
    have H5 := Lib.hid (show ∀ p ∈ putL q (v3, v4), In64 p.2 from fun p hp => by
      rcases putL_mem hp with g | g
      · exact h64 p g
      · rw [g]; exact HP.out)
    clear own4 I4 b5 G4 k4 HP h64 hca
    generalize putL q (v3, v4) = ys at own5 hl5 H5
    obtain ⟨A5, c5, rfl, -, -⟩ := ownI_is own5
    have hw : IntKind.i64.wrap (k - 1) = k - 1 := IntWalk.i64_in _ (by omega)
    go_wp2
    go_roundw
    case rel => exact ⟨ys, k - 1, j + 1, by first | rfl | go_num, by omega, by omega, by omega, H5.out, own5, k5.more (by omega), G5⟩
    case measure => simp [intOf]; omega

end Go.Proofs.Ytdobiapnkdgjoaa
