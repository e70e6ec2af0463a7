/-
  What slices.Max, slices.Index and impl.FarMarks compute.
-/
import Derived.Test.YtbmfjfglkjhlnaaFarM
import Derived.Test.YtbmfjfglkjhlnaaRepeatM
import Derived.Lib.AppendZeros
namespace Go.Proofs.Ytbmfjfglkjhlnaa
open Go.RowKit Go.Deep Go.Maps

set_option maxHeartbeats 1000000 in
theorem maxInts_any (A : Option Addr) (ca : Nat) (zs : List Int) (w : World) (hn : zs.length ≤ 1048576) (h0 : 0 < zs.length) (h : IsInts w A zs) :
    Calls Try.prog 81 #[.slice A zs.length ca] w fun e w' => (∃ m, e = .returned (.int .i64 m) ∧ (∃ i, i < zs.length ∧ zg zs i = m) ∧ ∀ i, i < zs.length → zg zs i ≤ m) ∧ w = w' := by
  obtain ⟨b, off, rfl, hb, c⟩ := h h0
  have c0 := c 0 h0
  rw [Nat.add_zero] at c0
  have hl1 : ¬ ((zs.length : Int) < 1) := by omega
  have hl2 : (0 : Int) < zs.length := by omega
  go_enter Try.func81, Try.ntmps81
  go_wp2
  clear c0
  go_loopw [3, 4] (fun v i wr => ∃ (k : Nat) (m : Int), 1 ≤ k ∧ k ≤ zs.length ∧ i = .int .i64 k ∧ v = .int .i64 m ∧ (∃ i, i < k ∧ zg zs i = m) ∧ (∀ i, i < k → zg zs i ≤ m) ∧ wr = w) (fun _ i _ => zs.length - (intOf i).toNat)
  case atStart => exact ⟨1, _, by omega, by omega, rfl, rfl, ⟨0, by omega, rfl⟩, (fun i hi => by rw [show i = 0 by omega]; exact Int.le_refl _), rfl⟩
  case round =>
    obtain ⟨k, m, hk1, hk, rfl, rfl, HI, HM, rfl⟩ := hrel
    have HI := Lib.hid HI
    have HM := Lib.hid HM
    by_cases hlt : k < zs.length
    · have ck := c k hlt
      have hkl : (k : Int) < zs.length := by omega
      obtain ⟨z, hz⟩ : ∃ z, z = zg zs k := ⟨_, rfl⟩
      rw [← hz] at ck
      have HZ := Lib.hid hz
      clear hz
      go_wp2
      go_roundw
      case rel =>
        refine ⟨k + 1, _, by omega, by omega, by go_num, rfl, ?_, ?_, by first | rfl | trivial⟩
        · obtain ⟨i, hi, he⟩ := HI.out
          (try split) <;> first | exact ⟨i, by omega, by omega⟩ | exact ⟨k, by omega, by have := HZ.out; omega⟩ | (by_cases hmz : z ≤ m; exact ⟨i, by omega, by omega⟩; exact ⟨k, by omega, by have := HZ.out; omega⟩)
        · intro i hi
          by_cases hik : i < k
          · have := HM.out i hik
            (try split) <;> omega
          · obtain rfl : i = k := by omega
            have := HZ.out
            (try split) <;> omega
      case measure => simp [intOf]; omega
    · obtain rfl : k = zs.length := by omega
      go_wp2
      go_ret
      exact ⟨⟨_, rfl, HI.out, HM.out⟩, rfl⟩

set_option maxHeartbeats 1000000 in
theorem indexInts_at (A : Option Addr) (ca K : Nat) (zs : List Int) (x : Int) (w : World) (hn : zs.length ≤ 1048576) (hK : K < zs.length) (hx : zg zs K = x) (hno : ∀ j, j < K → zg zs j ≠ x) (h : IsInts w A zs) :
    Calls Try.prog 80 #[.slice A zs.length ca, .int .i64 x] w fun e w' => e = .returned (.int .i64 (K : Int)) ∧ w = w' := by
  obtain ⟨b, off, rfl, hb, c⟩ := h (by omega)
  have HNO := Lib.hid hno
  have HX := Lib.hid hx
  clear hno hx
  go_enter Try.func80, Try.ntmps80
  go_wp2
  go_loopw [8] (fun i wr => ∃ k : Nat, k ≤ K ∧ i = .int .i64 k ∧ wr = w) (fun i _ => zs.length - (intOf i).toNat)
  case atStart => exact ⟨0, by omega, rfl, rfl⟩
  case round =>
    obtain ⟨k, hk, rfl, rfl⟩ := hrel
    have hkl : k < zs.length := by omega
    have ck := c k hkl
    have hkl2 : (k : Int) < zs.length := by omega
    by_cases e : k = K
    · subst e
      rw [HX.out] at ck
      have hxx : (x == x) = true := by simp
      go_wp2
      go_ret
      exact ⟨rfl, rfl⟩
    · have hne := HNO.out k (by omega)
      obtain ⟨z, hz⟩ : ∃ z, z = zg zs k := ⟨_, rfl⟩
      rw [← hz] at ck hne
      clear hz
      have hxx : (x == z) = false := by simp; exact fun h => hne h.symm
      go_wp2
      go_roundw
      case rel => exact ⟨k + 1, by omega, by go_num, by first | rfl | trivial⟩
      case measure => simp [intOf]; omega

/-- The list that a row holds. -/
def rowZ (n : Nat) (f : Nat → Int) : List Int := (List.range n).map f
theorem rowZ_len (n : Nat) (f : Nat → Int) : (rowZ n f).length = n := by unfold rowZ; simp
theorem rowZ_get {n : Nat} {f : Nat → Int} {i : Nat} (hi : i < n) : zg (rowZ n f) i = f i := by unfold zg rowZ; simp [List.getD_eq_getElem?_getD, hi]
theorem IRow.isInts {w : World} {b n : Nat} {f : Nat → Int} (h : IRow w b n f) : IsInts w (some ⟨b, 0, none⟩) (rowZ n f) := fun hp => ⟨b, 0, rfl, h.lt, fun i hi => by
  rw [rowZ_len] at hi
  rw [rowZ_get hi, Nat.zero_add]; exact h.cell hi⟩
set_option maxRecDepth 100000 in
theorem run_append_intF {w : World} (ty : TypeId) (base : Nat) (v : Value) (n : Nat) (xs : List Value) (hown : w.ownsRow base 3 1 v n xs) (x : Int) (hn : n ≤ 1048576) (hbase : base ≤ w.heap.size) :
    ∃ v' w', (Builtin.append_ #[27, 27] ty #[v, .slice (some ⟨w.heap.size, 0, none⟩) 1 1]).run Try.prog (w.alloc (.cells #[.int .i64 x] 3)) = .ok v' w' ∧ w'.ownsRow base 3 1 v' (n + 1) (xs ++ [.int .i64 x]) ∧ (w.alloc (.cells #[.int .i64 x] 3)).grownBy w' v.ownBlock := by
  obtain ⟨i0, hi, hz0, hz1, hz2⟩ := info_parts Try.infoInt
  have hb : (w.alloc (.cells #[.int .i64 x] 3)).heap[w.heap.size]? = some (.cells #[.int .i64 x] 3 (0, 0)) := heap_alloc_new w _
  obtain ⟨v', w', h1, h2, h3, -, -⟩ := run_append_own_at (P := Try.prog) (w.alloc (.cells #[.int .i64 x] 3)) base 27 ty 3 i0 (.int .i64 0) 1 8 Try.underlying27 hi hz0 hz1 hz2 rfl (by decide) v n xs (hown.alloc _) ⟨w.heap.size, 0, none⟩ 1 1 [.int .i64 x] rfl
    (fun j u h => by
      have hj : j < 1 := by have := (List.getElem?_eq_some_iff.1 h).1; simpa using this
      obtain rfl : j = 0 := by omega
      rw [Addr.add_lit, cell_of_block hb]
      simpa using h)
    (fun u h => by obtain rfl := List.mem_singleton.1 h; rfl) (by unfold maxLen; omega) (by omega) (by rw [World.size_alloc]; omega)
  exact ⟨v', w', h1, h2, h3⟩
theorem own_formF {w : World} {base : Nat} {e : TypeId} {size n : Nat} {v : Value} {xs : List Value} (h : w.ownsRow base e size v n xs) : ∃ A c, v = .slice A n c := by
  rcases h.2 with ⟨h1, h2⟩ | ⟨g, cap, cur, h1, -⟩
  · subst h2; exact ⟨none, 0, h1⟩
  · exact ⟨_, cap, h1⟩
/-- The landmarks as numbers. -/
def natZ (L : List Nat) : List Int := L.map (fun (m : Nat) => (m : Int))
theorem natZ_snoc (L : List Nat) (m : Nat) : (natZ (L ++ [m])).map (Value.int .i64) = (natZ L).map (Value.int .i64) ++ [.int .i64 (m : Int)] := by simp [natZ]
theorem farM_yes {ps : List (Int × Int)} {rs : List A3} {many : Nat} (h : netB ps rs = true) (h1 : 1 ≤ many) (h2 : many ≤ 8) : farM ps rs many = natZ (farL ps.length rs (min many ps.length)) := by
  unfold farM; rw [if_pos ⟨h, by omega, by omega⟩, Int.toNat_natCast]; rfl

set_option maxRecDepth 100000 in
set_option maxHeartbeats 2000000 in
theorem implFar_no (A B : Option Addr) (ca cb : Nat) (ps : List (Int × Int)) (rs : List A3) (many : Int) (w : World) (hn : ps.length ≤ 1048576) (hm : rs.length ≤ 1048576) (ha : IsPts w A ps) (hb : IsArcs w B rs) (hno : netB ps rs = false ∨ many < 1 ∨ 8 < many) :
    Calls Try.prog 39 #[.agg #[.slice A ps.length ca, .slice B rs.length cb], .int .i64 many] w (IntsMade w (farM ps rs many)) := by
  have HQ := Lib.hid (farM_no hno)
  have X := Pair.new w 34 (.slice A ps.length ca) (.slice B rs.length cb)
  have K := below1 w (.cells #[.slice A ps.length ca, .slice B rs.length cb] 34)
  cases h1 : netB ps rs with
  | false =>
    go_enter Try.func39, Try.ntmps39
    go_wp2_with fail
    refine (implNetOk_any A B ca cb ps rs _ hn hm (ha.below K) (hb.below K)).mono ?_; rw [h1]; rintro e w1 ⟨rfl, b1⟩
    replace K := K.trans (b1.mono K.size)
    clear b1 X hno
    go_wp2
    go_ret
    exact intsMade_nil HQ.out _ _ K
  | true =>
    have h23 : many < 1 ∨ 8 < many := hno.resolve_left (by rw [h1]; simp)
    by_cases h2 : many < 1
    · have h2d : decide (many < 1) = true := decide_eq_true h2
      go_enter Try.func39, Try.ntmps39
      go_wp2_with fail
      refine (implNetOk_any A B ca cb ps rs _ hn hm (ha.below K) (hb.below K)).mono ?_; rw [h1]; rintro e w1 ⟨rfl, b1⟩
      replace K := K.trans (b1.mono K.size)
      clear b1 X hno
      go_wp2
      go_ret
      exact intsMade_nil HQ.out _ _ K
    · have h3 : 8 < many := h23.resolve_left h2
      have h3' : many > 8 := h3
      have h2d : decide (many < 1) = false := decide_eq_false h2
      have h3d : decide (8 < many) = true := decide_eq_true h3
      clear h23 hno
      go_enter Try.func39, Try.ntmps39
      go_wp2_with fail
      refine (implNetOk_any A B ca cb ps rs _ hn hm (ha.below K) (hb.below K)).mono ?_; rw [h1]; rintro e w1 ⟨rfl, b1⟩
      replace K := K.trans (b1.mono K.size)
      clear b1 X
      go_wp2
      go_ret
      exact intsMade_nil HQ.out _ _ K

set_option maxRecDepth 100000 in
set_option maxHeartbeats 4000000 in
theorem implFar_yes (A B : Option Addr) (ca cb : Nat) (ps : List (Int × Int)) (rs : List A3) (many : Nat) (w : World) (ha : IsPts w A ps) (hb : IsArcs w B rs) (h1 : netB ps rs = true) (hk1 : 1 ≤ many) (hk2 : many ≤ 8) :
    Calls Try.prog 39 #[.agg #[.slice A ps.length ca, .slice B rs.length cb], .int .i64 (many : Int)] w (IntsMade w (farM ps rs many)) := by
  obtain ⟨h20, h70, -, -⟩ := netB_iff.1 h1
  have HQ := Lib.hid (farM_yes h1 hk1 hk2)
  have HR := Lib.hid (arcsIn_net h1)
  have HN := Lib.hid h1
  have hk1' : ¬ ((many : Int) < 1) := by omega
  have hk2' : ¬ ((many : Int) > 8) := by omega
  have hk2'' : ¬ (8 < (many : Int)) := by omega
  have X := Pair.new w 34 (.slice A ps.length ca) (.slice B rs.length cb)
  have K := below1 w (.cells #[.slice A ps.length ca, .slice B rs.length cb] 34)
  go_enter Try.func39, Try.ntmps39
  go_wp2_with fail
  refine (implNetOk_any A B ca cb ps rs _ (by omega) (by omega) (ha.below K) (hb.below K)).mono ?_; rw [h1]; rintro e w1 ⟨rfl, b1⟩
  replace K := K.trans (b1.mono K.size)
  replace X := X.below b1
  clear b1
  have k2 := below1 w1 (.cells #[.int .i64 2000000] 3)
  have hc2 : (w1.alloc (.cells #[.int .i64 2000000] 3)).cell? ⟨w1.heap.size, 0, none⟩ = some (.int .i64 2000000) := by rw [cell_of_block (heap_alloc_new w1 _)]; rfl
  have x2 := (X.below k2).cells.1
  obtain ⟨x0, -, -, -⟩ := X.cells
  rcases Nat.eq_zero_or_pos ps.length with h0 | h0
  · have HZ : Hid (farM ps rs many = []) := Lib.hid (by rw [HQ.out, h0]; rw [Nat.min_zero]; rfl)
    have hl0 : (ps.length : Int) = 0 := by omega
    have hmn : min (many : Int) 0 = 0 := by omega
    have hms : (if (0 : Int) < (many : Int) then (0 : Int) else (many : Int)) = 0 := by rw [if_pos (by omega)]
    replace K := K.trans (k2.mono K.size)
    replace X := X.below k2
    rw [h0] at x0 x2
    clear k2 hc2
    go_wp2_with fail
    refine (repeatM_none _ _ _).mono ?_; rintro e w3 ⟨⟨A3, rfl⟩, b3⟩
    replace K := K.trans (b3.mono K.size)
    replace X := X.below b3
    clear b3 x0 x2
    obtain ⟨x0, -, -, -⟩ := X.cells
    rw [h0] at x0
    go_wp2
    refine wp_loop_rounds 1 ?_; rw [rounds_succ]
    go_wp2
    go_ret
    exact intsMade_nil HZ.out _ _ K
  have hsz1 := K.size
  replace K := K.trans (k2.mono K.size)
  replace X := X.below k2
  go_wp2_with fail
  refine (repeatM_any w1.heap.size 1 ps.length _ h20 h0 hc2).mono ?_; rintro e w3 ⟨rfl, I3, b3⟩
  obtain ⟨g, hg⟩ : ∃ g, g = (w1.alloc (.cells #[.int .i64 2000000] 3)).heap.size := ⟨_, rfl⟩
  rw [← hg] at I3 ⊢
  have hgw : w.heap.size < g := by rw [hg, World.size_alloc]; omega
  replace K := K.trans (b3.mono K.size)
  replace X := X.below b3
  clear hg k2 hc2 x0 x2 b3 hsz1
  obtain ⟨x0, -, -, -⟩ := X.cells
  obtain ⟨M, hM⟩ : ∃ M, M = min many ps.length := ⟨_, rfl⟩
  have hM1 : min (many : Int) (ps.length : Int) = (M : Int) := by rw [hM]; omega
  have hM2 : (if (ps.length : Int) < (many : Int) then (ps.length : Int) else (many : Int)) = (M : Int) := by rw [hM]; split <;> omega
  have hMn : M ≤ ps.length := by omega
  have hM8 : M ≤ 8 := by omega
  rw [← hM] at HQ
  obtain ⟨FL, hFL⟩ : ∃ FL, FL = farL ps.length rs := ⟨_, rfl⟩
  rw [← hFL] at HQ
  have HFL := Lib.hid (fun k => farL_len ps.length rs k)
  have HFI := Lib.hid (fun k (hk : k ≤ ps.length) => (farL_in h20 (arcsIn_net h1) k hk).1)
  have HFF := Lib.hid (fun k (hk : k < ps.length) => farL_free (n := ps.length) h20 (arcsIn_net h1) hk)
  have HGS := Lib.hid (fun k v => gap_snoc ps.length rs (farL ps.length rs k) (nextM ps.length rs (farL ps.length rs k)) v)
  have HFS : Hid (∀ k, farL ps.length rs (k + 1) = farL ps.length rs k ++ [nextM ps.length rs (farL ps.length rs k)]) := Lib.hid (fun k => rfl)
  have I0 : IRow w3 g ps.length (gap ps.length rs (farL ps.length rs 0)) := I3.congr fun i _ => rfl
  have hF0 : farL ps.length rs 0 = [] := rfl
  have own0 : w3.ownsRow (g + 1) 3 1 (.slice none 0 0) 0 ((natZ (farL ps.length rs 0)).map (Value.int .i64)) := World.ownsRow_nil _ _ _ _
  rw [← hFL] at HFL HFI HFF HGS HFS I0 own0
  clear hFL hF0
  clear I3 hM h1
  go_wp2
  go_loopw [6, 31] (fun vm vi wr => ∃ k : Nat, k ≤ M ∧ vi = .int .i64 k ∧ wr.ownsRow (g + 1) 3 1 vm k ((natZ (FL k)).map (Value.int .i64)) ∧ IRow wr g ps.length (gap ps.length rs (FL k)) ∧ Pair wr w.heap.size 34 (.slice A ps.length ca) (.slice B rs.length cb) ∧ Below w.heap.size w wr) (fun _ i _ => M - (intOf i).toNat)
  case atStart => exact ⟨0, by omega, rfl, own0, I0, X, K⟩
  case round =>
    clear I0 own0 X K x0 hM1 hM2
    obtain ⟨k, hkM, rfl, own, I, X, K⟩ := hrel
    obtain ⟨V, cV, rfl⟩ := own_formF own
    by_cases hlt : k < M
    · obtain ⟨u, hu, huL⟩ := HFF.out k (by omega)
      obtain ⟨q1, q2, -, q4, q5⟩ := nextM_is h20 HR.out (HFI.out k (by omega)) hu huL
      have HGk := Lib.hid (HGS.out k)
      have HFk := Lib.hid (HFS.out k)
      obtain ⟨Nx, hNx⟩ : ∃ Nx, Nx = nextM ps.length rs (FL k) := ⟨_, rfl⟩
      rw [← hNx] at q1 q2 q4 q5 HGk HFk
      obtain ⟨L, hL⟩ : ∃ L, L = FL k := ⟨_, rfl⟩
      rw [← hL] at q2 q4 q5 HGk HFk own I
      clear hNx hL q2 huL hu
      have HI := Lib.hid I
      have HIZ := Lib.hid I.isInts
      have HZl := Lib.hid (rowZ_len ps.length (gap ps.length rs L))
      have HNX := Lib.hid (And.intro q1 (And.intro q4 q5))
      have HX := Lib.hid X
      have HDF := Lib.hid (dF_yes HN.out q1)
      have HDL := Lib.hid (dst_len ps.length rs Nx)
      have hol := World.ownsRow.lt own
      have hgl := I.lt
      obtain ⟨Z, hZ⟩ : ∃ Z, Z = rowZ ps.length (gap ps.length rs L) := ⟨_, rfl⟩
      have HZ := Lib.hid hZ
      rw [← hZ] at HIZ HZl
      clear I X q4 q5 hZ
      go_wp2_with fail
      rw [← HZl.out]
      refine (maxInts_any _ _ Z _ (by rw [HZl.out]; omega) (by rw [HZl.out]; omega) HIZ.out).mono ?_; rintro e w' ⟨⟨m, rfl, HMi, HMa⟩, rfl⟩
      rw [HZl.out]
      have hmx : zg Z Nx = m := by
        obtain ⟨i, hi, he⟩ := HMi
        have h1 := HMa Nx (by rw [HZl.out]; exact q1)
        have h2 := HNX.out.2.1 i (by rw [HZl.out] at hi; exact hi)
        rw [HZ.out, rowZ_get q1] at h1 ⊢
        rw [HZl.out] at hi
        rw [HZ.out, rowZ_get hi] at he
        omega
      have hno : ∀ j, j < Nx → zg Z j ≠ m := fun j hj => by
        have := HNX.out.2.2 j hj
        rw [← hmx, HZ.out, rowZ_get q1, rowZ_get (show j < ps.length by omega)]; omega
      have HNO := Lib.hid hno
      have HMX := Lib.hid hmx
      clear HMi HMa hno hmx
      go_wp2_with fail
      rw [← HZl.out]
      refine (indexInts_at _ _ Nx Z m _ (by rw [HZl.out]; omega) (by rw [HZl.out]; omega) HMX.out HNO.out HIZ.out).mono ?_; rintro e w' ⟨rfl, rfl⟩
      rw [HZl.out]
      clear HNO HMX HIZ HZ HNX
      have kc := below1 wr (.cells #[.int .i64 (Nx : Int)] 3)
      obtain ⟨v1, w4, hr1, p1, g1⟩ := run_append_intF (w := wr) 27 (g + 1) _ k _ own (Nx : Int) (by omega) (by omega)
      rw [← natZ_snoc, ← HFk.out] at p1
      obtain ⟨A4, c4, rfl⟩ := own_formF p1
      have I4 : IRow w4 g ps.length (gap ps.length rs L) := OwnAt.of_block (HI.out.below kc) (g1.block _ (HI.out.below kc).lt (fun e => by have := (hol _ e.symm).1; omega))
      have X4 := (HX.out.below kc).grownUp g1 (fun b e => by have := (hol b e).1; omega)
      have K4 := (K.trans (kc.mono K.size)).grown g1 (by have := K.size; rw [World.size_alloc]; omega) (fun b e => by have := (hol b e).1; omega)
      obtain ⟨x0, x1, -, -⟩ := X4.cells
      clear own K HI HX g1 kc
      go_wp2_with (at_builtin; refine Lib.wpList_append_run _ rfl _ _ _ _ rfl _ _ rfl rfl _ _ hr1 ?_)
      refine (implDistFrom_any A B ca cb ps rs (Nx : Int) _ (by omega) (by omega) (ha.below K4) (hb.below K4)).mono ?_; rintro e w5 ⟨A5, c5, rfl, hc5, O5, b5⟩
      rw [HDF.out] at hc5 O5 ⊢
      rw [HDL.out] at hc5 ⊢
      have hgl4 := I4.lt
      have I5 := I4.below b5
      have X5 := X4.below b5
      have p5 := ownsRow_below p1 b5
      have K5 := K4.trans (b5.mono K4.size)
      rw [HDL.out] at O5
      have HD := Lib.hid (fun i (hi : i < ps.length) => dst_val h20 q1 HR.out (v := i) hi)
      have hol5 := World.ownsRow.lt p5
      generalize hdd : dst ps.length rs Nx = d at O5 HD HGk HDL
      clear hdd I4 X4 p1 K4 x0 x1 hr1 b5
      obtain ⟨g5, o5, rfl, hg5, D5⟩ := O5 (by omega)
      go_wp2
      go_loopw [45] (fun vi wr => ∃ j : Nat, j ≤ ps.length ∧ vi = .int .i64 j ∧ IRow wr g ps.length (fun i => if i < j then gap1 (gap ps.length rs L i) (zg d i) else gap ps.length rs L i) ∧ OwnAt wr g5 3 o5 ps.length (zg d) ∧ Pair wr w.heap.size 34 (.slice A ps.length ca) (.slice B rs.length cb) ∧ wr.ownsRow (g + 1) 3 1 (.slice A4 (k + 1) c4) (k + 1) ((natZ (FL (k + 1))).map (Value.int .i64)) ∧ Below w.heap.size w wr) (fun i _ => ps.length - (intOf i).toNat)
      case atStart => exact ⟨0, by omega, rfl, I5.congr (fun i _ => by rw [if_neg (by omega)]), D5, X5, p5, K5⟩
      case round =>
        clear I5 D5 X5 p5 K5 O5
        obtain ⟨j, hj, rfl, I, D, X, own, K⟩ := hrel
        by_cases hjl : j < ps.length
        · have cg := I.cell hjl
          have fg := I.frozen j
          rw [if_neg (Nat.lt_irrefl j)] at cg
          have cd := D.cell hjl
          have hjl2 : (j : Int) < ps.length := by omega
          obtain ⟨x, hx⟩ : ∃ x, x = zg d j := ⟨_, rfl⟩
          obtain ⟨y, hy⟩ : ∃ y, y = gap ps.length rs L j := ⟨_, rfl⟩
          rw [← hx] at cd
          rw [← hy] at cg
          have HX := Lib.hid hx
          have HY := Lib.hid hy
          clear hx hy
          by_cases hf : x = -1
          · have hfb : (x != -1) = false := by simp [hf]
            have HF := Lib.hid hf
            clear hf
            go_wp2
            go_roundw
            case rel =>
              refine ⟨j + 1, by omega, by go_num, I.congr (fun i hi => ?_), D, X, own, K⟩
              by_cases e : i = j
              · subst e; rw [if_neg (by omega), if_pos (by omega), ← HX.out, HF.out]; rfl
              · by_cases e2 : i < j
                · rw [if_pos e2, if_pos (by omega)]
                · rw [if_neg e2, if_neg (by omega)]
            case measure => simp [intOf]; omega
          · have hfb : (x != -1) = true := by simpa using hf
            have HF := Lib.hid hf
            clear hf
            go_wp2
            go_roundw
            case rel =>
              refine ⟨j + 1, by omega, by go_num, (I.set j _).congr (fun i hi => ?_), OwnAt.of_block D (Below.heap_setCell _ _ _ _ (by simp; omega)), X.far (by omega) _ _, ownsRow_far own (by omega) _ _, K.setCell (by simp; omega) _⟩
              by_cases e : i = j
              · subst e
                rw [if_pos rfl, if_pos (by omega), ← HX.out, ← HY.out]
                unfold gap1
                rw [if_neg HF.out]
                all_goals ((try split) <;> omega)
              · rw [if_neg e]
                by_cases e2 : i < j
                · rw [if_pos e2, if_pos (by omega)]
                · rw [if_neg e2, if_neg (by omega)]
            case measure => simp [intOf]; omega
        · obtain rfl : j = ps.length := by omega
          have IN : IRow wr g ps.length (gap ps.length rs (FL (k + 1))) := I.congr (fun i hi => by rw [if_pos hi, HFk.out, HGk.out])
          clear I
          go_wp2
          go_roundw
          case rel => exact ⟨k + 1, by omega, by go_num, own, IN, X, K⟩
          case measure => simp [intOf]; omega
    · obtain rfl : k = M := by omega
      have hlen := HFL.out k
      have HE := Lib.hid (intsMade_of (zs := natZ (FL k)) (by
        have := ownsRow_base own (base' := w.heap.size) (by omega)
        rw [show (natZ (FL k)).length = k by unfold natZ; rw [List.length_map, hlen]]
        exact this) K)
      clear own I X
      go_wp2
      go_ret
      rw [HQ.out]; exact HE.out

theorem implFar_any (A B : Option Addr) (ca cb : Nat) (ps : List (Int × Int)) (rs : List A3) (many : Int) (w : World) (hn : ps.length ≤ 1048576) (hm : rs.length ≤ 1048576) (ha : IsPts w A ps) (hb : IsArcs w B rs) :
    Calls Try.prog 39 #[.agg #[.slice A ps.length ca, .slice B rs.length cb], .int .i64 many] w (IntsMade w (farM ps rs many)) := by
  by_cases h : netB ps rs = false ∨ many < 1 ∨ 8 < many
  · exact implFar_no A B ca cb ps rs many w hn hm ha hb h
  · have h1 : netB ps rs = true := by cases e : netB ps rs with
      | false => exact absurd (.inl e) h
      | true => rfl
    have h2 : ¬ many < 1 := fun e => h (.inr (.inl e))
    have h3 : ¬ 8 < many := fun e => h (.inr (.inr e))
    obtain ⟨M, rfl⟩ : ∃ M : Nat, many = M := ⟨many.toNat, by omega⟩
    exact implFar_yes A B ca cb ps rs M w ha hb h1 (by omega) (by omega)

end Go.Proofs.Ytbmfjfglkjhlnaa
