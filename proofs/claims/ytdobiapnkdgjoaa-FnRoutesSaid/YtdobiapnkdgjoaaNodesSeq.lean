/-
  What impl.Net.nodesTo and the function that it returns do.
-/
import Derived.Test.YtdobiapnkdgjoaaNextTo
import Derived.Test.YtdobiapnkdgjoaaCollect
namespace Go.Proofs.Ytdobiapnkdgjoaa
open Go.RowKit Go.Deep

attribute [local go_sem] Oper.semAt_some

/-- The nodes from u on, at most m. -/
def brF (rs : List A3) (d : List Int) : Nat → Int → List Int
  | 0, _ => []
  | m + 1, u => if u = -1 then [] else u :: brF rs d m (nxt rs d u)
theorem brF_end (rs : List A3) (d : List Int) : ∀ m, brF rs d m (-1) = []
  | 0 => rfl
  | m + 1 => by unfold brF; rw [if_pos rfl]
theorem brF_step (rs : List A3) (d : List Int) (m : Nat) (u : Int) (hu : u ≠ -1) : brF rs d (m + 1) u = u :: brF rs d m (nxt rs d u) := by
  show (if u = -1 then [] else u :: brF rs d m (nxt rs d u)) = _
  rw [if_neg hu]
theorem nxt_less {n : Nat} {rs : List A3} {d : List Int} {U : Nat} (hr : ArcsIn n rs) (hd : DBound n d) (hU : 0 ≤ zg d U) : nxt rs d U = -1 ∨ ∃ V : Nat, nxt rs d U = V ∧ V < n ∧ 0 ≤ zg d V ∧ zg d V + 1 ≤ zg d U := by
  rcases nxt_cases rs d U with ⟨h, -⟩ | ⟨i, hi, hf, e⟩
  · exact .inl h
  · obtain ⟨-, ⟨t0, t1⟩, -, l0, -⟩ := hr _ (arg_mem hi)
    unfold fit at hf
    simp only [Bool.and_eq_true, decide_eq_true_eq, beq_iff_eq, Int.toNat_natCast] at hf
    obtain ⟨-, h2, h3⟩ := hf
    have hb := (hd.2 (arg rs i).2.1.toNat (by omega)).resolve_left h2
    exact .inr ⟨(arg rs i).2.1.toNat, by rw [e]; omega, by omega, by omega, by omega⟩

theorem nextTo_len (A B : Option Addr) (ca cb n : Nat) (rs : List A3) (D : Option Addr) (cd : Nat) (d : List Int) (U : Nat) (w : World) (hn : n ≤ 20) (hm : rs.length ≤ 70) (hr : ArcsIn n rs) (hd : DBound n d) (hU : U < n) (hb : IsArcs w B rs) (hi : IsInts w D d) :
    Calls Try.prog 107 #[.agg #[.slice A n ca, .slice B rs.length cb], .int .i64 (U : Int), .slice D d.length cd] w fun e w' => e = .returned (.int .i64 (nxt rs d U)) ∧ Below w.heap.size w w' := by
  rw [hd.1]; exact nextTo_any A B ca cb n rs D cd d U w hn hm hr hd hU hb hi

theorem nodesTo_any (A B : Option Addr) (n m ca cb : Nat) (s t : Int) (w : World) :
    Calls Try.prog 62 #[.agg #[.slice A n ca, .slice B m cb], .int .i64 s, .int .i64 t] w fun e w' => e = .returned (.func (.func 105) #[] #[.pointer (some ⟨w.heap.size, 0, none⟩), .pointer (some ⟨w.heap.size + 1 + 1, 0, none⟩), .pointer (some ⟨w.heap.size + 1, 0, none⟩)]) ∧ w' = ((w.alloc (.cells #[.slice A n ca, .slice B m cb] 27)).alloc (.cells #[.int .i64 s] 3)).alloc (.cells #[.int .i64 t] 3) := by
  have hmf : ∀ (fn : Fn) (first cap : Array Value) (w : World), (Instr.makeFunc fn first cap).run Try.prog w = .ok (.func fn first cap) w := fun _ _ _ _ => rfl
  go_enter Try.func62, Try.ntmps62
  go_wp2
  go_ret
  exact ⟨rfl, rfl⟩

theorem isInts_kept {B T : Nat} {X Y : World} (h : Kpt B X Y) (hT : T ≤ X.heap.size) (hr : RowFrom B T X) {A : Option Addr} {zs : List Int} (hi : 0 < zs.length → ∃ b off, A = some ⟨b, off, none⟩ ∧ b < T ∧ b ≠ B ∧ IntsAt X b off zs) : IsInts Y A zs := fun hp => by
  obtain ⟨b, off, e, hb, hB, hc⟩ := hi hp
  exact ⟨b, off, e, by have := h.size; omega, fun i hi' => h.cell hT hr hb hB (hc i hi')⟩

set_option maxRecDepth 100000 in
set_option maxHeartbeats 4000000 in
theorem nodes_stops (bn bs bt : Nat) (ad : Addr) (B : Option Addr) (ca cb : Nat) (ps : List (Int × Int)) (rs : List A3) (s t : Nat) (hn : ps.length ≤ 1048576) (hm : rs.length ≤ 1048576) (hok : netB ps rs = true) (hs : s < ps.length) (ht : t < ps.length) (hst : 0 ≤ zg (dst ps.length (turnL rs) t) s)
    (Bx : Nat) (w0 w : World) (h0 : Below w0.heap.size w0 w) (hB : w0.heap.size ≤ Bx) (hBw : Bx < w.heap.size) (hrow : ∀ u v, Boxed w Bx u v → v.ownBlock = none) (hbn : bn ≠ Bx) 
    (c0 : w.cell? ⟨bn, 0, none⟩ = some (.slice (some ad) ps.length ca)) (c1 : w.cell? ⟨bn, 1, none⟩ = some (.slice B rs.length cb)) (c2 : w.cell? ⟨bs, 0, none⟩ = some (.int .i64 (s : Int))) (c3 : w.cell? ⟨bt, 0, none⟩ = some (.int .i64 (t : Int))) (ha : IsPts w0 (some ad) ps) (hb : IsArcs w0 B rs) :
    SeqStopsK Fence.wide 8 Try.prog 105 #[.pointer (some ⟨bn, 0, none⟩), .pointer (some ⟨bt, 0, none⟩), .pointer (some ⟨bs, 0, none⟩)] (fun x : Int => #[Value.int .i64 x]) (Kpt Bx) (fun ys => ys = brF rs (dst ps.length (turnL rs) t) 200001 s) (fun _ => True) 200001 w :=
  fun l J Jx W hW hJ _ hY hJ0 => by
  obtain ⟨h20, h70, -, -⟩ := netB_iff.1 hok
  have hA := arcsIn_net hok
  obtain ⟨hA2, -, -⟩ := turn_arcs hok
  have h0W : Below w0.heap.size w0 W := h0.trans (hW.mono h0.size)
  have hD : DBound ps.length (dst ps.length (turnL rs) t) := ⟨dst_len _ _ _, fun i hi => dst_val h20 ht hA2 hi⟩
  have hsd : zg (dst ps.length (turnL rs) t) s ≤ 200000 := by rcases hD.2 s hs with h | h <;> omega
  have hDT := implDistTo_any ad B ca cb ps rs (t : Int) W hn hm (ha.below h0W) (hb.below h0W)
  rw [dT_yes hok ht] at hDT
  obtain ⟨d, hd⟩ : ∃ d, d = dst ps.length (turnL rs) t := ⟨_, rfl⟩
  rw [← hd] at hDT hD hsd hst ⊢
  have c0W := cell_under hW c0
  have c1W := cell_under hW c1
  have c2W := cell_under hW c2
  have c3W := cell_under hW c3
  have HDT := Lib.hid hDT
  have HD := Lib.hid hD
  have hBW : Bx < W.heap.size := Nat.lt_of_lt_of_le hBw hW.size
  have hrW : ∀ u v, Boxed W Bx u v → v.ownBlock = none := fun u v e => hrow u v (boxed_same (hW.block Bx hBw) e)
  have hbnW : bn < W.heap.size := by have := World.block_lt_of_cell? W _ c0W; simpa using this
  have HY := Lib.hid hY
  have HJ := Lib.hid hJ
  clear hDT hD hY hJ hd
  refine callsIn_of_wp Try.func105 rfl trivial ?_ rfl
  simp only [Try.ntmps105, List.size_toArray, List.length_cons, List.length_nil, Nat.reduceAdd, Nat.reduceSub, Array.replicate_succ, Array.replicate_zero, List.push_toArray, List.append_toArray, List.nil_append, List.cons_append]
  refine wpIn_wide.2 ?_
  go_wp2_with fail
  refine HDT.out.mono ?_; rintro e w5 ⟨D, cd, rfl, hcd, O, b5⟩
  have c2W5 := cell_under b5 c2W
  go_wp2
  refine (wpIn_wide (n := 8)).1 ?_
  have hr5 : RowFrom Bx w5.heap.size w5 := fun u v k e ek => by rw [hrW u v (boxed_same (b5.block Bx hBW) e)] at ek; cases ek
  have c05 := cell_under b5 c0W
  have c15 := cell_under b5 c1W
  have hs5 := b5.size
  have h05 : Below w0.heap.size w0 w5 := h0W.trans (b5.mono h0W.size)
  have O5 : 0 < d.length → ∃ b off, D = some ⟨b, off, none⟩ ∧ b < w5.heap.size ∧ b ≠ Bx ∧ IntsAt w5 b off d := fun hp => by
    obtain ⟨g, off, e, hg, O'⟩ := O hp
    exact ⟨g, off, e, O'.lt, by omega, fun i hi => O'.cell hi⟩
  have HG : Hid (∀ X, Kpt Bx w5 X → X.cell? ⟨bn, 0, none⟩ = some (.slice (some ad) ps.length ca) ∧ X.cell? ⟨bn, 1, none⟩ = some (.slice B rs.length cb) ∧ IsArcs X B rs ∧ IsInts X D d) := Lib.hid fun X hX =>
    ⟨hX.cell (Nat.le_refl _) hr5 (by omega) hbn c05, hX.cell (Nat.le_refl _) hr5 (by omega) hbn c15, hX.arcs (Nat.le_refl _) hr5 h05 hB h05.size hb, isInts_kept hX (Nat.le_refl _) hr5 O5⟩
  have hJ5 : J [] w5 := abides_below HJ.out hJ0 b5
  have hB5 : Bx < w5.heap.size := by omega
  clear O O5 hr5 c0W c1W c2W c3W c2W5 b5 HDT hJ0 c05 c15 c0 c1 c2 c3
  gi_loopw [6] (fun v wr => ∃ (pre : List Int) (u : Int), v = .int .i64 u ∧ J pre wr ∧ Kpt Bx w5 wr ∧ pre ++ brF rs d (200001 - pre.length) u = brF rs d 200001 s ∧ (u = -1 ∨ ∃ U : Nat, u = U ∧ U < ps.length ∧ 0 ≤ zg d U ∧ zg d U + pre.length ≤ 200000))
    (fun v _ => if intOf v = -1 then 0 else (zg d (intOf v).toNat).toNat + 1)
  case atStart => exact ⟨[], s, rfl, hJ5, Kpt.refl _ _, rfl, .inr ⟨s, rfl, hs, hst, by simpa using hsd⟩⟩
  case round =>
    obtain ⟨pre, u, rfl, hJp, hKp, hpre, hu⟩ := hrel
    rcases hu with rfl | ⟨U, rfl, hU, hU0, hU1⟩
    · rw [brF_end, List.append_nil] at hpre
      gi_wp2
      refine ⟨fun _ h => (by cases h), ?_⟩
      gi_wp2
      go_end0
      exact ⟨⟨_, rfl⟩, .inl ⟨pre, hpre, hJp⟩⟩
    · obtain ⟨fn, tmps, assign, body, hy, hR⟩ := HY.out pre (U : Int) wr hJp (by omega)
      have hne : ((U : Int) != -1) = true := bne_iff_ne.2 (by omega)
      have hne' : (U : Int) ≠ -1 := by omega
      obtain ⟨M, hM⟩ : ∃ M, 200001 - pre.length = M + 1 := ⟨200000 - pre.length, by omega⟩
      rw [hM, brF_step rs d M U hne'] at hpre
      have HPRE := Lib.hid hpre
      have HM := Lib.hid hM
      clear hpre hM
      gi_wp2
      refine hR.mono ?_
      rintro e W3 (⟨rfl, hJ3, hk3⟩ | ⟨rfl, hx3⟩)
      · have hK3 := hKp.trans hk3
        obtain ⟨y0, y1, R3, I3⟩ := HG.out _ hK3
        have HNX := Lib.hid (nextTo_len (some ad) B ca cb ps.length rs D cd d U W3 h20 h70 hA HD.out hU R3 I3)
        gi_wp2
        refine ⟨trivial, ?_⟩
        refine (callsIn_wide.2 HNX.out).mono ?_; rintro e w6 ⟨rfl, b6⟩
        have hKq := hK3.trans (Kpt.of_below b6 (by have := hK3.size; omega))
        have hJ6 := abides_below HJ.out hJ3 b6
        have HLE := Lib.hid (nxt_less hA HD.out hU0)
        obtain ⟨x, hx⟩ : ∃ x, x = nxt rs d U := ⟨_, rfl⟩
        rw [← hx] at HLE HPRE ⊢
        clear hx HNX b6 y0 y1 R3 I3 hy hR
        gi_wp2
        go_roundw
        case rel =>
          refine ⟨pre ++ [(U : Int)], x, rfl, hJ6, hKq, ?_, ?_⟩
          · have := HM.out
            rw [List.length_append, show 200001 - (pre.length + [(U : Int)].length) = M by simp; omega, List.append_assoc]
            exact HPRE.out
          · rcases HLE.out with h | ⟨V, h1, h2, h3, h4⟩
            · exact .inl h
            · exact .inr ⟨V, h1, h2, h3, by simp; omega⟩
        case measure =>
          rcases HLE.out with h | ⟨V, h1, h2, h3, h4⟩
          · rw [h]; simp [intOf]
          · rw [h1]; simp [intOf]; omega
      · gi_wp2
        go_end0
        exact ⟨⟨_, rfl⟩, .inr ⟨_, trivial, hx3⟩⟩

end Go.Proofs.Ytdobiapnkdgjoaa
