/-
  What impl.Net.settled computes: the items that a search takes, in their order.
-/
import Derived.Test.YtcaamhoakhgnhaaSetRow
import Derived.Test.YtcaamhoakhgnhaaPutAll
import Derived.Test.YtcaamhoakhgnhaaNetImpl
namespace Go.Proofs.Ytcaamhoakhgnhaa
open Go.RowKit Go.Deep Go.Maps

def sliceLen : Value → Nat
  | .slice _ n _ => n
  | _ => 0
theorem ownsRow_raise {w : World} {base base' : Nat} {e : TypeId} {size n : Nat} {v : Value} {xs : List Value} (h : w.ownsRow base e size v n xs) (hv : ∀ g, v.ownBlock = some g → base' ≤ g) : w.ownsRow base' e size v n xs := by
  refine ⟨h.1, ?_⟩
  rcases h.2 with h2 | ⟨g, cap, cur, h1, h2, h3⟩
  · exact .inl h2
  · exact .inr ⟨g, cap, cur, h1, hv g (by rw [h1]; rfl), h3⟩
theorem own_form' {w : World} {base : Nat} {e : TypeId} {size n : Nat} {v : Value} {xs : List Value} (h : w.ownsRow base e size v n xs) : ∃ A c, v = .slice A n c := by
  rcases h.2 with ⟨h1, h2⟩ | ⟨g, cap, cur, h1, -⟩
  · exact ⟨none, 0, by rw [h1, h2]⟩
  · exact ⟨_, _, h1⟩
theorem SI.list {n : Nat} {rs : List A3} {zs : List Int} (hz : NetZ n rs zs) {x : Int × Int} {D : List (Int × Int)} (hx : 0 ≤ x.1 ∧ x.1 ≤ 1000000 + 2000000 * (D.length : Int)) : ∀ (l : List Nat) (q : List (Int × Int)), (∀ i ∈ l, i < rs.length) → SI n q (D ++ [x]) → SI n (puL zs rs x (D ++ [x]) q l) (D ++ [x])
  | [], q, _, h => h
  | i :: l, q, hl, h => by
    show SI n (puL zs rs x (D ++ [x]) (if idsIn (D ++ [x]) (arg rs i).2.1 = false then putL q (x.1 + red rs zs i, (arg rs i).2.1) else q) l) (D ++ [x])
    refine SI.list hz hx l _ (fun j hj => hl j (List.mem_cons_of_mem _ hj)) ?_
    have hi := hl i (by simp)
    split
    · rename_i g
      have hb := hz.red_bd hi
      refine h.put (hz.arcs _ (arg_mem hi)).2.1 g ?_
      rw [List.length_append]; simp; omega
    · exact h
theorem rowL_lt {kf : Nat → Nat} {u m k i : Nat} (h : i ∈ (rowL kf u m).take k) : i < m := by
  have := List.mem_of_mem_take h
  unfold rowL at this
  exact List.mem_range.1 (List.mem_filter.1 this).1
/-- The key that is read, and nothing older has turned. -/
abbrev StS (w0 : World) (xb : Nat) (v : Value) (w : World) : Prop := w.cell? ⟨xb, 0, none⟩ = some v ∧ Below w0.heap.size w0 w
theorem StS.drew {w0 : World} {xb : Nat} {v : Value} {w : World} (h : StS w0 xb v w) : StS w0 xb v w.drew := ⟨h.1, h.2.drew⟩
theorem StS.under {w0 : World} {xb : Nat} {v : Value} {w w' : World} (hb : Below w.heap.size w w') (h : StS w0 xb v w) : StS w0 xb v w' := ⟨cell_under hb h.1, h.2.trans (hb.mono h.2.size)⟩
theorem StS.kp {w0 : World} {xb : Nat} {v : Value} {w w' : World} {P : Nat → Prop} (k : Kp P w w') (hx : P xb) (hP : ∀ b, b < w0.heap.size → P b) (h : StS w0 xb v w) : StS w0 xb v w' := by
  have hl : xb < w.heap.size := by simpa using World.block_lt_of_cell? w _ h.1
  refine ⟨(World.cell?_of_block (w := w) (a := ⟨xb, 0, none⟩) (k.block xb hx hl)).trans h.1, h.2.trans ⟨k.os, k.tape, k.output, k.size, fun b hb => k.block b (hP b hb) (Nat.lt_of_lt_of_le hb h.2.size)⟩⟩
theorem StS.bel {w0 : World} {xb : Nat} {v : Value} {w : World} (h : StS w0 xb v w) : Below w0.heap.size w0 w := h.2

set_option maxRecDepth 1000000 in
set_option maxHeartbeats 8000000 in
theorem settledS_any (A B : Option Addr) (ca cb : Nat) (ps : List (Int × Int)) (rs : List A3) (zs : List Int) (S t : Nat) (nb : Nat) (w : World) (hz : NetZ ps.length rs zs) (hS : S < ps.length) (hb : IsArcs w B rs)
    (HCOST : Hid (∀ W, Below w.heap.size w W → ∀ i : Nat, i < rs.length → Calls Try.prog 48 #[.int .i64 (i : Int), .pointer (some ⟨nb, 0, none⟩)] W fun e w' => e = .returned (.int .i64 (red rs zs i)) ∧ Below W.heap.size W w')) :
    Calls Try.prog 47 #[.agg #[.slice A ps.length ca, .slice B rs.length cb], .agg #[.int .i64 (zg zs S), .int .i64 (S : Int)], .int .i64 (t : Int), .func (.func 48) #[] #[.pointer (some ⟨nb, 0, none⟩)]] w (TakenMade w (took ps.length rs zs S t)) := by
  have hn20 := hz.n20
  have hm70 := hz.m70
  have hSI := SI.start hS hz.len hz.pin
  have hk : ∀ i, i < rs.length → 0 ≤ (arg rs i).1 ∧ (arg rs i).1 < (ps.length : Int) := fun i hi => (hz.arcs _ (arg_mem hi)).1
  have HK := Lib.hid hk
  have HZ := Lib.hid hz
  have HSI := Lib.hid hSI
  have HL : Hid (srch zs rs t (ps.length + 1) [(zg zs S, (S : Int))] [] = took ps.length rs zs S t) := Lib.hid rfl
  obtain ⟨L, hL⟩ : ∃ L, L = took ps.length rs zs S t := ⟨_, rfl⟩
  rw [← hL] at HL ⊢
  clear hL
  obtain ⟨z0, hz0⟩ : ∃ z0, z0 = zg zs S := ⟨_, rfl⟩
  rw [← hz0] at HL HSI ⊢
  clear hz hSI hk hz0
  have K := below2 w (.cells #[.slice A ps.length ca, .slice B rs.length cb] 32) (.cells #[.int .i64 z0, .int .i64 (S : Int)] 73)
  have X := (Pair.new w 32 (.slice A ps.length ca) (.slice B rs.length cb)).alloc (.cells #[.int .i64 z0, .int .i64 (S : Int)] 73)
  have Y : Pair ((w.alloc (.cells #[.slice A ps.length ca, .slice B rs.length cb] 32)).alloc (.cells #[.int .i64 z0, .int .i64 (S : Int)] 73)) (w.heap.size + 1) 73 (.int .i64 z0) (.int .i64 (S : Int)) := by
    have := Pair.new (w.alloc (.cells #[.slice A ps.length ca, .slice B rs.length cb] 32)) 73 (.int .i64 z0) (.int .i64 (S : Int)); rwa [World.size_alloc] at this
  obtain ⟨x0, x1, -, -⟩ := X.cells
  go_enter Try.func47, Try.ntmps47
  go_wp2_with fail
  refine (rowsF_any A B ca cb ps rs _ hn20 hm70 (hb.below K) HK.out).mono ?_; rintro e w1 ⟨s, LR, rfl, -, -, R, Lr, b1⟩
  clear x0 x1
  replace X := X.below b1
  replace Y := Y.below b1
  replace K := K.trans (b1.mono K.size)
  clear b1
  have T := Quad.new w1 91 (.slice A ps.length ca) (.slice B rs.length cb) (.slice (some ⟨s, 0, none⟩) (ps.length + 1) (ps.length + 1)) (.slice (some ⟨LR, 0, none⟩) rs.length rs.length)
  have b2 := below1 w1 (.cells #[.slice A ps.length ca, .slice B rs.length cb, .slice (some ⟨s, 0, none⟩) (ps.length + 1) (ps.length + 1), .slice (some ⟨LR, 0, none⟩) rs.length rs.length] 91)
  replace X := X.below b2
  replace Y := Y.below b2
  replace R := R.below b2
  replace Lr := Lr.below b2
  replace K := K.trans (b2.mono K.size)
  clear b2
  obtain ⟨tb, htb⟩ : ∃ tb, tb = w1.heap.size := ⟨_, rfl⟩
  rw [← htb] at T
  have HTB := Lib.hid htb
  clear htb
  -- the queue of one item
  have kq := below1 (w1.alloc (.cells #[.slice A ps.length ca, .slice B rs.length cb, .slice (some ⟨s, 0, none⟩) (ps.length + 1) (ps.length + 1), .slice (some ⟨LR, 0, none⟩) rs.length rs.length] 91)) (.cells #[.int .i64 z0, .int .i64 (S : Int)] 73)
  have I1 := one_pts (w1.alloc (.cells #[.slice A ps.length ca, .slice B rs.length cb, .slice (some ⟨s, 0, none⟩) (ps.length + 1) (ps.length + 1), .slice (some ⟨LR, 0, none⟩) rs.length rs.length] 91)) z0 (S : Int)
  obtain ⟨y0, y1, -, -⟩ := Y.cells
  replace X := X.below kq
  replace T := T.below kq
  replace R := R.below kq
  replace Lr := Lr.below kq
  replace K := K.trans (kq.mono K.size)
  have hq64 : ∀ i, i < [(z0, (S : Int))].length → In64 (idg [(z0, (S : Int))] i) := fun i hi => by
    obtain rfl : i = 0 := by simpa using hi
    exact ⟨by show _ ≤ (S : Int); omega, by show (S : Int) ≤ _; omega⟩
  have hqap : ∀ i, i < [(z0, (S : Int))].length → ∀ j, j < i → idg [(z0, (S : Int))] j ≠ idg [(z0, (S : Int))] i := fun i hi j hj => by simp at hi; omega
  have HQ64 := Lib.hid hq64
  have HQAP := Lib.hid hqap
  clear kq Y hq64 hqap
  go_wp2_with fail
  rw [← HTB.out]
  obtain ⟨W, hW⟩ : ∃ W, W = (w1.alloc (.cells #[.slice A ps.length ca, .slice B rs.length cb, .slice (some ⟨s, 0, none⟩) (ps.length + 1) (ps.length + 1), .slice (some ⟨LR, 0, none⟩) rs.length rs.length] 91)).alloc (.cells #[.int .i64 z0, .int .i64 (S : Int)] 73) := ⟨_, rfl⟩
  rw [← hW] at X T R Lr K I1 ⊢
  clear hW y0 y1
  rw [World.size_alloc, ← HTB.out] at I1
  refine (queueOf_any _ _ [(z0, (S : Int))] W (by simp) I1 HQ64.out HQAP.out).mono ?_; rintro e w2 ⟨qa, rfl, hs, b2⟩
  have hTl := T.lt
  have hXl := X.lt
  have hRl := R.lt
  have hLl := Lr.lt
  have hsz2 := b2.size
  have HENV : Hid (∀ V, Kp (fun b => b < W.heap.size) W V → Pair V w.heap.size 32 (.slice A ps.length ca) (.slice B rs.length cb) ∧ Quad V tb 91 (.slice A ps.length ca) (.slice B rs.length cb) (.slice (some ⟨s, 0, none⟩) (ps.length + 1) (ps.length + 1)) (.slice (some ⟨LR, 0, none⟩) rs.length rs.length) ∧ IRow V s (ps.length + 1) (fun j => (cL (kfF rs) rs.length j : Nat)) ∧ IRow V LR rs.length (placed (kfF rs) rs.length rs.length) ∧ Below w.heap.size w V) := Lib.hid fun V k =>
    ⟨(k.block _ hXl hXl).trans X, (k.block _ hTl hTl).trans T, OwnAt.of_block R (k.block _ hRl hRl), OwnAt.of_block Lr (k.block _ hLl hLl), K.trans ((k.below (Nat.le_refl _)).mono K.size)⟩
  have KW : Kp (fun b => b < W.heap.size) W w2 := .of b2
  have HWS := Lib.hid K.size
  clear X T R Lr K I1 b2 HQ64 HQAP HTB
  obtain ⟨x0, x1, -, -⟩ := (HENV.out _ KW).1.cells
  have hmk := run_make_row' (P := Try.prog) 106 4 (.bool false) 1 Try.underlying106 Try.infoBool rfl .i64 .i64 ps.length (by omega) (by omega)
  have kd := below1 w2 (.cells (madeCells #[.bool false] ps.length) 4)
  have hQ := hs.pinNew kd
  have DR : BRow (w2.alloc (.cells (madeCells #[.bool false] ps.length) 4)) w2.heap.size ps.length (fun j => idsIn [] (j : Int)) := BRow.made w2 ps.length
  have KW2 := KW.trans (Kp.of kd)
  obtain ⟨dd, hdd⟩ : ∃ dd, dd = w2.heap.size := ⟨_, rfl⟩
  rw [← hdd] at DR
  have hdW : W.heap.size ≤ dd := by omega
  have HDD := Lib.hid hdd
  clear hdd kd hs KW
  obtain ⟨W3, hW3⟩ : ∃ W3, W3 = w2.alloc (.cells (madeCells #[.bool false] ps.length) 4) := ⟨_, rfl⟩
  have hsz3 : dd < W3.heap.size := by have := HDD.out; rw [hW3, World.size_alloc]; omega
  have hpdd : (fun b => (fun b => b < W.heap.size) b ∨ w2.heap.size ≤ b ∧ b < (w2.alloc (.cells (madeCells #[.bool false] ps.length) 4)).heap.size) dd := .inr ⟨by have := HDD.out; omega, by have := HDD.out; rw [World.size_alloc]; omega⟩
  have HPD := Lib.hid hpdd
  have HW3 := Lib.hid hW3
  rw [← hW3] at hQ DR KW2
  clear hW3 hpdd
  go_wp2_with fail
  clear hmk x0 x1
  rw [← HDD.out, ← HW3.out]
  go_loopw [12] (fun v wr => ∃ (P : Nat → Prop) (D q qh : List (Int × Int)) (f : Nat), Hid (∀ b, b < W.heap.size → P b) ∧ Hid (P dd) ∧ Hid (∀ g, v.ownBlock = some g → W.heap.size ≤ g ∧ P g ∧ g ≠ dd) ∧ wr.ownsRow 0 73 2 v D.length (cellsP D) ∧ QSt wr P qa qh ∧ Hid (qh.Perm q) ∧ Hid (HeapN qh qh.length) ∧ BRow wr dd ps.length (fun j => idsIn D (j : Int)) ∧ Hid (SI ps.length q D) ∧ Hid (f + D.length = ps.length + 1) ∧ Hid (srch zs rs t f q D = L) ∧ Kp (fun b => b < W.heap.size) W wr) (fun v _ => ps.length + 1 - sliceLen v)
  case atStart => exact ⟨_, [], _, _, ps.length + 1, Lib.hid fun b hb => .inl hb, by rw [HW3.out]; exact HPD, Lib.hid fun g e => by simp [Value.ownBlock] at e, World.ownsRow_nil _ _ _ _, hQ, Lib.hid (List.Perm.refl _), Lib.hid fun c c0 hc => by simp at hc; omega, DR, HSI, Lib.hid (by simp), HL, KW2⟩
  case round =>
    clear hQ DR KW2 HSI HL
    obtain ⟨P, D, q, qh, f, HPW, HPd, HPv, own, hQ, HPM, HHN, DR, HSI, HF, HL, KW⟩ := hrel
    obtain ⟨X, T, R, Lr, K⟩ := HENV.out _ KW
    have HQL := Lib.hid (queueLen_any wr P qa qh hQ)
    cases q with
    | nil =>
      have e : qh = [] := List.perm_nil.1 HPM.out
      subst e
      have hown := ownsRow_raise (base' := w.heap.size) own (fun g e => by have := (HPv.out g e).1; have := HWS.out; omega)
      have HLD := Lib.hid (show D = L by rw [← HL.out, srch_nil])
      clear own hQ
      go_wp2_with fail
      refine HQL.out.mono ?_; rintro e w' ⟨rfl, rfl⟩
      clear HQL
      go_wp2
      go_ret
      exact ⟨_, rfl, by rw [← HLD.out]; exact hown, K⟩
    | cons x q' =>
      have hlq : 0 < qh.length := by rw [HPM.out.length_eq]; simp
      have hlq2 : qh.length ≤ 1048576 := by have := HSI.out.qlen; rw [← HPM.out.length_eq] at this; omega
      have hlt : ((qh.length : Int) > 0) := by omega
      have hld : decide ((qh.length : Int) > 0) = true := decide_eq_true hlt
      have hld2 : decide ((0 : Int) < (qh.length : Int)) = true := decide_eq_true hlt
      have HTK := Lib.hid (take_any wr P qa qh hlq hlq2 HHN.out hQ)
      have HX := Lib.hid (heap_head HSI.out.ok HPM.out HHN.out)
      rw [HX.out] at HTK
      have HBD := Lib.hid (HSI.out.bd x (by simp))
      have hxi := HSI.out.qin x (by simp)
      obtain ⟨xk, U, hxe⟩ : ∃ (xk : Int) (U : Nat), x = (xk, (U : Int)) := ⟨x.1, x.2.toNat, Prod.ext rfl (by show x.2 = _; omega)⟩
      subst hxe
      have hUn : U < ps.length := by have := hxi.2; simpa using this
      clear hxi
      go_wp2_with fail
      refine HQL.out.mono ?_; rintro e w' ⟨rfl, rfl⟩
      clear HQL
      go_wp2_with fail
      refine HTK.out.mono ?_; rintro e w5 ⟨rfl, qh2, hpm2, hhn2, hQ2, k2⟩
      rw [HX.out] at hpm2
      have hpm3 := List.Perm.cons_inv (hpm2.trans HPM.out)
      have own5 := ownsRow_kp own k2 (fun g e => (HPv.out g e).2.1)
      have KW5 : Kp (fun b => b < W.heap.size) W w5 := KW.trans ⟨k2.os, k2.tape, k2.output, k2.size, fun b hb hl => k2.block b (HPW.out b hb) hl⟩
      have DR5 := DR.kp k2 HPd.out
      have hwl := World.ownsRow.lt own5
      have hddl := DR5.lt
      have hDl := HSI.out.dlen
      obtain ⟨A1, c1, rfl⟩ := own_form' own5
      have kA := below1 w5 (.cells #[.int .i64 xk, .int .i64 (U : Int)] 73)
      have XB := Pair.new w5 73 (.int .i64 xk) (.int .i64 (U : Int))
      have kB := below1 (w5.alloc (.cells #[.int .i64 xk, .int .i64 (U : Int)] 73)) (.cells #[.int .i64 xk, .int .i64 (U : Int)] 73)
      have nw := one_pts (w5.alloc (.cells #[.int .i64 xk, .int .i64 (U : Int)] 73)) xk (U : Int)
      rw [World.size_alloc] at nw
      have own7 := ownsRow_below (ownsRow_below own5 kA) kB
      obtain ⟨v', w7, hr, own', g7, hv7⟩ := run_append_items (ty := 70) _ _ _ _ own7 (some ⟨w5.heap.size + 1, 0, none⟩) 1 1 [(xk, (U : Int))] rfl nw (by omega) (Nat.zero_le _)
      rw [← cellsP_append, show D.length + 1 = (D ++ [(xk, (U : Int))]).length by simp] at own'
      have hQ7 := ((hQ2.grow (grown_below kA) (fun g e => by cases e)).grow (grown_below kB) (fun g e => by cases e)).grow g7 (fun g e => .inl (.inl (HPv.out g e).2.1))
      have hl7 := World.ownsRow.lt own'
      have hsA : (w5.alloc (.cells #[.int .i64 xk, .int .i64 (U : Int)] 73)).heap.size = w5.heap.size + 1 := World.size_alloc _ _
      have hsB : ((w5.alloc (.cells #[.int .i64 xk, .int .i64 (U : Int)] 73)).alloc (.cells #[.int .i64 xk, .int .i64 (U : Int)] 73)).heap.size = w5.heap.size + 2 := by rw [World.size_alloc, hsA]
      rw [hsB] at hv7
      have hg7s := g7.size
      rw [hsB] at hg7s
      obtain ⟨P3, hP3⟩ : ∃ P3 : Nat → Prop, P3 = fun b => (((fun b => (fun b => P b ∨ w5.heap.size ≤ b ∧ b < (w5.alloc (.cells #[.int .i64 xk, .int .i64 (U : Int)] 73)).heap.size) b ∨ (w5.alloc (.cells #[.int .i64 xk, .int .i64 (U : Int)] 73)).heap.size ≤ b ∧ b < ((w5.alloc (.cells #[.int .i64 xk, .int .i64 (U : Int)] 73)).alloc (.cells #[.int .i64 xk, .int .i64 (U : Int)] 73)).heap.size) b) ∨ ((w5.alloc (.cells #[.int .i64 xk, .int .i64 (U : Int)] 73)).alloc (.cells #[.int .i64 xk, .int .i64 (U : Int)] 73)).heap.size ≤ b ∧ b < w7.heap.size) := ⟨_, rfl⟩
      have H3P : Hid (∀ b, P b → P3 b) := Lib.hid (by rw [hP3]; exact fun b h => .inl (.inl (.inl h)))
      have H3x : Hid (P3 w5.heap.size) := Lib.hid (by rw [hP3]; exact .inl (.inl (.inr ⟨Nat.le_refl _, by rw [hsA]; omega⟩)))
      have H3v : Hid (∀ g, v'.ownBlock = some g → W.heap.size ≤ g ∧ P3 g ∧ g ≠ dd) := Lib.hid (by
        intro g e
        rcases hv7 with h | h
        · rw [h] at e
          have := HPv.out g e
          exact ⟨this.1, H3P.out g this.2.1, this.2.2⟩
        · rw [h] at e
          injection e with e
          have h9 := (hl7 g (by rw [h, e])).2
          have h8 := KW5.size
          refine ⟨by omega, ?_, by omega⟩
          rw [hP3]; exact .inr ⟨by rw [hsB]; omega, h9⟩)
      rw [← hP3] at hQ7
      have XB7 : Pair w7 w5.heap.size 73 (.int .i64 xk) (.int .i64 (U : Int)) := Pair.grown' (XB.below kB) g7 (fun g e e' => by have := (hwl g e).2; omega)
      have DR7 : BRow w7 dd ps.length (fun j => idsIn D (j : Int)) := ((DR5.below kA).below kB).of_block (g7.block dd (by rw [hsB]; omega) (fun e => (HPv.out dd e.symm).2.2 rfl))
      have KW7 : Kp (fun b => b < W.heap.size) W w7 := ((KW5.trans (.of kA)).trans (.of kB)).grown g7 (fun g e => by have := (HPv.out g e).1; omega)
      obtain ⟨A7, c7, rfl⟩ := own_form' own'
      rw [show (D ++ [(xk, (U : Int))]).length = D.length + 1 by simp] at hr
      obtain ⟨f', hf'⟩ : ∃ f', f = f' + 1 := ⟨f - 1, by have := HF.out; omega⟩
      subst hf'
      obtain ⟨xb0, xb1, -, -⟩ := XB7.cells
      have hrr := hr
      clear hr own own5 own7 nw hQ hQ2 hv7 hl7 hwl kA kB XB hsA hsB hP3 k2 KW KW5 DR DR5 HTK HPv g7 hpm2 X T R Lr K
      by_cases hUt : U = t
      · subst hUt
        have HLD := Lib.hid (show D ++ [(xk, (U : Int))] = L by rw [← HL.out]; exact (srch_goal (x := (xk, (U : Int))) rfl).symm)
        have hut : ((U : Int) == (U : Int)) = true := by simp
        have hown := ownsRow_raise (base' := w.heap.size) own' (fun g e => by have := (H3v.out g e).1; have := HWS.out; omega)
        obtain ⟨-, -, -, -, K⟩ := HENV.out _ KW7
        rw [show (D ++ [(xk, (U : Int))]).length = D.length + 1 by simp] at hown
        clear own' hQ7 DR7
        go_wp2_with (at_builtin; refine Lib.wpList_append_run _ rfl _ _ _ _ rfl _ _ rfl rfl _ _ hrr ?_)
        go_ret
        exact ⟨_, rfl, by rw [← HLD.out, show (D ++ [(xk, (U : Int))]).length = D.length + 1 by simp]; exact hown, K⟩
      · have hut : ((U : Int) == (t : Int)) = false := by simp; omega
        have HUT := Lib.hid hUt
        have H3d := Lib.hid (H3P.out dd HPd.out)
        have H3W := Lib.hid (fun b hb => H3P.out b (HPW.out b hb))
        have hdc := DR7.cell hUn
        have hdf := DR7.frozen U
        have hdlt : dd < w7.heap.size := DR7.lt
        have KW8 : Kp (fun b => b < W.heap.size) W (w7.setCell ⟨dd, U, none⟩ (.bool true)) := KW7.setCell (p := ⟨dd, U, none⟩) (by simp; omega) (.bool true)
        have hxd : w5.heap.size ≠ dd := by omega
        have XB8 := XB7.far (c := dd) hxd U (.bool true)
        have DR8 : BRow (w7.setCell ⟨dd, U, none⟩ (.bool true)) dd ps.length (fun j => idsIn (D ++ [(xk, (U : Int))]) (j : Int)) := (DR7.set U true).congr (idsIn_row rfl)
        have own8 := World.ownsRow.kept own' (grown_setCell w7 ⟨dd, U, none⟩ (.bool true)) (.inr (fun e => (H3v.out dd e).2.2 rfl))
        have hQ8 := hQ7.kept H3d.out (grown_setCell w7 ⟨dd, U, none⟩ (.bool true))
        obtain ⟨-, T, R, -, -⟩ := HENV.out _ KW8
        obtain ⟨⟨t0, t1, t2, t3⟩, -, -, -, -⟩ := T.cells
        obtain ⟨xc0, xc1, -, -⟩ := XB8.cells
        have hUlt : (U : Int) < ps.length := by omega
        clear own' hQ7 DR7 KW7 XB7 T hUt hxd
        go_wp2_with (at_builtin; refine Lib.wpList_append_run _ rfl _ _ _ _ rfl _ _ rfl rfl _ _ hrr ?_)
        clear hdc hdf t0 t1 t2 t3 xc0 xc1 xb0 xb1 hrr
        obtain ⟨W8, hW8⟩ : ∃ W8, W8 = w7.setCell ⟨dd, U, none⟩ (.bool true) := ⟨_, rfl⟩
        rw [← hW8] at KW8 XB8 DR8 own8 hQ8 R ⊢
        clear hW8 hdlt
        refine (row_yes A B ps.length rs.length ca cb s LR (kfF rs) U W8 hn20 hm70 hUn R).mono ?_; rintro e w9 ⟨off, cr, rfl, hoff, b9⟩
        clear R
        have KW9 := KW8.trans (Kp.of b9 : Kp (fun b => b < W.heap.size) W8 w9)
        have XB9 := XB8.below b9
        have DR9 := DR8.below b9
        have own9 := ownsRow_below own8 b9
        have hQ9 := hQ8.below b9
        have hE1 := cL_succ (kfF rs) rs.length U
        have hE2 := cL_le (kfF rs) rs.length (U + 1)
        have HPR := Lib.hid (fun j (h : j < cE (kfF rs) rs.length U) => placed_row (kfF rs) rs.length U h)
        have HRL := Lib.hid (rowL_len (kfF rs) U rs.length)
        obtain ⟨E, hE⟩ : ∃ E, E = cE (kfF rs) rs.length U := ⟨_, rfl⟩
        obtain ⟨CL, hCL⟩ : ∃ CL, CL = cL (kfF rs) rs.length U := ⟨_, rfl⟩
        rw [← hE, ← hCL] at hE1
        rw [← hE, ← hCL] at hoff
        rw [← hE] at HPR HRL ⊢
        rw [← hCL] at HPR
        have HOFF := Lib.hid hoff
        have HEE := Lib.hid (show CL + E ≤ rs.length by omega)
        have HS9 := Lib.hid HSI.out.take
        clear KW8 XB8 DR8 own8 hQ8 b9 hE hCL hE1 hE2 hoff
        have hEd : E ≤ rs.length := by have := HEE.out; omega
        go_wp2
        go_loopw [48] (fun j wr => ∃ (i : Nat) (qh : List (Int × Int)), i ≤ E ∧ j = .int .i64 i ∧ Hid (qh.Perm (puL zs rs (xk, (U : Int)) (D ++ [(xk, (U : Int))]) q' ((rowL (kfF rs) U rs.length).take i))) ∧ Hid (HeapN qh qh.length) ∧ QSt wr P3 qa qh ∧ Kp P3 w9 wr) (fun j _ => E - (intOf j).toNat)
        case atStart => exact ⟨0, qh2, by omega, rfl, Lib.hid hpm3, Lib.hid hhn2, hQ9, Kp.refl _ _⟩
        case round =>
          clear hpm3 hhn2 hQ9
          obtain ⟨i, qi, hiE, rfl, HPM2, HHN2, hQ, kq⟩ := hrel
          have KWr : Kp (fun b => b < W.heap.size) W wr := KW9.trans ⟨kq.os, kq.tape, kq.output, kq.size, fun b hb hl => kq.block b (H3W.out b hb) hl⟩
          have HSL := Lib.hid (SI.list HZ.out HBD.out ((rowL (kfF rs) U rs.length).take i) q' (fun j hj => rowL_lt hj) HS9.out)
          by_cases hlt : i < E
          · obtain ⟨ix, hix, hpl⟩ := HPR.out i hlt
            obtain ⟨hixm, hixu, -⟩ := rowL_get _ _ _ hix
            obtain ⟨-, T, -, Lr, K⟩ := HENV.out _ KWr
            have hoff := HOFF.out (by omega)
            have hlc := Lr.cell (i := off + i) (by have := HEE.out; omega)
            rw [hoff, hpl] at hlc
            rw [← hoff] at hlc
            have HTK2 := Lib.hid (row_step hix)
            obtain ⟨bb, bo, rfl, -, c0, c1, c2⟩ := (hb.below K).at_ hixm
            obtain ⟨-, ⟨g0, g1⟩, -, -, -⟩ := HZ.out.arcs _ (arg_mem hixm)
            obtain ⟨TT, hTT⟩ : ∃ TT : Nat, (arg rs ix).2.1 = (TT : Int) := ⟨(arg rs ix).2.1.toNat, by omega⟩
            have HTT := Lib.hid hTT
            rw [hTT] at c1 g1
            have hTn : TT < ps.length := by omega
            have DRr := DR9.kp kq H3d.out
            have hdc := DRr.cell hTn
            have XBr : Pair wr w5.heap.size 73 (.int .i64 xk) (.int .i64 (U : Int)) := (kq.block _ H3x.out XB9.lt).trans XB9
            obtain ⟨⟨t0, t1, t2, t3⟩, -, -, -, -⟩ := T.cells
            obtain ⟨xc0, xc1, -, -⟩ := XBr.cells
            have hixd : (ix : Int) < rs.length := by omega
            clear hTT hpl hix T Lr DRr XBr c0 c2 hoff
            cases hd : idsIn (D ++ [(xk, (U : Int))]) (TT : Int) with
            | true =>
              rw [hd] at hdc
              have HNX := Lib.hid (show puL zs rs (xk, (U : Int)) (D ++ [(xk, (U : Int))]) q' ((rowL (kfF rs) U rs.length).take (i + 1)) = puL zs rs (xk, (U : Int)) (D ++ [(xk, (U : Int))]) q' ((rowL (kfF rs) U rs.length).take i) by
                rw [HTK2.out, puL_snoc, HTT.out, hd]; simp)
              go_wp2
              go_roundw
              case rel => exact ⟨i + 1, qi, by omega, by go_num, by rw [HNX.out]; exact HPM2, HHN2, hQ, kq⟩
              case measure => simp [intOf]; omega
            | false =>
              rw [hd] at hdc
              have HNX := Lib.hid (show puL zs rs (xk, (U : Int)) (D ++ [(xk, (U : Int))]) q' ((rowL (kfF rs) U rs.length).take (i + 1)) = putL (puL zs rs (xk, (U : Int)) (D ++ [(xk, (U : Int))]) q' ((rowL (kfF rs) U rs.length).take i)) (xk + red rs zs ix, (TT : Int)) by
                rw [HTK2.out, puL_snoc, HTT.out, hd]; simp)
              have HCX := Lib.hid (fun V h => HCOST.out V h ix hixm)
              have hrb := HZ.out.red_bd hixm
              have hbd := HBD.out
              generalize red rs zs ix = rd at HNX HCX hrb
              have hbd' : 0 ≤ xk ∧ xk ≤ 1000000 + 2000000 * (D.length : Int) := hbd
              have hDl2 : D.length ≤ 20 := by omega
              have hwr : IntKind.i64.wrap (xk + rd) = xk + rd := IntWalk.i64_in _ (by omega)
              have hq64 : In64 (TT : Int) := ⟨by omega, by omega⟩
              have hql : qi.length ≤ 1048576 := by have := HSL.out.qlen; rw [← HPM2.out.length_eq] at this; omega
              have TS : StS w w5.heap.size (.int .i64 xk) wr.drew := ⟨xc0, K.drew⟩
              have hQd : QSt wr.drew P3 qa qi := hQ.below (Below.refl wr.heap.size wr).drew
              have HPW2 := Lib.hid (fun b (hb : b < w.heap.size) => H3W.out b (by have := HWS.out; omega))
              clear hbd hrb xc1
              go_wp2_with fail
              go_region_held3 (fun w' => StS w w5.heap.size (.int .i64 xk) w')
                (first | exact TS | assumption | (refine StS.kp (by assumption) H3x.out HPW2.out ?_; assumption) | (refine StS.under (by assumption) ?_; first | exact TS | assumption))
                (first
                  | (go_at_call 48; refine (HCX.out _ (StS.bel (by first | exact TS | assumption))).mono ?_; rintro e w10 ⟨rfl, b10⟩; have hq10 := hQd.below b10)
                  | (go_at_call 83; refine (queuePut_any w10 P3 qa qi (xk + rd) (TT : Int) hq64 hql HHN2.out hq10).mono ?_; rintro e w11 ⟨rfl, qn, hrel, hhn, hQn, kn⟩))
              all_goals (
                have KN : Kp P3 w9 w11 := ((kq.drew).trans (Kp.of b10)).trans kn
                have HPN := Lib.hid (heap_put HSL.out.ok HPM2.out hrel)
                rw [← HNX.out] at HPN
                have HHN3 := Lib.hid hhn
                clear hrel hhn kn b10 hq10 TS hQd hQ kq HPM2 HHN2
                go_wp2
                go_roundw
                case rel => exact ⟨i + 1, qn, by omega, by go_num, HPN, HHN3, hQn, KN⟩
                case measure => simp [intOf]; omega)
          · obtain rfl : i = E := by omega
            have HPM4 := Lib.hid (show qi.Perm (puK zs rs (xk, (U : Int)) (D ++ [(xk, (U : Int))]) q' rs.length) by
              have h := HPM2.out
              rw [List.take_of_length_le (by rw [HRL.out]; exact Nat.le_refl _), puL_all HZ.out.arcs rfl] at h
              exact h)
            have ownN := ownsRow_kp own9 kq (fun g e => (H3v.out g e).2.1)
            rw [show (D ++ [(xk, (U : Int))]).length = D.length + 1 by simp] at ownN
            have DRn := DR9.kp kq H3d.out
            have HSN := Lib.hid (HSI.out.next HZ.out rs.length (Nat.le_refl _))
            have HLN := Lib.hid ((srch_on (x := (xk, (U : Int))) (fun e => HUT.out (by have : (U : Int) = t := e; omega))).symm.trans HL.out)
            have HFN := Lib.hid (show f' + (D ++ [(xk, (U : Int))]).length = ps.length + 1 by have := HF.out; simp; omega)
            have HVN := Lib.hid (fun g (e : Value.ownBlock (.slice A7 (D.length + 1) c7) = some g) => H3v.out g (by rw [show (D ++ [(xk, (U : Int))]).length = D.length + 1 by simp]; exact e))
            clear own9 HPM2 HSL hlt
            go_wp2
            go_roundw
            case rel => exact ⟨P3, D ++ [(xk, (U : Int))], _, qi, f', H3W, H3d, HVN, by rw [show (D ++ [(xk, (U : Int))]).length = D.length + 1 by simp]; exact ownN, hQ, HPM4, HHN2, DRn, HSN, HFN, HLN, KWr⟩
            case measure => simp [sliceLen]; omega

set_option maxRecDepth 1000000 in
set_option maxHeartbeats 8000000 in
theorem settledG_any (A B : Option Addr) (ca cb : Nat) (ps : List (Int × Int)) (rs : List A3) (zs : List Int) (S t : Nat) (C : Option Addr) (cc : Nat) (w : World) (hz : NetZ ps.length rs zs) (hS : S < ps.length) (hb : IsArcs w B rs)
    (HCOST : Hid (∀ W, Below w.heap.size w W → ∀ i : Nat, i < rs.length → Calls Try.prog 56 #[.agg #[.slice A ps.length ca, .slice B rs.length cb, .slice C zs.length cc], .int .i64 (i : Int)] W fun e w' => e = .returned (.int .i64 (red rs zs i)) ∧ Below W.heap.size W w')) :
    Calls Try.prog 47 #[.agg #[.slice A ps.length ca, .slice B rs.length cb], .agg #[.int .i64 (zg zs S), .int .i64 (S : Int)], .int .i64 (t : Int), .func (.func 56) #[.agg #[.slice A ps.length ca, .slice B rs.length cb, .slice C zs.length cc]] #[]] w (TakenMade w (took ps.length rs zs S t)) := by
  have hn20 := hz.n20
  have hm70 := hz.m70
  have hSI := SI.start hS hz.len hz.pin
  have hk : ∀ i, i < rs.length → 0 ≤ (arg rs i).1 ∧ (arg rs i).1 < (ps.length : Int) := fun i hi => (hz.arcs _ (arg_mem hi)).1
  have HK := Lib.hid hk
  have HZ := Lib.hid hz
  have HSI := Lib.hid hSI
  have HL : Hid (srch zs rs t (ps.length + 1) [(zg zs S, (S : Int))] [] = took ps.length rs zs S t) := Lib.hid rfl
  obtain ⟨L, hL⟩ : ∃ L, L = took ps.length rs zs S t := ⟨_, rfl⟩
  rw [← hL] at HL ⊢
  clear hL
  obtain ⟨z0, hz0⟩ : ∃ z0, z0 = zg zs S := ⟨_, rfl⟩
  rw [← hz0] at HL HSI ⊢
  clear hz hSI hk hz0
  have K := below2 w (.cells #[.slice A ps.length ca, .slice B rs.length cb] 32) (.cells #[.int .i64 z0, .int .i64 (S : Int)] 73)
  have X := (Pair.new w 32 (.slice A ps.length ca) (.slice B rs.length cb)).alloc (.cells #[.int .i64 z0, .int .i64 (S : Int)] 73)
  have Y : Pair ((w.alloc (.cells #[.slice A ps.length ca, .slice B rs.length cb] 32)).alloc (.cells #[.int .i64 z0, .int .i64 (S : Int)] 73)) (w.heap.size + 1) 73 (.int .i64 z0) (.int .i64 (S : Int)) := by
    have := Pair.new (w.alloc (.cells #[.slice A ps.length ca, .slice B rs.length cb] 32)) 73 (.int .i64 z0) (.int .i64 (S : Int)); rwa [World.size_alloc] at this
  obtain ⟨x0, x1, -, -⟩ := X.cells
  go_enter Try.func47, Try.ntmps47
  go_wp2_with fail
  refine (rowsF_any A B ca cb ps rs _ hn20 hm70 (hb.below K) HK.out).mono ?_; rintro e w1 ⟨s, LR, rfl, -, -, R, Lr, b1⟩
  clear x0 x1
  replace X := X.below b1
  replace Y := Y.below b1
  replace K := K.trans (b1.mono K.size)
  clear b1
  have T := Quad.new w1 91 (.slice A ps.length ca) (.slice B rs.length cb) (.slice (some ⟨s, 0, none⟩) (ps.length + 1) (ps.length + 1)) (.slice (some ⟨LR, 0, none⟩) rs.length rs.length)
  have b2 := below1 w1 (.cells #[.slice A ps.length ca, .slice B rs.length cb, .slice (some ⟨s, 0, none⟩) (ps.length + 1) (ps.length + 1), .slice (some ⟨LR, 0, none⟩) rs.length rs.length] 91)
  replace X := X.below b2
  replace Y := Y.below b2
  replace R := R.below b2
  replace Lr := Lr.below b2
  replace K := K.trans (b2.mono K.size)
  clear b2
  obtain ⟨tb, htb⟩ : ∃ tb, tb = w1.heap.size := ⟨_, rfl⟩
  rw [← htb] at T
  have HTB := Lib.hid htb
  clear htb
  -- the queue of one item
  have kq := below1 (w1.alloc (.cells #[.slice A ps.length ca, .slice B rs.length cb, .slice (some ⟨s, 0, none⟩) (ps.length + 1) (ps.length + 1), .slice (some ⟨LR, 0, none⟩) rs.length rs.length] 91)) (.cells #[.int .i64 z0, .int .i64 (S : Int)] 73)
  have I1 := one_pts (w1.alloc (.cells #[.slice A ps.length ca, .slice B rs.length cb, .slice (some ⟨s, 0, none⟩) (ps.length + 1) (ps.length + 1), .slice (some ⟨LR, 0, none⟩) rs.length rs.length] 91)) z0 (S : Int)
  obtain ⟨y0, y1, -, -⟩ := Y.cells
  replace X := X.below kq
  replace T := T.below kq
  replace R := R.below kq
  replace Lr := Lr.below kq
  replace K := K.trans (kq.mono K.size)
  have hq64 : ∀ i, i < [(z0, (S : Int))].length → In64 (idg [(z0, (S : Int))] i) := fun i hi => by
    obtain rfl : i = 0 := by simpa using hi
    exact ⟨by show _ ≤ (S : Int); omega, by show (S : Int) ≤ _; omega⟩
  have hqap : ∀ i, i < [(z0, (S : Int))].length → ∀ j, j < i → idg [(z0, (S : Int))] j ≠ idg [(z0, (S : Int))] i := fun i hi j hj => by simp at hi; omega
  have HQ64 := Lib.hid hq64
  have HQAP := Lib.hid hqap
  clear kq Y hq64 hqap
  go_wp2_with fail
  rw [← HTB.out]
  obtain ⟨W, hW⟩ : ∃ W, W = (w1.alloc (.cells #[.slice A ps.length ca, .slice B rs.length cb, .slice (some ⟨s, 0, none⟩) (ps.length + 1) (ps.length + 1), .slice (some ⟨LR, 0, none⟩) rs.length rs.length] 91)).alloc (.cells #[.int .i64 z0, .int .i64 (S : Int)] 73) := ⟨_, rfl⟩
  rw [← hW] at X T R Lr K I1 ⊢
  clear hW y0 y1
  rw [World.size_alloc, ← HTB.out] at I1
  refine (queueOf_any _ _ [(z0, (S : Int))] W (by simp) I1 HQ64.out HQAP.out).mono ?_; rintro e w2 ⟨qa, rfl, hs, b2⟩
  have hTl := T.lt
  have hXl := X.lt
  have hRl := R.lt
  have hLl := Lr.lt
  have hsz2 := b2.size
  have HENV : Hid (∀ V, Kp (fun b => b < W.heap.size) W V → Pair V w.heap.size 32 (.slice A ps.length ca) (.slice B rs.length cb) ∧ Quad V tb 91 (.slice A ps.length ca) (.slice B rs.length cb) (.slice (some ⟨s, 0, none⟩) (ps.length + 1) (ps.length + 1)) (.slice (some ⟨LR, 0, none⟩) rs.length rs.length) ∧ IRow V s (ps.length + 1) (fun j => (cL (kfF rs) rs.length j : Nat)) ∧ IRow V LR rs.length (placed (kfF rs) rs.length rs.length) ∧ Below w.heap.size w V) := Lib.hid fun V k =>
    ⟨(k.block _ hXl hXl).trans X, (k.block _ hTl hTl).trans T, OwnAt.of_block R (k.block _ hRl hRl), OwnAt.of_block Lr (k.block _ hLl hLl), K.trans ((k.below (Nat.le_refl _)).mono K.size)⟩
  have KW : Kp (fun b => b < W.heap.size) W w2 := .of b2
  have HWS := Lib.hid K.size
  clear X T R Lr K I1 b2 HQ64 HQAP HTB
  obtain ⟨x0, x1, -, -⟩ := (HENV.out _ KW).1.cells
  have hmk := run_make_row' (P := Try.prog) 106 4 (.bool false) 1 Try.underlying106 Try.infoBool rfl .i64 .i64 ps.length (by omega) (by omega)
  have kd := below1 w2 (.cells (madeCells #[.bool false] ps.length) 4)
  have hQ := hs.pinNew kd
  have DR : BRow (w2.alloc (.cells (madeCells #[.bool false] ps.length) 4)) w2.heap.size ps.length (fun j => idsIn [] (j : Int)) := BRow.made w2 ps.length
  have KW2 := KW.trans (Kp.of kd)
  obtain ⟨dd, hdd⟩ : ∃ dd, dd = w2.heap.size := ⟨_, rfl⟩
  rw [← hdd] at DR
  have hdW : W.heap.size ≤ dd := by omega
  have HDD := Lib.hid hdd
  clear hdd kd hs KW
  obtain ⟨W3, hW3⟩ : ∃ W3, W3 = w2.alloc (.cells (madeCells #[.bool false] ps.length) 4) := ⟨_, rfl⟩
  have hsz3 : dd < W3.heap.size := by have := HDD.out; rw [hW3, World.size_alloc]; omega
  have hpdd : (fun b => (fun b => b < W.heap.size) b ∨ w2.heap.size ≤ b ∧ b < (w2.alloc (.cells (madeCells #[.bool false] ps.length) 4)).heap.size) dd := .inr ⟨by have := HDD.out; omega, by have := HDD.out; rw [World.size_alloc]; omega⟩
  have HPD := Lib.hid hpdd
  have HW3 := Lib.hid hW3
  rw [← hW3] at hQ DR KW2
  clear hW3 hpdd
  go_wp2_with fail
  clear hmk x0 x1
  rw [← HDD.out, ← HW3.out]
  go_loopw [12] (fun v wr => ∃ (P : Nat → Prop) (D q qh : List (Int × Int)) (f : Nat), Hid (∀ b, b < W.heap.size → P b) ∧ Hid (P dd) ∧ Hid (∀ g, v.ownBlock = some g → W.heap.size ≤ g ∧ P g ∧ g ≠ dd) ∧ wr.ownsRow 0 73 2 v D.length (cellsP D) ∧ QSt wr P qa qh ∧ Hid (qh.Perm q) ∧ Hid (HeapN qh qh.length) ∧ BRow wr dd ps.length (fun j => idsIn D (j : Int)) ∧ Hid (SI ps.length q D) ∧ Hid (f + D.length = ps.length + 1) ∧ Hid (srch zs rs t f q D = L) ∧ Kp (fun b => b < W.heap.size) W wr) (fun v _ => ps.length + 1 - sliceLen v)
  case atStart => exact ⟨_, [], _, _, ps.length + 1, Lib.hid fun b hb => .inl hb, by rw [HW3.out]; exact HPD, Lib.hid fun g e => by simp [Value.ownBlock] at e, World.ownsRow_nil _ _ _ _, hQ, Lib.hid (List.Perm.refl _), Lib.hid fun c c0 hc => by simp at hc; omega, DR, HSI, Lib.hid (by simp), HL, KW2⟩
  case round =>
    clear hQ DR KW2 HSI HL
    obtain ⟨P, D, q, qh, f, HPW, HPd, HPv, own, hQ, HPM, HHN, DR, HSI, HF, HL, KW⟩ := hrel
    obtain ⟨X, T, R, Lr, K⟩ := HENV.out _ KW
    have HQL := Lib.hid (queueLen_any wr P qa qh hQ)
    cases q with
    | nil =>
      have e : qh = [] := List.perm_nil.1 HPM.out
      subst e
      have hown := ownsRow_raise (base' := w.heap.size) own (fun g e => by have := (HPv.out g e).1; have := HWS.out; omega)
      have HLD := Lib.hid (show D = L by rw [← HL.out, srch_nil])
      clear own hQ
      go_wp2_with fail
      refine HQL.out.mono ?_; rintro e w' ⟨rfl, rfl⟩
      clear HQL
      go_wp2
      go_ret
      exact ⟨_, rfl, by rw [← HLD.out]; exact hown, K⟩
    | cons x q' =>
      have hlq : 0 < qh.length := by rw [HPM.out.length_eq]; simp
      have hlq2 : qh.length ≤ 1048576 := by have := HSI.out.qlen; rw [← HPM.out.length_eq] at this; omega
      have hlt : ((qh.length : Int) > 0) := by omega
      have hld : decide ((qh.length : Int) > 0) = true := decide_eq_true hlt
      have hld2 : decide ((0 : Int) < (qh.length : Int)) = true := decide_eq_true hlt
      have HTK := Lib.hid (take_any wr P qa qh hlq hlq2 HHN.out hQ)
      have HX := Lib.hid (heap_head HSI.out.ok HPM.out HHN.out)
      rw [HX.out] at HTK
      have HBD := Lib.hid (HSI.out.bd x (by simp))
      have hxi := HSI.out.qin x (by simp)
      obtain ⟨xk, U, hxe⟩ : ∃ (xk : Int) (U : Nat), x = (xk, (U : Int)) := ⟨x.1, x.2.toNat, Prod.ext rfl (by show x.2 = _; omega)⟩
      subst hxe
      have hUn : U < ps.length := by have := hxi.2; simpa using this
      clear hxi
      go_wp2_with fail
      refine HQL.out.mono ?_; rintro e w' ⟨rfl, rfl⟩
      clear HQL
      go_wp2_with fail
      refine HTK.out.mono ?_; rintro e w5 ⟨rfl, qh2, hpm2, hhn2, hQ2, k2⟩
      rw [HX.out] at hpm2
      have hpm3 := List.Perm.cons_inv (hpm2.trans HPM.out)
      have own5 := ownsRow_kp own k2 (fun g e => (HPv.out g e).2.1)
      have KW5 : Kp (fun b => b < W.heap.size) W w5 := KW.trans ⟨k2.os, k2.tape, k2.output, k2.size, fun b hb hl => k2.block b (HPW.out b hb) hl⟩
      have DR5 := DR.kp k2 HPd.out
      have hwl := World.ownsRow.lt own5
      have hddl := DR5.lt
      have hDl := HSI.out.dlen
      obtain ⟨A1, c1, rfl⟩ := own_form' own5
      have kA := below1 w5 (.cells #[.int .i64 xk, .int .i64 (U : Int)] 73)
      have XB := Pair.new w5 73 (.int .i64 xk) (.int .i64 (U : Int))
      have kB := below1 (w5.alloc (.cells #[.int .i64 xk, .int .i64 (U : Int)] 73)) (.cells #[.int .i64 xk, .int .i64 (U : Int)] 73)
      have nw := one_pts (w5.alloc (.cells #[.int .i64 xk, .int .i64 (U : Int)] 73)) xk (U : Int)
      rw [World.size_alloc] at nw
      have own7 := ownsRow_below (ownsRow_below own5 kA) kB
      obtain ⟨v', w7, hr, own', g7, hv7⟩ := run_append_items (ty := 70) _ _ _ _ own7 (some ⟨w5.heap.size + 1, 0, none⟩) 1 1 [(xk, (U : Int))] rfl nw (by omega) (Nat.zero_le _)
      rw [← cellsP_append, show D.length + 1 = (D ++ [(xk, (U : Int))]).length by simp] at own'
      have hQ7 := ((hQ2.grow (grown_below kA) (fun g e => by cases e)).grow (grown_below kB) (fun g e => by cases e)).grow g7 (fun g e => .inl (.inl (HPv.out g e).2.1))
      have hl7 := World.ownsRow.lt own'
      have hsA : (w5.alloc (.cells #[.int .i64 xk, .int .i64 (U : Int)] 73)).heap.size = w5.heap.size + 1 := World.size_alloc _ _
      have hsB : ((w5.alloc (.cells #[.int .i64 xk, .int .i64 (U : Int)] 73)).alloc (.cells #[.int .i64 xk, .int .i64 (U : Int)] 73)).heap.size = w5.heap.size + 2 := by rw [World.size_alloc, hsA]
      rw [hsB] at hv7
      have hg7s := g7.size
      rw [hsB] at hg7s
      obtain ⟨P3, hP3⟩ : ∃ P3 : Nat → Prop, P3 = fun b => (((fun b => (fun b => P b ∨ w5.heap.size ≤ b ∧ b < (w5.alloc (.cells #[.int .i64 xk, .int .i64 (U : Int)] 73)).heap.size) b ∨ (w5.alloc (.cells #[.int .i64 xk, .int .i64 (U : Int)] 73)).heap.size ≤ b ∧ b < ((w5.alloc (.cells #[.int .i64 xk, .int .i64 (U : Int)] 73)).alloc (.cells #[.int .i64 xk, .int .i64 (U : Int)] 73)).heap.size) b) ∨ ((w5.alloc (.cells #[.int .i64 xk, .int .i64 (U : Int)] 73)).alloc (.cells #[.int .i64 xk, .int .i64 (U : Int)] 73)).heap.size ≤ b ∧ b < w7.heap.size) := ⟨_, rfl⟩
      have H3P : Hid (∀ b, P b → P3 b) := Lib.hid (by rw [hP3]; exact fun b h => .inl (.inl (.inl h)))
      have H3x : Hid (P3 w5.heap.size) := Lib.hid (by rw [hP3]; exact .inl (.inl (.inr ⟨Nat.le_refl _, by rw [hsA]; omega⟩)))
      have H3v : Hid (∀ g, v'.ownBlock = some g → W.heap.size ≤ g ∧ P3 g ∧ g ≠ dd) := Lib.hid (by
        intro g e
        rcases hv7 with h | h
        · rw [h] at e
          have := HPv.out g e
          exact ⟨this.1, H3P.out g this.2.1, this.2.2⟩
        · rw [h] at e
          injection e with e
          have h9 := (hl7 g (by rw [h, e])).2
          have h8 := KW5.size
          refine ⟨by omega, ?_, by omega⟩
          rw [hP3]; exact .inr ⟨by rw [hsB]; omega, h9⟩)
      rw [← hP3] at hQ7
      have XB7 : Pair w7 w5.heap.size 73 (.int .i64 xk) (.int .i64 (U : Int)) := Pair.grown' (XB.below kB) g7 (fun g e e' => by have := (hwl g e).2; omega)
      have DR7 : BRow w7 dd ps.length (fun j => idsIn D (j : Int)) := ((DR5.below kA).below kB).of_block (g7.block dd (by rw [hsB]; omega) (fun e => (HPv.out dd e.symm).2.2 rfl))
      have KW7 : Kp (fun b => b < W.heap.size) W w7 := ((KW5.trans (.of kA)).trans (.of kB)).grown g7 (fun g e => by have := (HPv.out g e).1; omega)
      obtain ⟨A7, c7, rfl⟩ := own_form' own'
      rw [show (D ++ [(xk, (U : Int))]).length = D.length + 1 by simp] at hr
      obtain ⟨f', hf'⟩ : ∃ f', f = f' + 1 := ⟨f - 1, by have := HF.out; omega⟩
      subst hf'
      obtain ⟨xb0, xb1, -, -⟩ := XB7.cells
      have hrr := hr
      clear hr own own5 own7 nw hQ hQ2 hv7 hl7 hwl kA kB XB hsA hsB hP3 k2 KW KW5 DR DR5 HTK HPv g7 hpm2 X T R Lr K
      by_cases hUt : U = t
      · subst hUt
        have HLD := Lib.hid (show D ++ [(xk, (U : Int))] = L by rw [← HL.out]; exact (srch_goal (x := (xk, (U : Int))) rfl).symm)
        have hut : ((U : Int) == (U : Int)) = true := by simp
        have hown := ownsRow_raise (base' := w.heap.size) own' (fun g e => by have := (H3v.out g e).1; have := HWS.out; omega)
        obtain ⟨-, -, -, -, K⟩ := HENV.out _ KW7
        rw [show (D ++ [(xk, (U : Int))]).length = D.length + 1 by simp] at hown
        clear own' hQ7 DR7
        go_wp2_with (at_builtin; refine Lib.wpList_append_run _ rfl _ _ _ _ rfl _ _ rfl rfl _ _ hrr ?_)
        go_ret
        exact ⟨_, rfl, by rw [← HLD.out, show (D ++ [(xk, (U : Int))]).length = D.length + 1 by simp]; exact hown, K⟩
      · have hut : ((U : Int) == (t : Int)) = false := by simp; omega
        have HUT := Lib.hid hUt
        have H3d := Lib.hid (H3P.out dd HPd.out)
        have H3W := Lib.hid (fun b hb => H3P.out b (HPW.out b hb))
        have hdc := DR7.cell hUn
        have hdf := DR7.frozen U
        have hdlt : dd < w7.heap.size := DR7.lt
        have KW8 : Kp (fun b => b < W.heap.size) W (w7.setCell ⟨dd, U, none⟩ (.bool true)) := KW7.setCell (p := ⟨dd, U, none⟩) (by simp; omega) (.bool true)
        have hxd : w5.heap.size ≠ dd := by omega
        have XB8 := XB7.far (c := dd) hxd U (.bool true)
        have DR8 : BRow (w7.setCell ⟨dd, U, none⟩ (.bool true)) dd ps.length (fun j => idsIn (D ++ [(xk, (U : Int))]) (j : Int)) := (DR7.set U true).congr (idsIn_row rfl)
        have own8 := World.ownsRow.kept own' (grown_setCell w7 ⟨dd, U, none⟩ (.bool true)) (.inr (fun e => (H3v.out dd e).2.2 rfl))
        have hQ8 := hQ7.kept H3d.out (grown_setCell w7 ⟨dd, U, none⟩ (.bool true))
        obtain ⟨-, T, R, -, -⟩ := HENV.out _ KW8
        obtain ⟨⟨t0, t1, t2, t3⟩, -, -, -, -⟩ := T.cells
        obtain ⟨xc0, xc1, -, -⟩ := XB8.cells
        have hUlt : (U : Int) < ps.length := by omega
        clear own' hQ7 DR7 KW7 XB7 T hUt hxd
        go_wp2_with (at_builtin; refine Lib.wpList_append_run _ rfl _ _ _ _ rfl _ _ rfl rfl _ _ hrr ?_)
        clear hdc hdf t0 t1 t2 t3 xc0 xc1 xb0 xb1 hrr
        obtain ⟨W8, hW8⟩ : ∃ W8, W8 = w7.setCell ⟨dd, U, none⟩ (.bool true) := ⟨_, rfl⟩
        rw [← hW8] at KW8 XB8 DR8 own8 hQ8 R ⊢
        clear hW8 hdlt
        refine (row_yes A B ps.length rs.length ca cb s LR (kfF rs) U W8 hn20 hm70 hUn R).mono ?_; rintro e w9 ⟨off, cr, rfl, hoff, b9⟩
        clear R
        have KW9 := KW8.trans (Kp.of b9 : Kp (fun b => b < W.heap.size) W8 w9)
        have XB9 := XB8.below b9
        have DR9 := DR8.below b9
        have own9 := ownsRow_below own8 b9
        have hQ9 := hQ8.below b9
        have hE1 := cL_succ (kfF rs) rs.length U
        have hE2 := cL_le (kfF rs) rs.length (U + 1)
        have HPR := Lib.hid (fun j (h : j < cE (kfF rs) rs.length U) => placed_row (kfF rs) rs.length U h)
        have HRL := Lib.hid (rowL_len (kfF rs) U rs.length)
        obtain ⟨E, hE⟩ : ∃ E, E = cE (kfF rs) rs.length U := ⟨_, rfl⟩
        obtain ⟨CL, hCL⟩ : ∃ CL, CL = cL (kfF rs) rs.length U := ⟨_, rfl⟩
        rw [← hE, ← hCL] at hE1
        rw [← hE, ← hCL] at hoff
        rw [← hE] at HPR HRL ⊢
        rw [← hCL] at HPR
        have HOFF := Lib.hid hoff
        have HEE := Lib.hid (show CL + E ≤ rs.length by omega)
        have HS9 := Lib.hid HSI.out.take
        clear KW8 XB8 DR8 own8 hQ8 b9 hE hCL hE1 hE2 hoff
        have hEd : E ≤ rs.length := by have := HEE.out; omega
        go_wp2
        go_loopw [48] (fun j wr => ∃ (i : Nat) (qh : List (Int × Int)), i ≤ E ∧ j = .int .i64 i ∧ Hid (qh.Perm (puL zs rs (xk, (U : Int)) (D ++ [(xk, (U : Int))]) q' ((rowL (kfF rs) U rs.length).take i))) ∧ Hid (HeapN qh qh.length) ∧ QSt wr P3 qa qh ∧ Kp P3 w9 wr) (fun j _ => E - (intOf j).toNat)
        case atStart => exact ⟨0, qh2, by omega, rfl, Lib.hid hpm3, Lib.hid hhn2, hQ9, Kp.refl _ _⟩
        case round =>
          clear hpm3 hhn2 hQ9
          obtain ⟨i, qi, hiE, rfl, HPM2, HHN2, hQ, kq⟩ := hrel
          have KWr : Kp (fun b => b < W.heap.size) W wr := KW9.trans ⟨kq.os, kq.tape, kq.output, kq.size, fun b hb hl => kq.block b (H3W.out b hb) hl⟩
          have HSL := Lib.hid (SI.list HZ.out HBD.out ((rowL (kfF rs) U rs.length).take i) q' (fun j hj => rowL_lt hj) HS9.out)
          by_cases hlt : i < E
          · obtain ⟨ix, hix, hpl⟩ := HPR.out i hlt
            obtain ⟨hixm, hixu, -⟩ := rowL_get _ _ _ hix
            obtain ⟨-, T, -, Lr, K⟩ := HENV.out _ KWr
            have hoff := HOFF.out (by omega)
            have hlc := Lr.cell (i := off + i) (by have := HEE.out; omega)
            rw [hoff, hpl] at hlc
            rw [← hoff] at hlc
            have HTK2 := Lib.hid (row_step hix)
            obtain ⟨bb, bo, rfl, -, c0, c1, c2⟩ := (hb.below K).at_ hixm
            obtain ⟨-, ⟨g0, g1⟩, -, -, -⟩ := HZ.out.arcs _ (arg_mem hixm)
            obtain ⟨TT, hTT⟩ : ∃ TT : Nat, (arg rs ix).2.1 = (TT : Int) := ⟨(arg rs ix).2.1.toNat, by omega⟩
            have HTT := Lib.hid hTT
            rw [hTT] at c1 g1
            have hTn : TT < ps.length := by omega
            have DRr := DR9.kp kq H3d.out
            have hdc := DRr.cell hTn
            have XBr : Pair wr w5.heap.size 73 (.int .i64 xk) (.int .i64 (U : Int)) := (kq.block _ H3x.out XB9.lt).trans XB9
            obtain ⟨⟨t0, t1, t2, t3⟩, -, -, -, -⟩ := T.cells
            obtain ⟨xc0, xc1, -, -⟩ := XBr.cells
            have hixd : (ix : Int) < rs.length := by omega
            clear hTT hpl hix T Lr DRr XBr c0 c2 hoff
            cases hd : idsIn (D ++ [(xk, (U : Int))]) (TT : Int) with
            | true =>
              rw [hd] at hdc
              have HNX := Lib.hid (show puL zs rs (xk, (U : Int)) (D ++ [(xk, (U : Int))]) q' ((rowL (kfF rs) U rs.length).take (i + 1)) = puL zs rs (xk, (U : Int)) (D ++ [(xk, (U : Int))]) q' ((rowL (kfF rs) U rs.length).take i) by
                rw [HTK2.out, puL_snoc, HTT.out, hd]; simp)
              go_wp2
              go_roundw
              case rel => exact ⟨i + 1, qi, by omega, by go_num, by rw [HNX.out]; exact HPM2, HHN2, hQ, kq⟩
              case measure => simp [intOf]; omega
            | false =>
              rw [hd] at hdc
              have HNX := Lib.hid (show puL zs rs (xk, (U : Int)) (D ++ [(xk, (U : Int))]) q' ((rowL (kfF rs) U rs.length).take (i + 1)) = putL (puL zs rs (xk, (U : Int)) (D ++ [(xk, (U : Int))]) q' ((rowL (kfF rs) U rs.length).take i)) (xk + red rs zs ix, (TT : Int)) by
                rw [HTK2.out, puL_snoc, HTT.out, hd]; simp)
              have HCX := Lib.hid (fun V h => HCOST.out V h ix hixm)
              have hrb := HZ.out.red_bd hixm
              have hbd := HBD.out
              generalize red rs zs ix = rd at HNX HCX hrb
              have hbd' : 0 ≤ xk ∧ xk ≤ 1000000 + 2000000 * (D.length : Int) := hbd
              have hDl2 : D.length ≤ 20 := by omega
              have hwr : IntKind.i64.wrap (xk + rd) = xk + rd := IntWalk.i64_in _ (by omega)
              have hq64 : In64 (TT : Int) := ⟨by omega, by omega⟩
              have hql : qi.length ≤ 1048576 := by have := HSL.out.qlen; rw [← HPM2.out.length_eq] at this; omega
              have TS : StS w w5.heap.size (.int .i64 xk) wr.drew := ⟨xc0, K.drew⟩
              have hQd : QSt wr.drew P3 qa qi := hQ.below (Below.refl wr.heap.size wr).drew
              have HPW2 := Lib.hid (fun b (hb : b < w.heap.size) => H3W.out b (by have := HWS.out; omega))
              clear hbd hrb xc1
              go_wp2_with fail
              go_region_held3 (fun w' => StS w w5.heap.size (.int .i64 xk) w')
                (first | exact TS | assumption | (refine StS.kp (by assumption) H3x.out HPW2.out ?_; assumption) | (refine StS.under (by assumption) ?_; first | exact TS | assumption))
                (first
                  | (go_at_call 56; refine (HCX.out _ (StS.bel (by first | exact TS | assumption))).mono ?_; rintro e w10 ⟨rfl, b10⟩; have hq10 := hQd.below b10)
                  | (go_at_call 83; refine (queuePut_any w10 P3 qa qi (xk + rd) (TT : Int) hq64 hql HHN2.out hq10).mono ?_; rintro e w11 ⟨rfl, qn, hrel, hhn, hQn, kn⟩))
              all_goals (
                have KN : Kp P3 w9 w11 := ((kq.drew).trans (Kp.of b10)).trans kn
                have HPN := Lib.hid (heap_put HSL.out.ok HPM2.out hrel)
                rw [← HNX.out] at HPN
                have HHN3 := Lib.hid hhn
                clear hrel hhn kn b10 hq10 TS hQd hQ kq HPM2 HHN2
                go_wp2
                go_roundw
                case rel => exact ⟨i + 1, qn, by omega, by go_num, HPN, HHN3, hQn, KN⟩
                case measure => simp [intOf]; omega)
          · obtain rfl : i = E := by omega
            have HPM4 := Lib.hid (show qi.Perm (puK zs rs (xk, (U : Int)) (D ++ [(xk, (U : Int))]) q' rs.length) by
              have h := HPM2.out
              rw [List.take_of_length_le (by rw [HRL.out]; exact Nat.le_refl _), puL_all HZ.out.arcs rfl] at h
              exact h)
            have ownN := ownsRow_kp own9 kq (fun g e => (H3v.out g e).2.1)
            rw [show (D ++ [(xk, (U : Int))]).length = D.length + 1 by simp] at ownN
            have DRn := DR9.kp kq H3d.out
            have HSN := Lib.hid (HSI.out.next HZ.out rs.length (Nat.le_refl _))
            have HLN := Lib.hid ((srch_on (x := (xk, (U : Int))) (fun e => HUT.out (by have : (U : Int) = t := e; omega))).symm.trans HL.out)
            have HFN := Lib.hid (show f' + (D ++ [(xk, (U : Int))]).length = ps.length + 1 by have := HF.out; simp; omega)
            have HVN := Lib.hid (fun g (e : Value.ownBlock (.slice A7 (D.length + 1) c7) = some g) => H3v.out g (by rw [show (D ++ [(xk, (U : Int))]).length = D.length + 1 by simp]; exact e))
            clear own9 HPM2 HSL hlt
            go_wp2
            go_roundw
            case rel => exact ⟨P3, D ++ [(xk, (U : Int))], _, qi, f', H3W, H3d, HVN, by rw [show (D ++ [(xk, (U : Int))]).length = D.length + 1 by simp]; exact ownN, hQ, HPM4, HHN2, DRn, HSN, HFN, HLN, KWr⟩
            case measure => simp [sliceLen]; omega

end Go.Proofs.Ytcaamhoakhgnhaa
