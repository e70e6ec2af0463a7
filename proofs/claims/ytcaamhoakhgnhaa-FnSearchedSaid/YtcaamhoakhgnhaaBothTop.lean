/-
  What impl.Both computes.
-/
import Derived.Test.YtcaamhoakhgnhaaBothIm
import Derived.Test.YtcaamhoakhgnhaaSmallAll
namespace Go.Proofs.Ytcaamhoakhgnhaa
open Go.RowKit Go.Deep Go.Maps

/-- A row of numbers in a block that lies between two bounds. -/
def RowK (w : World) (base top : Nat) (A : Option Addr) (zs : List Int) : Prop := 0 < zs.length → ∃ g off, A = some ⟨g, off, none⟩ ∧ base ≤ g ∧ g < top ∧ OwnAt w g 3 off zs.length (zg zs)
theorem RowK.below {w w' : World} {base top : Nat} {A : Option Addr} {zs : List Int} (h : RowK w base top A zs) (hb : Below w.heap.size w w') : RowK w' base top A zs := fun hp => by
  obtain ⟨g, off, h1, h2, h3, h4⟩ := h hp; exact ⟨g, off, h1, h2, h3, h4.below hb⟩
theorem RowK.set {w : World} {base top : Nat} {A : Option Addr} {zs : List Int} (h : RowK w base top A zs) {p : Nat} (hp : p < base ∨ top ≤ p) (i : Nat) (x : Value) : RowK (w.setCell ⟨p, i, none⟩ x) base top A zs := fun h0 => by
  obtain ⟨g, off, h1, h2, h3, h4⟩ := h h0
  exact ⟨g, off, h1, h2, h3, h4.of_block (Below.heap_setCell _ _ _ _ (by show g ≠ p; omega))⟩
theorem RowK.ints {w : World} {base top : Nat} {A : Option Addr} {zs : List Int} (h : RowK w base top A zs) : IsInts w A zs := fun hp => by
  obtain ⟨g, off, h1, h2, h3, h4⟩ := h hp
  exact ⟨g, off, h1, h4.lt, fun i hi => h4.cell hi⟩
theorem OwnSl.rowK {w : World} {base : Nat} {A : Option Addr} {zs : List Int} (h : OwnSl w base 3 A zs.length (zg zs)) : RowK w base w.heap.size A zs := fun hp => by
  obtain ⟨g, off, h1, h2, h3⟩ := h hp
  exact ⟨g, off, h1, h2, h3.lt, h3⟩
def SeenR (w : World) (R : List (Int × Int)) (e : Ending) (w' : World) : Prop :=
  ∃ A1 A2 c1 c2, e = .returned (.agg #[.slice A1 R.length c1, .slice A2 R.length c2]) ∧ RowK w' w.heap.size w'.heap.size A1 (idsL R) ∧ RowK w' w.heap.size w'.heap.size A2 (keysL R) ∧ Below w.heap.size w w'
theorem implSearch_r (A B : Option Addr) (ca cb : Nat) (ps : List (Int × Int)) (rs : List A3) (s t : Int) (w : World) (hn : ps.length ≤ 1048576) (hm : rs.length ≤ 1048576) (ha : IsPts w A ps) (hb : IsArcs w B rs) :
    Calls Try.prog 14 #[.agg #[.slice A ps.length ca, .slice B rs.length cb], .int .i64 s, .int .i64 t] w (SeenR w (srL ps rs s t)) := by
  refine (implSearch_any A B ca cb ps rs s t w hn hm ha hb).mono ?_
  rintro e w' ⟨A1, A2, c1, c2, rfl, O1, O2, -, b⟩
  exact ⟨A1, A2, c1, c2, by simp [idsL, keysL], O1.rowK, O2.rowK, b⟩
/-- What the two searches leave in their boxes. -/
def BothCut (W0 : World) (R1 R2 : List (Int × Int)) (p q : Value) (wc : World) : Prop :=
  ∃ pb qb A1 A2 A5 A6 c1 c2 c5 c6, p = .pointer (some ⟨pb, 0, none⟩) ∧ q = .pointer (some ⟨qb, 0, none⟩) ∧ Pair wc pb 42 (.slice A1 R1.length c1) (.slice A2 R1.length c2) ∧ Pair wc qb 42 (.slice A5 R2.length c5) (.slice A6 R2.length c6) ∧
    IsInts wc A1 (idsL R1) ∧ IsInts wc A2 (keysL R1) ∧ IsInts wc A5 (idsL R2) ∧ IsInts wc A6 (keysL R2) ∧ Below W0.heap.size W0 wc

set_option maxRecDepth 100000 in
set_option maxHeartbeats 4000000 in
theorem implBoth_any (ad : Addr) (B : Option Addr) (ca cb : Nat) (ps : List (Int × Int)) (rs : List A3) (s t : Int) (w : World) (hn : ps.length ≤ 1048576) (hm : rs.length ≤ 1048576) (ha : IsPts w (some ad) ps) (hb : IsArcs w B rs) :
    Calls Try.prog 10 #[.agg #[.slice (some ad) ps.length ca, .slice B rs.length cb], .int .i64 s, .int .i64 t] w fun e w' => e = .returned (bothV ps rs s t) ∧ Below w.heap.size w w' := by
  have hnT : (turnP ps rs).length ≤ 1048576 := by unfold turnP; split; exact hn; simp
  have hmT : (turnR ps rs).length ≤ 1048576 := by
    unfold turnR; split
    · have := (netB_iff.1 (turn_valid (by assumption))).2.1; omega
    · simp
  have X := Pair.new w 32 (.slice (some ad) ps.length ca) (.slice B rs.length cb)
  have K := below1 w (.cells #[.slice (some ad) ps.length ca, .slice B rs.length cb] 32)
  obtain ⟨x0, x1, -, -⟩ := X.cells
  go_enter Try.func10, Try.ntmps10
  go_upto_region 1 with (fail)
  obtain ⟨W0, hW0⟩ : ∃ W0, W0 = w.alloc (.cells #[.slice (some ad) ps.length ca, .slice B rs.length cb] 32) := ⟨_, rfl⟩
  rw [← hW0] at X K x0 x1 ⊢
  clear hW0
  have HW0 := Lib.hid X.lt
  have HP := Lib.hid (fun W (h : Below W0.heap.size W0 W) => (ha.below K).below h)
  have HB := Lib.hid (fun W (h : Below W0.heap.size W0 W) => (hb.below K).below h)
  go_cut [9, 10] (fun p q wc => BothCut W0 (srL ps rs s t) (srL (turnP ps rs) (turnR ps rs) t s) p q wc)
  case first =>
    refine wp_region_held_drew (S := (fun w' => LowS W0 w.heap.size (.slice (some ad) ps.length ca) (.slice B rs.length cb) w')) (by kernel_rfl) ?_ (fun hHeld => ?_)
    · exact LowS.drew ⟨x0, x1, Below.refl _ W0⟩
    clear x0 x1 X
    refine wpAnyH_take (i := 0) (oi := ⟨some 16, _, _, _, _, _⟩) (v := .agg #[.slice (some ad) ps.length ca, .slice B rs.length cb]) rfl (by kernel_rfl) (by kernel_rfl) (by kernel_rfl) (fun _ _ _ h => h) (Or.inl ⟨by rfl, fun w' hw => ?hy⟩) hHeld ?_
    case hy => (try dsimp only at hw); go_simp
    simp only [Act.put, List.setIfInBounds_toArray, List.set_cons_zero, List.set_cons_succ]
    refine wpAnyH_take (i := 1) (oi := ⟨some 17, _, _, _, _, _⟩) (v := .int .i64 s) rfl (by kernel_rfl) (by kernel_rfl) (by kernel_rfl) (fun _ _ _ h => h) (Or.inl ⟨by rfl, fun w' hw => ?hy⟩) hHeld ?_
    case hy => (try dsimp only at hw); go_simp
    simp only [Act.put, List.setIfInBounds_toArray, List.set_cons_zero, List.set_cons_succ]
    refine wpAnyH_take (i := 2) (oi := ⟨some 18, _, _, _, _, _⟩) (v := .int .i64 t) rfl (by kernel_rfl) (by kernel_rfl) (by kernel_rfl) (fun _ _ _ h => h) (Or.inl ⟨by rfl, fun w' hw => ?hy⟩) hHeld ?_
    case hy => (try dsimp only at hw); go_simp
    simp only [Act.put, List.setIfInBounds_toArray, List.set_cons_zero, List.set_cons_succ]
    refine wpAnyH_take (i := 4) (oi := ⟨some 20, _, _, _, _, _⟩) (v := .agg #[.slice (some ad) ps.length ca, .slice B rs.length cb]) rfl (by kernel_rfl) (by kernel_rfl) (by kernel_rfl) (fun _ _ _ h => h) (Or.inl ⟨by rfl, fun w' hw => ?hy⟩) hHeld ?_
    case hy => (try dsimp only at hw); go_simp
    simp only [Act.put, List.setIfInBounds_toArray, List.set_cons_zero, List.set_cons_succ]
    refine wpAnyH_take (i := 6) (oi := ⟨some 22, _, _, _, _, _⟩) (v := .int .i64 t) rfl (by kernel_rfl) (by kernel_rfl) (by kernel_rfl) (fun _ _ _ h => h) (Or.inl ⟨by rfl, fun w' hw => ?hy⟩) hHeld ?_
    case hy => (try dsimp only at hw); go_simp
    simp only [Act.put, List.setIfInBounds_toArray, List.set_cons_zero, List.set_cons_succ]
    refine wpAnyH_take (i := 7) (oi := ⟨some 23, _, _, _, _, _⟩) (v := .int .i64 s) rfl (by kernel_rfl) (by kernel_rfl) (by kernel_rfl) (fun _ _ _ h => h) (Or.inl ⟨by rfl, fun w' hw => ?hy⟩) hHeld ?_
    case hy => (try dsimp only at hw); go_simp
    simp only [Act.put, List.setIfInBounds_toArray, List.set_cons_zero, List.set_cons_succ]
    obtain ⟨DW, hDW⟩ : ∃ V, V = W0.drew := ⟨_, rfl⟩
    have HZ0 : Hid (DW.heap.size = W0.heap.size) := Lib.hid (by rw [hDW]; rfl)
    rw [← hDW] at hHeld ⊢
    clear hDW
    refine wpAnyH_ready (rs := [3, 9, 10]) (by kernel_rfl) (by simp) ?_
    refine AllReadyH.cons (o := ⟨some 19, _, _, _, _, _⟩) rfl (fun K hK => ?_) (AllReadyH.cons (o := ⟨some 9, _, _, _, _, _⟩) rfl (fun K hK => ?_) (AllReadyH.cons (o := ⟨some 10, _, _, _, _, _⟩) rfl (fun K hK => ?_) AllReadyH.nil))
    · go_simp
      refine (implSearch_r (some ad) B ca cb ps rs s t _ hn hm (HP.out _ hHeld.2.2) (HB.out _ hHeld.2.2)).mono ?_; rintro e W1 ⟨A1, A2, c1, c2, rfl, OA1, OA2, b1⟩
      go_wp2_with fail
      refine hK.out _ _ ?_ (fun hHeld => ?_)
      · exact LowS.under b1 hHeld
      clear hK K
      try simp only [Act.put, List.setIfInBounds_toArray, List.set_cons_zero, List.set_cons_succ]
      have H1 := Lib.hid b1.size
      clear b1
      refine wpAnyH_ready (rs := [5, 9, 10]) (by kernel_rfl) (by simp) ?_
      refine AllReadyH.cons (o := ⟨some 21, _, _, _, _, _⟩) rfl (fun K hK => ?_) (AllReadyH.cons (o := ⟨some 9, _, _, _, _, _⟩) rfl (fun K hK => ?_) (AllReadyH.cons (o := ⟨some 10, _, _, _, _, _⟩) rfl (fun K hK => ?_) AllReadyH.nil))
      · go_simp
        refine (implTurned_any ad B ca cb ps rs _ hn hm (HP.out _ hHeld.2.2) (HB.out _ hHeld.2.2)).mono ?_; rintro e W2 ⟨A4, B4, ca4, cb4, rfl, OP4, OR4, -, b2⟩
        go_wp2_with fail
        refine hK.out _ _ ?_ (fun hHeld => ?_)
        · exact LowS.under b2 hHeld
        clear hK K
        try simp only [Act.put, List.setIfInBounds_toArray, List.set_cons_zero, List.set_cons_succ]
        replace OA1 := OA1.below b2
        replace OA2 := OA2.below b2
        have IP4 := own_pts OP4
        have IR4 := own_arcs OR4
        clear OP4 OR4
        have H2 := Lib.hid b2.size
        clear b2
        refine wpAnyH_ready (rs := [8, 9, 10]) (by kernel_rfl) (by simp) ?_
        refine AllReadyH.cons (o := ⟨some 24, _, _, _, _, _⟩) rfl (fun K hK => ?_) (AllReadyH.cons (o := ⟨some 9, _, _, _, _, _⟩) rfl (fun K hK => ?_) (AllReadyH.cons (o := ⟨some 10, _, _, _, _, _⟩) rfl (fun K hK => ?_) AllReadyH.nil))
        · go_simp
          refine (implSearch_r A4 B4 ca4 cb4 (turnP ps rs) (turnR ps rs) t s _ hnT hmT IP4 IR4).mono ?_; rintro e W3 ⟨A5, A6, c5, c6, rfl, OA5, OA6, b3⟩
          go_wp2_with fail
          refine hK.out _ _ ?_ (fun hHeld => ?_)
          · exact LowS.under b3 hHeld
          clear hK K
          try simp only [Act.put, List.setIfInBounds_toArray, List.set_cons_zero, List.set_cons_succ]
          replace OA1 := OA1.below b3
          replace OA2 := OA2.below b3
          clear IP4 IR4
          have H3 := Lib.hid b3.size
          clear b3
          refine wpAnyH_ready (rs := [9, 10]) (by kernel_rfl) (by simp) ?_
          refine AllReadyH.cons (o := ⟨some 9, _, _, _, _, _⟩) rfl (fun K hK => ?_) (AllReadyH.cons (o := ⟨some 10, _, _, _, _, _⟩) rfl (fun K hK => ?_) AllReadyH.nil)
          · go_simp
            refine hK.out _ _ ?_ (fun hHeld => ?_)
            · exact LowS.alloc hHeld _
            clear hK K
            try simp only [Act.put, List.setIfInBounds_toArray, List.set_cons_zero, List.set_cons_succ]
            have PX := Pair.new (W3) 42 (.slice none 0 0) (.slice none 0 0)
            have kb := below1 (W3) (.cells #[.slice none 0 0, .slice none 0 0] 42)
            replace OA1 := OA1.below kb
            replace OA2 := OA2.below kb
            replace OA5 := OA5.below kb
            replace OA6 := OA6.below kb
            have HPB := Lib.hid (World.size_alloc (W3) (.cells #[.slice none 0 0, .slice none 0 0] 42))
            clear kb
            obtain ⟨VP, hVP⟩ : ∃ V, V = (W3).alloc (.cells #[.slice none 0 0, .slice none 0 0] 42) := ⟨_, rfl⟩
            rw [← hVP] at PX HPB OA1 OA2 OA5 OA6 hHeld ⊢
            clear hVP
            obtain ⟨pb, hpb⟩ : ∃ V, V = (W3).heap.size := ⟨_, rfl⟩
            have HPB2 := Lib.hid hpb
            try rw [show (W3).heap.size = pb from hpb.symm]
            rw [show (W3).heap.size = pb from hpb.symm] at PX
            clear hpb
            refine wpAnyH_ready (rs := [10]) (by kernel_rfl) (by simp) ?_
            refine AllReadyH.cons (o := ⟨some 10, _, _, _, _, _⟩) rfl (fun K hK => ?_) AllReadyH.nil
            · go_simp
              refine hK.out _ _ ?_ (fun hHeld => ?_)
              · exact LowS.alloc hHeld _
              clear hK K
              try simp only [Act.put, List.setIfInBounds_toArray, List.set_cons_zero, List.set_cons_succ]
              have QX := Pair.new (VP) 42 (.slice none 0 0) (.slice none 0 0)
              have kb := below1 (VP) (.cells #[.slice none 0 0, .slice none 0 0] 42)
              replace OA1 := OA1.below kb
              replace OA2 := OA2.below kb
              replace OA5 := OA5.below kb
              replace OA6 := OA6.below kb
              replace PX := PX.below kb
              have HQB := Lib.hid (World.size_alloc (VP) (.cells #[.slice none 0 0, .slice none 0 0] 42))
              clear kb
              obtain ⟨VQ, hVQ⟩ : ∃ V, V = (VP).alloc (.cells #[.slice none 0 0, .slice none 0 0] 42) := ⟨_, rfl⟩
              rw [← hVQ] at QX HQB OA1 OA2 OA5 OA6 PX hHeld ⊢
              clear hVQ
              obtain ⟨qb, hqb⟩ : ∃ V, V = (VP).heap.size := ⟨_, rfl⟩
              have HQB2 := Lib.hid hqb
              try rw [show (VP).heap.size = qb from hqb.symm]
              rw [show (VP).heap.size = qb from hqb.symm] at QX
              clear hqb
              refine wpAnyH_ready (rs := [11]) (by kernel_rfl) (by simp) ?_
              refine AllReadyH.cons (o := ⟨none, _, _, _, _, _⟩) rfl (fun K hK => ?_) AllReadyH.nil
              · obtain ⟨z0, z1, z2, z3⟩ := PX.cells
                have NE : Hid (pb ≠ qb ∧ W0.heap.size ≤ pb ∧ (pb < DW.heap.size ∨ W1.heap.size ≤ pb) ∧ (pb < W2.heap.size ∨ W3.heap.size ≤ pb)) := Lib.hid (by have q1 := HPB.out; have q2 := HPB2.out; have q3 := HQB.out; have q4 := HQB2.out; have q5 := H1.out; have q6 := H2.out; have q7 := H3.out; have q8 := HZ0.out; omega)
                go_simp
                clear z0 z1 z2 z3
                refine hK.out _ _ ?_ (fun hHeld => ?_)
                · exact LowS.set2 hHeld HW0.out NE.out.2.1 _ _
                clear hK K
                try simp only [Act.put, List.setIfInBounds_toArray, List.set_cons_zero, List.set_cons_succ]
                replace PX := (PX.set0 (.slice A1 (srL ps rs s t).length c1)).set1 (.slice A2 (srL ps rs s t).length c2)
                replace QX := (QX.far (c := pb) NE.out.1.symm 0 (.slice A1 (srL ps rs s t).length c1)).far (c := pb) NE.out.1.symm 1 (.slice A2 (srL ps rs s t).length c2)
                replace OA1 := (OA1.set (p := pb) NE.out.2.2.1 0 (.slice A1 (srL ps rs s t).length c1)).set (p := pb) NE.out.2.2.1 1 (.slice A2 (srL ps rs s t).length c2)
                replace OA2 := (OA2.set (p := pb) NE.out.2.2.1 0 (.slice A1 (srL ps rs s t).length c1)).set (p := pb) NE.out.2.2.1 1 (.slice A2 (srL ps rs s t).length c2)
                replace OA5 := (OA5.set (p := pb) NE.out.2.2.2 0 (.slice A1 (srL ps rs s t).length c1)).set (p := pb) NE.out.2.2.2 1 (.slice A2 (srL ps rs s t).length c2)
                replace OA6 := (OA6.set (p := pb) NE.out.2.2.2 0 (.slice A1 (srL ps rs s t).length c1)).set (p := pb) NE.out.2.2.2 1 (.slice A2 (srL ps rs s t).length c2)
                clear NE
                refine wpAnyH_ready (rs := [12]) (by kernel_rfl) (by simp) ?_
                refine AllReadyH.cons (o := ⟨none, _, _, _, _, _⟩) rfl (fun K hK => ?_) AllReadyH.nil
                · obtain ⟨z0, z1, z2, z3⟩ := QX.cells
                  have NE : Hid (pb ≠ qb ∧ W0.heap.size ≤ qb ∧ (qb < DW.heap.size ∨ W1.heap.size ≤ qb) ∧ (qb < W2.heap.size ∨ W3.heap.size ≤ qb)) := Lib.hid (by have q1 := HPB.out; have q2 := HPB2.out; have q3 := HQB.out; have q4 := HQB2.out; have q5 := H1.out; have q6 := H2.out; have q7 := H3.out; have q8 := HZ0.out; omega)
                  go_simp
                  clear z0 z1 z2 z3
                  refine hK.out _ _ ?_ (fun hHeld => ?_)
                  · exact LowS.set2 hHeld HW0.out NE.out.2.1 _ _
                  clear hK K
                  try simp only [Act.put, List.setIfInBounds_toArray, List.set_cons_zero, List.set_cons_succ]
                  replace QX := (QX.set0 (.slice A5 (srL (turnP ps rs) (turnR ps rs) t s).length c5)).set1 (.slice A6 (srL (turnP ps rs) (turnR ps rs) t s).length c6)
                  replace PX := (PX.far (c := qb) NE.out.1 0 (.slice A5 (srL (turnP ps rs) (turnR ps rs) t s).length c5)).far (c := qb) NE.out.1 1 (.slice A6 (srL (turnP ps rs) (turnR ps rs) t s).length c6)
                  replace OA1 := (OA1.set (p := qb) NE.out.2.2.1 0 (.slice A5 (srL (turnP ps rs) (turnR ps rs) t s).length c5)).set (p := qb) NE.out.2.2.1 1 (.slice A6 (srL (turnP ps rs) (turnR ps rs) t s).length c6)
                  replace OA2 := (OA2.set (p := qb) NE.out.2.2.1 0 (.slice A5 (srL (turnP ps rs) (turnR ps rs) t s).length c5)).set (p := qb) NE.out.2.2.1 1 (.slice A6 (srL (turnP ps rs) (turnR ps rs) t s).length c6)
                  replace OA5 := (OA5.set (p := qb) NE.out.2.2.2 0 (.slice A5 (srL (turnP ps rs) (turnR ps rs) t s).length c5)).set (p := qb) NE.out.2.2.2 1 (.slice A6 (srL (turnP ps rs) (turnR ps rs) t s).length c6)
                  replace OA6 := (OA6.set (p := qb) NE.out.2.2.2 0 (.slice A5 (srL (turnP ps rs) (turnR ps rs) t s).length c5)).set (p := qb) NE.out.2.2.2 1 (.slice A6 (srL (turnP ps rs) (turnR ps rs) t s).length c6)
                  clear NE
                  refine wpAnyH_done (by kernel_rfl) ?_ _
                  go_wp2
                  go_meet
                  case rel => exact ⟨pb, qb, A1, A2, A5, A6, c1, c2, c5, c6, rfl, rfl, PX, QX, OA1.ints, OA2.ints, OA5.ints, OA6.ints, hHeld.2.2⟩
          · go_simp
            refine hK.out _ _ ?_ (fun hHeld => ?_)
            · exact LowS.alloc hHeld _
            clear hK K
            try simp only [Act.put, List.setIfInBounds_toArray, List.set_cons_zero, List.set_cons_succ]
            have QX := Pair.new (W3) 42 (.slice none 0 0) (.slice none 0 0)
            have kb := below1 (W3) (.cells #[.slice none 0 0, .slice none 0 0] 42)
            replace OA1 := OA1.below kb
            replace OA2 := OA2.below kb
            replace OA5 := OA5.below kb
            replace OA6 := OA6.below kb
            have HQB := Lib.hid (World.size_alloc (W3) (.cells #[.slice none 0 0, .slice none 0 0] 42))
            clear kb
            obtain ⟨VQ, hVQ⟩ : ∃ V, V = (W3).alloc (.cells #[.slice none 0 0, .slice none 0 0] 42) := ⟨_, rfl⟩
            rw [← hVQ] at QX HQB OA1 OA2 OA5 OA6 hHeld ⊢
            clear hVQ
            obtain ⟨qb, hqb⟩ : ∃ V, V = (W3).heap.size := ⟨_, rfl⟩
            have HQB2 := Lib.hid hqb
            try rw [show (W3).heap.size = qb from hqb.symm]
            rw [show (W3).heap.size = qb from hqb.symm] at QX
            clear hqb
            refine wpAnyH_ready (rs := [9]) (by kernel_rfl) (by simp) ?_
            refine AllReadyH.cons (o := ⟨some 9, _, _, _, _, _⟩) rfl (fun K hK => ?_) AllReadyH.nil
            · go_simp
              refine hK.out _ _ ?_ (fun hHeld => ?_)
              · exact LowS.alloc hHeld _
              clear hK K
              try simp only [Act.put, List.setIfInBounds_toArray, List.set_cons_zero, List.set_cons_succ]
              have PX := Pair.new (VQ) 42 (.slice none 0 0) (.slice none 0 0)
              have kb := below1 (VQ) (.cells #[.slice none 0 0, .slice none 0 0] 42)
              replace OA1 := OA1.below kb
              replace OA2 := OA2.below kb
              replace OA5 := OA5.below kb
              replace OA6 := OA6.below kb
              replace QX := QX.below kb
              have HPB := Lib.hid (World.size_alloc (VQ) (.cells #[.slice none 0 0, .slice none 0 0] 42))
              clear kb
              obtain ⟨VP, hVP⟩ : ∃ V, V = (VQ).alloc (.cells #[.slice none 0 0, .slice none 0 0] 42) := ⟨_, rfl⟩
              rw [← hVP] at PX HPB OA1 OA2 OA5 OA6 QX hHeld ⊢
              clear hVP
              obtain ⟨pb, hpb⟩ : ∃ V, V = (VQ).heap.size := ⟨_, rfl⟩
              have HPB2 := Lib.hid hpb
              try rw [show (VQ).heap.size = pb from hpb.symm]
              rw [show (VQ).heap.size = pb from hpb.symm] at PX
              clear hpb
              refine wpAnyH_ready (rs := [11]) (by kernel_rfl) (by simp) ?_
              refine AllReadyH.cons (o := ⟨none, _, _, _, _, _⟩) rfl (fun K hK => ?_) AllReadyH.nil
              · obtain ⟨z0, z1, z2, z3⟩ := PX.cells
                have NE : Hid (pb ≠ qb ∧ W0.heap.size ≤ pb ∧ (pb < DW.heap.size ∨ W1.heap.size ≤ pb) ∧ (pb < W2.heap.size ∨ W3.heap.size ≤ pb)) := Lib.hid (by have q1 := HPB.out; have q2 := HPB2.out; have q3 := HQB.out; have q4 := HQB2.out; have q5 := H1.out; have q6 := H2.out; have q7 := H3.out; have q8 := HZ0.out; omega)
                go_simp
                clear z0 z1 z2 z3
                refine hK.out _ _ ?_ (fun hHeld => ?_)
                · exact LowS.set2 hHeld HW0.out NE.out.2.1 _ _
                clear hK K
                try simp only [Act.put, List.setIfInBounds_toArray, List.set_cons_zero, List.set_cons_succ]
                replace PX := (PX.set0 (.slice A1 (srL ps rs s t).length c1)).set1 (.slice A2 (srL ps rs s t).length c2)
                replace QX := (QX.far (c := pb) NE.out.1.symm 0 (.slice A1 (srL ps rs s t).length c1)).far (c := pb) NE.out.1.symm 1 (.slice A2 (srL ps rs s t).length c2)
                replace OA1 := (OA1.set (p := pb) NE.out.2.2.1 0 (.slice A1 (srL ps rs s t).length c1)).set (p := pb) NE.out.2.2.1 1 (.slice A2 (srL ps rs s t).length c2)
                replace OA2 := (OA2.set (p := pb) NE.out.2.2.1 0 (.slice A1 (srL ps rs s t).length c1)).set (p := pb) NE.out.2.2.1 1 (.slice A2 (srL ps rs s t).length c2)
                replace OA5 := (OA5.set (p := pb) NE.out.2.2.2 0 (.slice A1 (srL ps rs s t).length c1)).set (p := pb) NE.out.2.2.2 1 (.slice A2 (srL ps rs s t).length c2)
                replace OA6 := (OA6.set (p := pb) NE.out.2.2.2 0 (.slice A1 (srL ps rs s t).length c1)).set (p := pb) NE.out.2.2.2 1 (.slice A2 (srL ps rs s t).length c2)
                clear NE
                refine wpAnyH_ready (rs := [12]) (by kernel_rfl) (by simp) ?_
                refine AllReadyH.cons (o := ⟨none, _, _, _, _, _⟩) rfl (fun K hK => ?_) AllReadyH.nil
                · obtain ⟨z0, z1, z2, z3⟩ := QX.cells
                  have NE : Hid (pb ≠ qb ∧ W0.heap.size ≤ qb ∧ (qb < DW.heap.size ∨ W1.heap.size ≤ qb) ∧ (qb < W2.heap.size ∨ W3.heap.size ≤ qb)) := Lib.hid (by have q1 := HPB.out; have q2 := HPB2.out; have q3 := HQB.out; have q4 := HQB2.out; have q5 := H1.out; have q6 := H2.out; have q7 := H3.out; have q8 := HZ0.out; omega)
                  go_simp
                  clear z0 z1 z2 z3
                  refine hK.out _ _ ?_ (fun hHeld => ?_)
                  · exact LowS.set2 hHeld HW0.out NE.out.2.1 _ _
                  clear hK K
                  try simp only [Act.put, List.setIfInBounds_toArray, List.set_cons_zero, List.set_cons_succ]
                  replace QX := (QX.set0 (.slice A5 (srL (turnP ps rs) (turnR ps rs) t s).length c5)).set1 (.slice A6 (srL (turnP ps rs) (turnR ps rs) t s).length c6)
                  replace PX := (PX.far (c := qb) NE.out.1 0 (.slice A5 (srL (turnP ps rs) (turnR ps rs) t s).length c5)).far (c := qb) NE.out.1 1 (.slice A6 (srL (turnP ps rs) (turnR ps rs) t s).length c6)
                  replace OA1 := (OA1.set (p := qb) NE.out.2.2.1 0 (.slice A5 (srL (turnP ps rs) (turnR ps rs) t s).length c5)).set (p := qb) NE.out.2.2.1 1 (.slice A6 (srL (turnP ps rs) (turnR ps rs) t s).length c6)
                  replace OA2 := (OA2.set (p := qb) NE.out.2.2.1 0 (.slice A5 (srL (turnP ps rs) (turnR ps rs) t s).length c5)).set (p := qb) NE.out.2.2.1 1 (.slice A6 (srL (turnP ps rs) (turnR ps rs) t s).length c6)
                  replace OA5 := (OA5.set (p := qb) NE.out.2.2.2 0 (.slice A5 (srL (turnP ps rs) (turnR ps rs) t s).length c5)).set (p := qb) NE.out.2.2.2 1 (.slice A6 (srL (turnP ps rs) (turnR ps rs) t s).length c6)
                  replace OA6 := (OA6.set (p := qb) NE.out.2.2.2 0 (.slice A5 (srL (turnP ps rs) (turnR ps rs) t s).length c5)).set (p := qb) NE.out.2.2.2 1 (.slice A6 (srL (turnP ps rs) (turnR ps rs) t s).length c6)
                  clear NE
                  refine wpAnyH_done (by kernel_rfl) ?_ _
                  go_wp2
                  go_meet
                  case rel => exact ⟨pb, qb, A1, A2, A5, A6, c1, c2, c5, c6, rfl, rfl, PX, QX, OA1.ints, OA2.ints, OA5.ints, OA6.ints, hHeld.2.2⟩
        · go_simp
          refine hK.out _ _ ?_ (fun hHeld => ?_)
          · exact LowS.alloc hHeld _
          clear hK K
          try simp only [Act.put, List.setIfInBounds_toArray, List.set_cons_zero, List.set_cons_succ]
          have PX := Pair.new (W2) 42 (.slice none 0 0) (.slice none 0 0)
          have kb := below1 (W2) (.cells #[.slice none 0 0, .slice none 0 0] 42)
          replace OA1 := OA1.below kb
          replace OA2 := OA2.below kb
          replace IP4 := IP4.below kb
          replace IR4 := IR4.below kb
          have HPB := Lib.hid (World.size_alloc (W2) (.cells #[.slice none 0 0, .slice none 0 0] 42))
          clear kb
          obtain ⟨VP, hVP⟩ : ∃ V, V = (W2).alloc (.cells #[.slice none 0 0, .slice none 0 0] 42) := ⟨_, rfl⟩
          rw [← hVP] at PX HPB OA1 OA2 IP4 IR4 hHeld ⊢
          clear hVP
          obtain ⟨pb, hpb⟩ : ∃ V, V = (W2).heap.size := ⟨_, rfl⟩
          have HPB2 := Lib.hid hpb
          try rw [show (W2).heap.size = pb from hpb.symm]
          rw [show (W2).heap.size = pb from hpb.symm] at PX
          clear hpb
          refine wpAnyH_ready (rs := [8, 10]) (by kernel_rfl) (by simp) ?_
          refine AllReadyH.cons (o := ⟨some 24, _, _, _, _, _⟩) rfl (fun K hK => ?_) (AllReadyH.cons (o := ⟨some 10, _, _, _, _, _⟩) rfl (fun K hK => ?_) AllReadyH.nil)
          · go_simp
            refine (implSearch_r A4 B4 ca4 cb4 (turnP ps rs) (turnR ps rs) t s _ hnT hmT IP4 IR4).mono ?_; rintro e W3 ⟨A5, A6, c5, c6, rfl, OA5, OA6, b3⟩
            go_wp2_with fail
            refine hK.out _ _ ?_ (fun hHeld => ?_)
            · exact LowS.under b3 hHeld
            clear hK K
            try simp only [Act.put, List.setIfInBounds_toArray, List.set_cons_zero, List.set_cons_succ]
            replace OA1 := OA1.below b3
            replace OA2 := OA2.below b3
            replace PX := PX.below b3
            clear IP4 IR4
            have H3 := Lib.hid b3.size
            clear b3
            refine wpAnyH_ready (rs := [10]) (by kernel_rfl) (by simp) ?_
            refine AllReadyH.cons (o := ⟨some 10, _, _, _, _, _⟩) rfl (fun K hK => ?_) AllReadyH.nil
            · go_simp
              refine hK.out _ _ ?_ (fun hHeld => ?_)
              · exact LowS.alloc hHeld _
              clear hK K
              try simp only [Act.put, List.setIfInBounds_toArray, List.set_cons_zero, List.set_cons_succ]
              have QX := Pair.new (W3) 42 (.slice none 0 0) (.slice none 0 0)
              have kb := below1 (W3) (.cells #[.slice none 0 0, .slice none 0 0] 42)
              replace OA1 := OA1.below kb
              replace OA2 := OA2.below kb
              replace PX := PX.below kb
              replace OA5 := OA5.below kb
              replace OA6 := OA6.below kb
              have HQB := Lib.hid (World.size_alloc (W3) (.cells #[.slice none 0 0, .slice none 0 0] 42))
              clear kb
              obtain ⟨VQ, hVQ⟩ : ∃ V, V = (W3).alloc (.cells #[.slice none 0 0, .slice none 0 0] 42) := ⟨_, rfl⟩
              rw [← hVQ] at QX HQB OA1 OA2 PX OA5 OA6 hHeld ⊢
              clear hVQ
              obtain ⟨qb, hqb⟩ : ∃ V, V = (W3).heap.size := ⟨_, rfl⟩
              have HQB2 := Lib.hid hqb
              try rw [show (W3).heap.size = qb from hqb.symm]
              rw [show (W3).heap.size = qb from hqb.symm] at QX
              clear hqb
              refine wpAnyH_ready (rs := [11]) (by kernel_rfl) (by simp) ?_
              refine AllReadyH.cons (o := ⟨none, _, _, _, _, _⟩) rfl (fun K hK => ?_) AllReadyH.nil
              · obtain ⟨z0, z1, z2, z3⟩ := PX.cells
                have NE : Hid (pb ≠ qb ∧ W0.heap.size ≤ pb ∧ (pb < DW.heap.size ∨ W1.heap.size ≤ pb) ∧ (pb < VP.heap.size ∨ W3.heap.size ≤ pb)) := Lib.hid (by have q1 := HPB.out; have q2 := HPB2.out; have q3 := HQB.out; have q4 := HQB2.out; have q5 := H1.out; have q6 := H2.out; have q7 := H3.out; have q8 := HZ0.out; omega)
                go_simp
                clear z0 z1 z2 z3
                refine hK.out _ _ ?_ (fun hHeld => ?_)
                · exact LowS.set2 hHeld HW0.out NE.out.2.1 _ _
                clear hK K
                try simp only [Act.put, List.setIfInBounds_toArray, List.set_cons_zero, List.set_cons_succ]
                replace PX := (PX.set0 (.slice A1 (srL ps rs s t).length c1)).set1 (.slice A2 (srL ps rs s t).length c2)
                replace QX := (QX.far (c := pb) NE.out.1.symm 0 (.slice A1 (srL ps rs s t).length c1)).far (c := pb) NE.out.1.symm 1 (.slice A2 (srL ps rs s t).length c2)
                replace OA1 := (OA1.set (p := pb) NE.out.2.2.1 0 (.slice A1 (srL ps rs s t).length c1)).set (p := pb) NE.out.2.2.1 1 (.slice A2 (srL ps rs s t).length c2)
                replace OA2 := (OA2.set (p := pb) NE.out.2.2.1 0 (.slice A1 (srL ps rs s t).length c1)).set (p := pb) NE.out.2.2.1 1 (.slice A2 (srL ps rs s t).length c2)
                replace OA5 := (OA5.set (p := pb) NE.out.2.2.2 0 (.slice A1 (srL ps rs s t).length c1)).set (p := pb) NE.out.2.2.2 1 (.slice A2 (srL ps rs s t).length c2)
                replace OA6 := (OA6.set (p := pb) NE.out.2.2.2 0 (.slice A1 (srL ps rs s t).length c1)).set (p := pb) NE.out.2.2.2 1 (.slice A2 (srL ps rs s t).length c2)
                clear NE
                refine wpAnyH_ready (rs := [12]) (by kernel_rfl) (by simp) ?_
                refine AllReadyH.cons (o := ⟨none, _, _, _, _, _⟩) rfl (fun K hK => ?_) AllReadyH.nil
                · obtain ⟨z0, z1, z2, z3⟩ := QX.cells
                  have NE : Hid (pb ≠ qb ∧ W0.heap.size ≤ qb ∧ (qb < DW.heap.size ∨ W1.heap.size ≤ qb) ∧ (qb < VP.heap.size ∨ W3.heap.size ≤ qb)) := Lib.hid (by have q1 := HPB.out; have q2 := HPB2.out; have q3 := HQB.out; have q4 := HQB2.out; have q5 := H1.out; have q6 := H2.out; have q7 := H3.out; have q8 := HZ0.out; omega)
                  go_simp
                  clear z0 z1 z2 z3
                  refine hK.out _ _ ?_ (fun hHeld => ?_)
                  · exact LowS.set2 hHeld HW0.out NE.out.2.1 _ _
                  clear hK K
                  try simp only [Act.put, List.setIfInBounds_toArray, List.set_cons_zero, List.set_cons_succ]
                  replace QX := (QX.set0 (.slice A5 (srL (turnP ps rs) (turnR ps rs) t s).length c5)).set1 (.slice A6 (srL (turnP ps rs) (turnR ps rs) t s).length c6)
                  replace PX := (PX.far (c := qb) NE.out.1 0 (.slice A5 (srL (turnP ps rs) (turnR ps rs) t s).length c5)).far (c := qb) NE.out.1 1 (.slice A6 (srL (turnP ps rs) (turnR ps rs) t s).length c6)
                  replace OA1 := (OA1.set (p := qb) NE.out.2.2.1 0 (.slice A5 (srL (turnP ps rs) (turnR ps rs) t s).length c5)).set (p := qb) NE.out.2.2.1 1 (.slice A6 (srL (turnP ps rs) (turnR ps rs) t s).length c6)
                  replace OA2 := (OA2.set (p := qb) NE.out.2.2.1 0 (.slice A5 (srL (turnP ps rs) (turnR ps rs) t s).length c5)).set (p := qb) NE.out.2.2.1 1 (.slice A6 (srL (turnP ps rs) (turnR ps rs) t s).length c6)
                  replace OA5 := (OA5.set (p := qb) NE.out.2.2.2 0 (.slice A5 (srL (turnP ps rs) (turnR ps rs) t s).length c5)).set (p := qb) NE.out.2.2.2 1 (.slice A6 (srL (turnP ps rs) (turnR ps rs) t s).length c6)
                  replace OA6 := (OA6.set (p := qb) NE.out.2.2.2 0 (.slice A5 (srL (turnP ps rs) (turnR ps rs) t s).length c5)).set (p := qb) NE.out.2.2.2 1 (.slice A6 (srL (turnP ps rs) (turnR ps rs) t s).length c6)
                  clear NE
                  refine wpAnyH_done (by kernel_rfl) ?_ _
                  go_wp2
                  go_meet
                  case rel => exact ⟨pb, qb, A1, A2, A5, A6, c1, c2, c5, c6, rfl, rfl, PX, QX, OA1.ints, OA2.ints, OA5.ints, OA6.ints, hHeld.2.2⟩
          · go_simp
            refine hK.out _ _ ?_ (fun hHeld => ?_)
            · exact LowS.alloc hHeld _
            clear hK K
            try simp only [Act.put, List.setIfInBounds_toArray, List.set_cons_zero, List.set_cons_succ]
            have QX := Pair.new (VP) 42 (.slice none 0 0) (.slice none 0 0)
            have kb := below1 (VP) (.cells #[.slice none 0 0, .slice none 0 0] 42)
            replace OA1 := OA1.below kb
            replace OA2 := OA2.below kb
            replace IP4 := IP4.below kb
            replace IR4 := IR4.below kb
            replace PX := PX.below kb
            have HQB := Lib.hid (World.size_alloc (VP) (.cells #[.slice none 0 0, .slice none 0 0] 42))
            clear kb
            obtain ⟨VQ, hVQ⟩ : ∃ V, V = (VP).alloc (.cells #[.slice none 0 0, .slice none 0 0] 42) := ⟨_, rfl⟩
            rw [← hVQ] at QX HQB OA1 OA2 IP4 IR4 PX hHeld ⊢
            clear hVQ
            obtain ⟨qb, hqb⟩ : ∃ V, V = (VP).heap.size := ⟨_, rfl⟩
            have HQB2 := Lib.hid hqb
            try rw [show (VP).heap.size = qb from hqb.symm]
            rw [show (VP).heap.size = qb from hqb.symm] at QX
            clear hqb
            refine wpAnyH_ready (rs := [8]) (by kernel_rfl) (by simp) ?_
            refine AllReadyH.cons (o := ⟨some 24, _, _, _, _, _⟩) rfl (fun K hK => ?_) AllReadyH.nil
            · go_simp
              refine (implSearch_r A4 B4 ca4 cb4 (turnP ps rs) (turnR ps rs) t s _ hnT hmT IP4 IR4).mono ?_; rintro e W3 ⟨A5, A6, c5, c6, rfl, OA5, OA6, b3⟩
              go_wp2_with fail
              refine hK.out _ _ ?_ (fun hHeld => ?_)
              · exact LowS.under b3 hHeld
              clear hK K
              try simp only [Act.put, List.setIfInBounds_toArray, List.set_cons_zero, List.set_cons_succ]
              replace OA1 := OA1.below b3
              replace OA2 := OA2.below b3
              replace PX := PX.below b3
              replace QX := QX.below b3
              clear IP4 IR4
              have H3 := Lib.hid b3.size
              clear b3
              refine wpAnyH_ready (rs := [11]) (by kernel_rfl) (by simp) ?_
              refine AllReadyH.cons (o := ⟨none, _, _, _, _, _⟩) rfl (fun K hK => ?_) AllReadyH.nil
              · obtain ⟨z0, z1, z2, z3⟩ := PX.cells
                have NE : Hid (pb ≠ qb ∧ W0.heap.size ≤ pb ∧ (pb < DW.heap.size ∨ W1.heap.size ≤ pb) ∧ (pb < VQ.heap.size ∨ W3.heap.size ≤ pb)) := Lib.hid (by have q1 := HPB.out; have q2 := HPB2.out; have q3 := HQB.out; have q4 := HQB2.out; have q5 := H1.out; have q6 := H2.out; have q7 := H3.out; have q8 := HZ0.out; omega)
                go_simp
                clear z0 z1 z2 z3
                refine hK.out _ _ ?_ (fun hHeld => ?_)
                · exact LowS.set2 hHeld HW0.out NE.out.2.1 _ _
                clear hK K
                try simp only [Act.put, List.setIfInBounds_toArray, List.set_cons_zero, List.set_cons_succ]
                replace PX := (PX.set0 (.slice A1 (srL ps rs s t).length c1)).set1 (.slice A2 (srL ps rs s t).length c2)
                replace QX := (QX.far (c := pb) NE.out.1.symm 0 (.slice A1 (srL ps rs s t).length c1)).far (c := pb) NE.out.1.symm 1 (.slice A2 (srL ps rs s t).length c2)
                replace OA1 := (OA1.set (p := pb) NE.out.2.2.1 0 (.slice A1 (srL ps rs s t).length c1)).set (p := pb) NE.out.2.2.1 1 (.slice A2 (srL ps rs s t).length c2)
                replace OA2 := (OA2.set (p := pb) NE.out.2.2.1 0 (.slice A1 (srL ps rs s t).length c1)).set (p := pb) NE.out.2.2.1 1 (.slice A2 (srL ps rs s t).length c2)
                replace OA5 := (OA5.set (p := pb) NE.out.2.2.2 0 (.slice A1 (srL ps rs s t).length c1)).set (p := pb) NE.out.2.2.2 1 (.slice A2 (srL ps rs s t).length c2)
                replace OA6 := (OA6.set (p := pb) NE.out.2.2.2 0 (.slice A1 (srL ps rs s t).length c1)).set (p := pb) NE.out.2.2.2 1 (.slice A2 (srL ps rs s t).length c2)
                clear NE
                refine wpAnyH_ready (rs := [12]) (by kernel_rfl) (by simp) ?_
                refine AllReadyH.cons (o := ⟨none, _, _, _, _, _⟩) rfl (fun K hK => ?_) AllReadyH.nil
                · obtain ⟨z0, z1, z2, z3⟩ := QX.cells
                  have NE : Hid (pb ≠ qb ∧ W0.heap.size ≤ qb ∧ (qb < DW.heap.size ∨ W1.heap.size ≤ qb) ∧ (qb < VQ.heap.size ∨ W3.heap.size ≤ qb)) := Lib.hid (by have q1 := HPB.out; have q2 := HPB2.out; have q3 := HQB.out; have q4 := HQB2.out; have q5 := H1.out; have q6 := H2.out; have q7 := H3.out; have q8 := HZ0.out; omega)
                  go_simp
                  clear z0 z1 z2 z3
                  refine hK.out _ _ ?_ (fun hHeld => ?_)
                  · exact LowS.set2 hHeld HW0.out NE.out.2.1 _ _
                  clear hK K
                  try simp only [Act.put, List.setIfInBounds_toArray, List.set_cons_zero, List.set_cons_succ]
                  replace QX := (QX.set0 (.slice A5 (srL (turnP ps rs) (turnR ps rs) t s).length c5)).set1 (.slice A6 (srL (turnP ps rs) (turnR ps rs) t s).length c6)
                  replace PX := (PX.far (c := qb) NE.out.1 0 (.slice A5 (srL (turnP ps rs) (turnR ps rs) t s).length c5)).far (c := qb) NE.out.1 1 (.slice A6 (srL (turnP ps rs) (turnR ps rs) t s).length c6)
                  replace OA1 := (OA1.set (p := qb) NE.out.2.2.1 0 (.slice A5 (srL (turnP ps rs) (turnR ps rs) t s).length c5)).set (p := qb) NE.out.2.2.1 1 (.slice A6 (srL (turnP ps rs) (turnR ps rs) t s).length c6)
                  replace OA2 := (OA2.set (p := qb) NE.out.2.2.1 0 (.slice A5 (srL (turnP ps rs) (turnR ps rs) t s).length c5)).set (p := qb) NE.out.2.2.1 1 (.slice A6 (srL (turnP ps rs) (turnR ps rs) t s).length c6)
                  replace OA5 := (OA5.set (p := qb) NE.out.2.2.2 0 (.slice A5 (srL (turnP ps rs) (turnR ps rs) t s).length c5)).set (p := qb) NE.out.2.2.2 1 (.slice A6 (srL (turnP ps rs) (turnR ps rs) t s).length c6)
                  replace OA6 := (OA6.set (p := qb) NE.out.2.2.2 0 (.slice A5 (srL (turnP ps rs) (turnR ps rs) t s).length c5)).set (p := qb) NE.out.2.2.2 1 (.slice A6 (srL (turnP ps rs) (turnR ps rs) t s).length c6)
                  clear NE
                  refine wpAnyH_done (by kernel_rfl) ?_ _
                  go_wp2
                  go_meet
                  case rel => exact ⟨pb, qb, A1, A2, A5, A6, c1, c2, c5, c6, rfl, rfl, PX, QX, OA1.ints, OA2.ints, OA5.ints, OA6.ints, hHeld.2.2⟩
        · go_simp
          refine hK.out _ _ ?_ (fun hHeld => ?_)
          · exact LowS.alloc hHeld _
          clear hK K
          try simp only [Act.put, List.setIfInBounds_toArray, List.set_cons_zero, List.set_cons_succ]
          have QX := Pair.new (W2) 42 (.slice none 0 0) (.slice none 0 0)
          have kb := below1 (W2) (.cells #[.slice none 0 0, .slice none 0 0] 42)
          replace OA1 := OA1.below kb
          replace OA2 := OA2.below kb
          replace IP4 := IP4.below kb
          replace IR4 := IR4.below kb
          have HQB := Lib.hid (World.size_alloc (W2) (.cells #[.slice none 0 0, .slice none 0 0] 42))
          clear kb
          obtain ⟨VQ, hVQ⟩ : ∃ V, V = (W2).alloc (.cells #[.slice none 0 0, .slice none 0 0] 42) := ⟨_, rfl⟩
          rw [← hVQ] at QX HQB OA1 OA2 IP4 IR4 hHeld ⊢
          clear hVQ
          obtain ⟨qb, hqb⟩ : ∃ V, V = (W2).heap.size := ⟨_, rfl⟩
          have HQB2 := Lib.hid hqb
          try rw [show (W2).heap.size = qb from hqb.symm]
          rw [show (W2).heap.size = qb from hqb.symm] at QX
          clear hqb
          refine wpAnyH_ready (rs := [8, 9]) (by kernel_rfl) (by simp) ?_
          refine AllReadyH.cons (o := ⟨some 24, _, _, _, _, _⟩) rfl (fun K hK => ?_) (AllReadyH.cons (o := ⟨some 9, _, _, _, _, _⟩) rfl (fun K hK => ?_) AllReadyH.nil)
          · go_simp
            refine (implSearch_r A4 B4 ca4 cb4 (turnP ps rs) (turnR ps rs) t s _ hnT hmT IP4 IR4).mono ?_; rintro e W3 ⟨A5, A6, c5, c6, rfl, OA5, OA6, b3⟩
            go_wp2_with fail
            refine hK.out _ _ ?_ (fun hHeld => ?_)
            · exact LowS.under b3 hHeld
            clear hK K
            try simp only [Act.put, List.setIfInBounds_toArray, List.set_cons_zero, List.set_cons_succ]
            replace OA1 := OA1.below b3
            replace OA2 := OA2.below b3
            replace QX := QX.below b3
            clear IP4 IR4
            have H3 := Lib.hid b3.size
            clear b3
            refine wpAnyH_ready (rs := [9]) (by kernel_rfl) (by simp) ?_
            refine AllReadyH.cons (o := ⟨some 9, _, _, _, _, _⟩) rfl (fun K hK => ?_) AllReadyH.nil
            · go_simp
              refine hK.out _ _ ?_ (fun hHeld => ?_)
              · exact LowS.alloc hHeld _
              clear hK K
              try simp only [Act.put, List.setIfInBounds_toArray, List.set_cons_zero, List.set_cons_succ]
              have PX := Pair.new (W3) 42 (.slice none 0 0) (.slice none 0 0)
              have kb := below1 (W3) (.cells #[.slice none 0 0, .slice none 0 0] 42)
              replace OA1 := OA1.below kb
              replace OA2 := OA2.below kb
              replace QX := QX.below kb
              replace OA5 := OA5.below kb
              replace OA6 := OA6.below kb
              have HPB := Lib.hid (World.size_alloc (W3) (.cells #[.slice none 0 0, .slice none 0 0] 42))
              clear kb
              obtain ⟨VP, hVP⟩ : ∃ V, V = (W3).alloc (.cells #[.slice none 0 0, .slice none 0 0] 42) := ⟨_, rfl⟩
              rw [← hVP] at PX HPB OA1 OA2 QX OA5 OA6 hHeld ⊢
              clear hVP
              obtain ⟨pb, hpb⟩ : ∃ V, V = (W3).heap.size := ⟨_, rfl⟩
              have HPB2 := Lib.hid hpb
              try rw [show (W3).heap.size = pb from hpb.symm]
              rw [show (W3).heap.size = pb from hpb.symm] at PX
              clear hpb
              refine wpAnyH_ready (rs := [11]) (by kernel_rfl) (by simp) ?_
              refine AllReadyH.cons (o := ⟨none, _, _, _, _, _⟩) rfl (fun K hK => ?_) AllReadyH.nil
              · obtain ⟨z0, z1, z2, z3⟩ := PX.cells
                have NE : Hid (pb ≠ qb ∧ W0.heap.size ≤ pb ∧ (pb < DW.heap.size ∨ W1.heap.size ≤ pb) ∧ (pb < VQ.heap.size ∨ W3.heap.size ≤ pb)) := Lib.hid (by have q1 := HPB.out; have q2 := HPB2.out; have q3 := HQB.out; have q4 := HQB2.out; have q5 := H1.out; have q6 := H2.out; have q7 := H3.out; have q8 := HZ0.out; omega)
                go_simp
                clear z0 z1 z2 z3
                refine hK.out _ _ ?_ (fun hHeld => ?_)
                · exact LowS.set2 hHeld HW0.out NE.out.2.1 _ _
                clear hK K
                try simp only [Act.put, List.setIfInBounds_toArray, List.set_cons_zero, List.set_cons_succ]
                replace PX := (PX.set0 (.slice A1 (srL ps rs s t).length c1)).set1 (.slice A2 (srL ps rs s t).length c2)
                replace QX := (QX.far (c := pb) NE.out.1.symm 0 (.slice A1 (srL ps rs s t).length c1)).far (c := pb) NE.out.1.symm 1 (.slice A2 (srL ps rs s t).length c2)
                replace OA1 := (OA1.set (p := pb) NE.out.2.2.1 0 (.slice A1 (srL ps rs s t).length c1)).set (p := pb) NE.out.2.2.1 1 (.slice A2 (srL ps rs s t).length c2)
                replace OA2 := (OA2.set (p := pb) NE.out.2.2.1 0 (.slice A1 (srL ps rs s t).length c1)).set (p := pb) NE.out.2.2.1 1 (.slice A2 (srL ps rs s t).length c2)
                replace OA5 := (OA5.set (p := pb) NE.out.2.2.2 0 (.slice A1 (srL ps rs s t).length c1)).set (p := pb) NE.out.2.2.2 1 (.slice A2 (srL ps rs s t).length c2)
                replace OA6 := (OA6.set (p := pb) NE.out.2.2.2 0 (.slice A1 (srL ps rs s t).length c1)).set (p := pb) NE.out.2.2.2 1 (.slice A2 (srL ps rs s t).length c2)
                clear NE
                refine wpAnyH_ready (rs := [12]) (by kernel_rfl) (by simp) ?_
                refine AllReadyH.cons (o := ⟨none, _, _, _, _, _⟩) rfl (fun K hK => ?_) AllReadyH.nil
                · obtain ⟨z0, z1, z2, z3⟩ := QX.cells
                  have NE : Hid (pb ≠ qb ∧ W0.heap.size ≤ qb ∧ (qb < DW.heap.size ∨ W1.heap.size ≤ qb) ∧ (qb < VQ.heap.size ∨ W3.heap.size ≤ qb)) := Lib.hid (by have q1 := HPB.out; have q2 := HPB2.out; have q3 := HQB.out; have q4 := HQB2.out; have q5 := H1.out; have q6 := H2.out; have q7 := H3.out; have q8 := HZ0.out; omega)
                  go_simp
                  clear z0 z1 z2 z3
                  refine hK.out _ _ ?_ (fun hHeld => ?_)
                  · exact LowS.set2 hHeld HW0.out NE.out.2.1 _ _
                  clear hK K
                  try simp only [Act.put, List.setIfInBounds_toArray, List.set_cons_zero, List.set_cons_succ]
                  replace QX := (QX.set0 (.slice A5 (srL (turnP ps rs) (turnR ps rs) t s).length c5)).set1 (.slice A6 (srL (turnP ps rs) (turnR ps rs) t s).length c6)
                  replace PX := (PX.far (c := qb) NE.out.1 0 (.slice A5 (srL (turnP ps rs) (turnR ps rs) t s).length c5)).far (c := qb) NE.out.1 1 (.slice A6 (srL (turnP ps rs) (turnR ps rs) t s).length c6)
                  replace OA1 := (OA1.set (p := qb) NE.out.2.2.1 0 (.slice A5 (srL (turnP ps rs) (turnR ps rs) t s).length c5)).set (p := qb) NE.out.2.2.1 1 (.slice A6 (srL (turnP ps rs) (turnR ps rs) t s).length c6)
                  replace OA2 := (OA2.set (p := qb) NE.out.2.2.1 0 (.slice A5 (srL (turnP ps rs) (turnR ps rs) t s).length c5)).set (p := qb) NE.out.2.2.1 1 (.slice A6 (srL (turnP ps rs) (turnR ps rs) t s).length c6)
                  replace OA5 := (OA5.set (p := qb) NE.out.2.2.2 0 (.slice A5 (srL (turnP ps rs) (turnR ps rs) t s).length c5)).set (p := qb) NE.out.2.2.2 1 (.slice A6 (srL (turnP ps rs) (turnR ps rs) t s).length c6)
                  replace OA6 := (OA6.set (p := qb) NE.out.2.2.2 0 (.slice A5 (srL (turnP ps rs) (turnR ps rs) t s).length c5)).set (p := qb) NE.out.2.2.2 1 (.slice A6 (srL (turnP ps rs) (turnR ps rs) t s).length c6)
                  clear NE
                  refine wpAnyH_done (by kernel_rfl) ?_ _
                  go_wp2
                  go_meet
                  case rel => exact ⟨pb, qb, A1, A2, A5, A6, c1, c2, c5, c6, rfl, rfl, PX, QX, OA1.ints, OA2.ints, OA5.ints, OA6.ints, hHeld.2.2⟩
          · go_simp
            refine hK.out _ _ ?_ (fun hHeld => ?_)
            · exact LowS.alloc hHeld _
            clear hK K
            try simp only [Act.put, List.setIfInBounds_toArray, List.set_cons_zero, List.set_cons_succ]
            have PX := Pair.new (VQ) 42 (.slice none 0 0) (.slice none 0 0)
            have kb := below1 (VQ) (.cells #[.slice none 0 0, .slice none 0 0] 42)
            replace OA1 := OA1.below kb
            replace OA2 := OA2.below kb
            replace IP4 := IP4.below kb
            replace IR4 := IR4.below kb
            replace QX := QX.below kb
            have HPB := Lib.hid (World.size_alloc (VQ) (.cells #[.slice none 0 0, .slice none 0 0] 42))
            clear kb
            obtain ⟨VP, hVP⟩ : ∃ V, V = (VQ).alloc (.cells #[.slice none 0 0, .slice none 0 0] 42) := ⟨_, rfl⟩
            rw [← hVP] at PX HPB OA1 OA2 IP4 IR4 QX hHeld ⊢
            clear hVP
            obtain ⟨pb, hpb⟩ : ∃ V, V = (VQ).heap.size := ⟨_, rfl⟩
            have HPB2 := Lib.hid hpb
            try rw [show (VQ).heap.size = pb from hpb.symm]
            rw [show (VQ).heap.size = pb from hpb.symm] at PX
            clear hpb
            refine wpAnyH_ready (rs := [8]) (by kernel_rfl) (by simp) ?_
            refine AllReadyH.cons (o := ⟨some 24, _, _, _, _, _⟩) rfl (fun K hK => ?_) AllReadyH.nil
            · go_simp
              refine (implSearch_r A4 B4 ca4 cb4 (turnP ps rs) (turnR ps rs) t s _ hnT hmT IP4 IR4).mono ?_; rintro e W3 ⟨A5, A6, c5, c6, rfl, OA5, OA6, b3⟩
              go_wp2_with fail
              refine hK.out _ _ ?_ (fun hHeld => ?_)
              · exact LowS.under b3 hHeld
              clear hK K
              try simp only [Act.put, List.setIfInBounds_toArray, List.set_cons_zero, List.set_cons_succ]
              replace OA1 := OA1.below b3
              replace OA2 := OA2.below b3
              replace QX := QX.below b3
              replace PX := PX.below b3
              clear IP4 IR4
              have H3 := Lib.hid b3.size
              clear b3
              refine wpAnyH_ready (rs := [11]) (by kernel_rfl) (by simp) ?_
              refine AllReadyH.cons (o := ⟨none, _, _, _, _, _⟩) rfl (fun K hK => ?_) AllReadyH.nil
              · obtain ⟨z0, z1, z2, z3⟩ := PX.cells
                have NE : Hid (pb ≠ qb ∧ W0.heap.size ≤ pb ∧ (pb < DW.heap.size ∨ W1.heap.size ≤ pb) ∧ (pb < VP.heap.size ∨ W3.heap.size ≤ pb)) := Lib.hid (by have q1 := HPB.out; have q2 := HPB2.out; have q3 := HQB.out; have q4 := HQB2.out; have q5 := H1.out; have q6 := H2.out; have q7 := H3.out; have q8 := HZ0.out; omega)
                go_simp
                clear z0 z1 z2 z3
                refine hK.out _ _ ?_ (fun hHeld => ?_)
                · exact LowS.set2 hHeld HW0.out NE.out.2.1 _ _
                clear hK K
                try simp only [Act.put, List.setIfInBounds_toArray, List.set_cons_zero, List.set_cons_succ]
                replace PX := (PX.set0 (.slice A1 (srL ps rs s t).length c1)).set1 (.slice A2 (srL ps rs s t).length c2)
                replace QX := (QX.far (c := pb) NE.out.1.symm 0 (.slice A1 (srL ps rs s t).length c1)).far (c := pb) NE.out.1.symm 1 (.slice A2 (srL ps rs s t).length c2)
                replace OA1 := (OA1.set (p := pb) NE.out.2.2.1 0 (.slice A1 (srL ps rs s t).length c1)).set (p := pb) NE.out.2.2.1 1 (.slice A2 (srL ps rs s t).length c2)
                replace OA2 := (OA2.set (p := pb) NE.out.2.2.1 0 (.slice A1 (srL ps rs s t).length c1)).set (p := pb) NE.out.2.2.1 1 (.slice A2 (srL ps rs s t).length c2)
                replace OA5 := (OA5.set (p := pb) NE.out.2.2.2 0 (.slice A1 (srL ps rs s t).length c1)).set (p := pb) NE.out.2.2.2 1 (.slice A2 (srL ps rs s t).length c2)
                replace OA6 := (OA6.set (p := pb) NE.out.2.2.2 0 (.slice A1 (srL ps rs s t).length c1)).set (p := pb) NE.out.2.2.2 1 (.slice A2 (srL ps rs s t).length c2)
                clear NE
                refine wpAnyH_ready (rs := [12]) (by kernel_rfl) (by simp) ?_
                refine AllReadyH.cons (o := ⟨none, _, _, _, _, _⟩) rfl (fun K hK => ?_) AllReadyH.nil
                · obtain ⟨z0, z1, z2, z3⟩ := QX.cells
                  have NE : Hid (pb ≠ qb ∧ W0.heap.size ≤ qb ∧ (qb < DW.heap.size ∨ W1.heap.size ≤ qb) ∧ (qb < VP.heap.size ∨ W3.heap.size ≤ qb)) := Lib.hid (by have q1 := HPB.out; have q2 := HPB2.out; have q3 := HQB.out; have q4 := HQB2.out; have q5 := H1.out; have q6 := H2.out; have q7 := H3.out; have q8 := HZ0.out; omega)
                  go_simp
                  clear z0 z1 z2 z3
                  refine hK.out _ _ ?_ (fun hHeld => ?_)
                  · exact LowS.set2 hHeld HW0.out NE.out.2.1 _ _
                  clear hK K
                  try simp only [Act.put, List.setIfInBounds_toArray, List.set_cons_zero, List.set_cons_succ]
                  replace QX := (QX.set0 (.slice A5 (srL (turnP ps rs) (turnR ps rs) t s).length c5)).set1 (.slice A6 (srL (turnP ps rs) (turnR ps rs) t s).length c6)
                  replace PX := (PX.far (c := qb) NE.out.1 0 (.slice A5 (srL (turnP ps rs) (turnR ps rs) t s).length c5)).far (c := qb) NE.out.1 1 (.slice A6 (srL (turnP ps rs) (turnR ps rs) t s).length c6)
                  replace OA1 := (OA1.set (p := qb) NE.out.2.2.1 0 (.slice A5 (srL (turnP ps rs) (turnR ps rs) t s).length c5)).set (p := qb) NE.out.2.2.1 1 (.slice A6 (srL (turnP ps rs) (turnR ps rs) t s).length c6)
                  replace OA2 := (OA2.set (p := qb) NE.out.2.2.1 0 (.slice A5 (srL (turnP ps rs) (turnR ps rs) t s).length c5)).set (p := qb) NE.out.2.2.1 1 (.slice A6 (srL (turnP ps rs) (turnR ps rs) t s).length c6)
                  replace OA5 := (OA5.set (p := qb) NE.out.2.2.2 0 (.slice A5 (srL (turnP ps rs) (turnR ps rs) t s).length c5)).set (p := qb) NE.out.2.2.2 1 (.slice A6 (srL (turnP ps rs) (turnR ps rs) t s).length c6)
                  replace OA6 := (OA6.set (p := qb) NE.out.2.2.2 0 (.slice A5 (srL (turnP ps rs) (turnR ps rs) t s).length c5)).set (p := qb) NE.out.2.2.2 1 (.slice A6 (srL (turnP ps rs) (turnR ps rs) t s).length c6)
                  clear NE
                  refine wpAnyH_done (by kernel_rfl) ?_ _
                  go_wp2
                  go_meet
                  case rel => exact ⟨pb, qb, A1, A2, A5, A6, c1, c2, c5, c6, rfl, rfl, PX, QX, OA1.ints, OA2.ints, OA5.ints, OA6.ints, hHeld.2.2⟩
      · go_simp
        refine hK.out _ _ ?_ (fun hHeld => ?_)
        · exact LowS.alloc hHeld _
        clear hK K
        try simp only [Act.put, List.setIfInBounds_toArray, List.set_cons_zero, List.set_cons_succ]
        have PX := Pair.new (W1) 42 (.slice none 0 0) (.slice none 0 0)
        have kb := below1 (W1) (.cells #[.slice none 0 0, .slice none 0 0] 42)
        replace OA1 := OA1.below kb
        replace OA2 := OA2.below kb
        have HPB := Lib.hid (World.size_alloc (W1) (.cells #[.slice none 0 0, .slice none 0 0] 42))
        clear kb
        obtain ⟨VP, hVP⟩ : ∃ V, V = (W1).alloc (.cells #[.slice none 0 0, .slice none 0 0] 42) := ⟨_, rfl⟩
        rw [← hVP] at PX HPB OA1 OA2 hHeld ⊢
        clear hVP
        obtain ⟨pb, hpb⟩ : ∃ V, V = (W1).heap.size := ⟨_, rfl⟩
        have HPB2 := Lib.hid hpb
        try rw [show (W1).heap.size = pb from hpb.symm]
        rw [show (W1).heap.size = pb from hpb.symm] at PX
        clear hpb
        refine wpAnyH_ready (rs := [5, 10]) (by kernel_rfl) (by simp) ?_
        refine AllReadyH.cons (o := ⟨some 21, _, _, _, _, _⟩) rfl (fun K hK => ?_) (AllReadyH.cons (o := ⟨some 10, _, _, _, _, _⟩) rfl (fun K hK => ?_) AllReadyH.nil)
        · go_simp
          refine (implTurned_any ad B ca cb ps rs _ hn hm (HP.out _ hHeld.2.2) (HB.out _ hHeld.2.2)).mono ?_; rintro e W2 ⟨A4, B4, ca4, cb4, rfl, OP4, OR4, -, b2⟩
          go_wp2_with fail
          refine hK.out _ _ ?_ (fun hHeld => ?_)
          · exact LowS.under b2 hHeld
          clear hK K
          try simp only [Act.put, List.setIfInBounds_toArray, List.set_cons_zero, List.set_cons_succ]
          replace OA1 := OA1.below b2
          replace OA2 := OA2.below b2
          replace PX := PX.below b2
          have IP4 := own_pts OP4
          have IR4 := own_arcs OR4
          clear OP4 OR4
          have H2 := Lib.hid b2.size
          clear b2
          refine wpAnyH_ready (rs := [8, 10]) (by kernel_rfl) (by simp) ?_
          refine AllReadyH.cons (o := ⟨some 24, _, _, _, _, _⟩) rfl (fun K hK => ?_) (AllReadyH.cons (o := ⟨some 10, _, _, _, _, _⟩) rfl (fun K hK => ?_) AllReadyH.nil)
          · go_simp
            refine (implSearch_r A4 B4 ca4 cb4 (turnP ps rs) (turnR ps rs) t s _ hnT hmT IP4 IR4).mono ?_; rintro e W3 ⟨A5, A6, c5, c6, rfl, OA5, OA6, b3⟩
            go_wp2_with fail
            refine hK.out _ _ ?_ (fun hHeld => ?_)
            · exact LowS.under b3 hHeld
            clear hK K
            try simp only [Act.put, List.setIfInBounds_toArray, List.set_cons_zero, List.set_cons_succ]
            replace OA1 := OA1.below b3
            replace OA2 := OA2.below b3
            replace PX := PX.below b3
            clear IP4 IR4
            have H3 := Lib.hid b3.size
            clear b3
            refine wpAnyH_ready (rs := [10]) (by kernel_rfl) (by simp) ?_
            refine AllReadyH.cons (o := ⟨some 10, _, _, _, _, _⟩) rfl (fun K hK => ?_) AllReadyH.nil
            · go_simp
              refine hK.out _ _ ?_ (fun hHeld => ?_)
              · exact LowS.alloc hHeld _
              clear hK K
              try simp only [Act.put, List.setIfInBounds_toArray, List.set_cons_zero, List.set_cons_succ]
              have QX := Pair.new (W3) 42 (.slice none 0 0) (.slice none 0 0)
              have kb := below1 (W3) (.cells #[.slice none 0 0, .slice none 0 0] 42)
              replace OA1 := OA1.below kb
              replace OA2 := OA2.below kb
              replace PX := PX.below kb
              replace OA5 := OA5.below kb
              replace OA6 := OA6.below kb
              have HQB := Lib.hid (World.size_alloc (W3) (.cells #[.slice none 0 0, .slice none 0 0] 42))
              clear kb
              obtain ⟨VQ, hVQ⟩ : ∃ V, V = (W3).alloc (.cells #[.slice none 0 0, .slice none 0 0] 42) := ⟨_, rfl⟩
              rw [← hVQ] at QX HQB OA1 OA2 PX OA5 OA6 hHeld ⊢
              clear hVQ
              obtain ⟨qb, hqb⟩ : ∃ V, V = (W3).heap.size := ⟨_, rfl⟩
              have HQB2 := Lib.hid hqb
              try rw [show (W3).heap.size = qb from hqb.symm]
              rw [show (W3).heap.size = qb from hqb.symm] at QX
              clear hqb
              refine wpAnyH_ready (rs := [11]) (by kernel_rfl) (by simp) ?_
              refine AllReadyH.cons (o := ⟨none, _, _, _, _, _⟩) rfl (fun K hK => ?_) AllReadyH.nil
              · obtain ⟨z0, z1, z2, z3⟩ := PX.cells
                have NE : Hid (pb ≠ qb ∧ W0.heap.size ≤ pb ∧ (pb < DW.heap.size ∨ W1.heap.size ≤ pb) ∧ (pb < W2.heap.size ∨ W3.heap.size ≤ pb)) := Lib.hid (by have q1 := HPB.out; have q2 := HPB2.out; have q3 := HQB.out; have q4 := HQB2.out; have q5 := H1.out; have q6 := H2.out; have q7 := H3.out; have q8 := HZ0.out; omega)
                go_simp
                clear z0 z1 z2 z3
                refine hK.out _ _ ?_ (fun hHeld => ?_)
                · exact LowS.set2 hHeld HW0.out NE.out.2.1 _ _
                clear hK K
                try simp only [Act.put, List.setIfInBounds_toArray, List.set_cons_zero, List.set_cons_succ]
                replace PX := (PX.set0 (.slice A1 (srL ps rs s t).length c1)).set1 (.slice A2 (srL ps rs s t).length c2)
                replace QX := (QX.far (c := pb) NE.out.1.symm 0 (.slice A1 (srL ps rs s t).length c1)).far (c := pb) NE.out.1.symm 1 (.slice A2 (srL ps rs s t).length c2)
                replace OA1 := (OA1.set (p := pb) NE.out.2.2.1 0 (.slice A1 (srL ps rs s t).length c1)).set (p := pb) NE.out.2.2.1 1 (.slice A2 (srL ps rs s t).length c2)
                replace OA2 := (OA2.set (p := pb) NE.out.2.2.1 0 (.slice A1 (srL ps rs s t).length c1)).set (p := pb) NE.out.2.2.1 1 (.slice A2 (srL ps rs s t).length c2)
                replace OA5 := (OA5.set (p := pb) NE.out.2.2.2 0 (.slice A1 (srL ps rs s t).length c1)).set (p := pb) NE.out.2.2.2 1 (.slice A2 (srL ps rs s t).length c2)
                replace OA6 := (OA6.set (p := pb) NE.out.2.2.2 0 (.slice A1 (srL ps rs s t).length c1)).set (p := pb) NE.out.2.2.2 1 (.slice A2 (srL ps rs s t).length c2)
                clear NE
                refine wpAnyH_ready (rs := [12]) (by kernel_rfl) (by simp) ?_
                refine AllReadyH.cons (o := ⟨none, _, _, _, _, _⟩) rfl (fun K hK => ?_) AllReadyH.nil
                · obtain ⟨z0, z1, z2, z3⟩ := QX.cells
                  have NE : Hid (pb ≠ qb ∧ W0.heap.size ≤ qb ∧ (qb < DW.heap.size ∨ W1.heap.size ≤ qb) ∧ (qb < W2.heap.size ∨ W3.heap.size ≤ qb)) := Lib.hid (by have q1 := HPB.out; have q2 := HPB2.out; have q3 := HQB.out; have q4 := HQB2.out; have q5 := H1.out; have q6 := H2.out; have q7 := H3.out; have q8 := HZ0.out; omega)
                  go_simp
                  clear z0 z1 z2 z3
                  refine hK.out _ _ ?_ (fun hHeld => ?_)
                  · exact LowS.set2 hHeld HW0.out NE.out.2.1 _ _
                  clear hK K
                  try simp only [Act.put, List.setIfInBounds_toArray, List.set_cons_zero, List.set_cons_succ]
                  replace QX := (QX.set0 (.slice A5 (srL (turnP ps rs) (turnR ps rs) t s).length c5)).set1 (.slice A6 (srL (turnP ps rs) (turnR ps rs) t s).length c6)
                  replace PX := (PX.far (c := qb) NE.out.1 0 (.slice A5 (srL (turnP ps rs) (turnR ps rs) t s).length c5)).far (c := qb) NE.out.1 1 (.slice A6 (srL (turnP ps rs) (turnR ps rs) t s).length c6)
                  replace OA1 := (OA1.set (p := qb) NE.out.2.2.1 0 (.slice A5 (srL (turnP ps rs) (turnR ps rs) t s).length c5)).set (p := qb) NE.out.2.2.1 1 (.slice A6 (srL (turnP ps rs) (turnR ps rs) t s).length c6)
                  replace OA2 := (OA2.set (p := qb) NE.out.2.2.1 0 (.slice A5 (srL (turnP ps rs) (turnR ps rs) t s).length c5)).set (p := qb) NE.out.2.2.1 1 (.slice A6 (srL (turnP ps rs) (turnR ps rs) t s).length c6)
                  replace OA5 := (OA5.set (p := qb) NE.out.2.2.2 0 (.slice A5 (srL (turnP ps rs) (turnR ps rs) t s).length c5)).set (p := qb) NE.out.2.2.2 1 (.slice A6 (srL (turnP ps rs) (turnR ps rs) t s).length c6)
                  replace OA6 := (OA6.set (p := qb) NE.out.2.2.2 0 (.slice A5 (srL (turnP ps rs) (turnR ps rs) t s).length c5)).set (p := qb) NE.out.2.2.2 1 (.slice A6 (srL (turnP ps rs) (turnR ps rs) t s).length c6)
                  clear NE
                  refine wpAnyH_done (by kernel_rfl) ?_ _
                  go_wp2
                  go_meet
                  case rel => exact ⟨pb, qb, A1, A2, A5, A6, c1, c2, c5, c6, rfl, rfl, PX, QX, OA1.ints, OA2.ints, OA5.ints, OA6.ints, hHeld.2.2⟩
          · go_simp
            refine hK.out _ _ ?_ (fun hHeld => ?_)
            · exact LowS.alloc hHeld _
            clear hK K
            try simp only [Act.put, List.setIfInBounds_toArray, List.set_cons_zero, List.set_cons_succ]
            have QX := Pair.new (W2) 42 (.slice none 0 0) (.slice none 0 0)
            have kb := below1 (W2) (.cells #[.slice none 0 0, .slice none 0 0] 42)
            replace OA1 := OA1.below kb
            replace OA2 := OA2.below kb
            replace PX := PX.below kb
            replace IP4 := IP4.below kb
            replace IR4 := IR4.below kb
            have HQB := Lib.hid (World.size_alloc (W2) (.cells #[.slice none 0 0, .slice none 0 0] 42))
            clear kb
            obtain ⟨VQ, hVQ⟩ : ∃ V, V = (W2).alloc (.cells #[.slice none 0 0, .slice none 0 0] 42) := ⟨_, rfl⟩
            rw [← hVQ] at QX HQB OA1 OA2 PX IP4 IR4 hHeld ⊢
            clear hVQ
            obtain ⟨qb, hqb⟩ : ∃ V, V = (W2).heap.size := ⟨_, rfl⟩
            have HQB2 := Lib.hid hqb
            try rw [show (W2).heap.size = qb from hqb.symm]
            rw [show (W2).heap.size = qb from hqb.symm] at QX
            clear hqb
            refine wpAnyH_ready (rs := [8]) (by kernel_rfl) (by simp) ?_
            refine AllReadyH.cons (o := ⟨some 24, _, _, _, _, _⟩) rfl (fun K hK => ?_) AllReadyH.nil
            · go_simp
              refine (implSearch_r A4 B4 ca4 cb4 (turnP ps rs) (turnR ps rs) t s _ hnT hmT IP4 IR4).mono ?_; rintro e W3 ⟨A5, A6, c5, c6, rfl, OA5, OA6, b3⟩
              go_wp2_with fail
              refine hK.out _ _ ?_ (fun hHeld => ?_)
              · exact LowS.under b3 hHeld
              clear hK K
              try simp only [Act.put, List.setIfInBounds_toArray, List.set_cons_zero, List.set_cons_succ]
              replace OA1 := OA1.below b3
              replace OA2 := OA2.below b3
              replace PX := PX.below b3
              replace QX := QX.below b3
              clear IP4 IR4
              have H3 := Lib.hid b3.size
              clear b3
              refine wpAnyH_ready (rs := [11]) (by kernel_rfl) (by simp) ?_
              refine AllReadyH.cons (o := ⟨none, _, _, _, _, _⟩) rfl (fun K hK => ?_) AllReadyH.nil
              · obtain ⟨z0, z1, z2, z3⟩ := PX.cells
                have NE : Hid (pb ≠ qb ∧ W0.heap.size ≤ pb ∧ (pb < DW.heap.size ∨ W1.heap.size ≤ pb) ∧ (pb < VQ.heap.size ∨ W3.heap.size ≤ pb)) := Lib.hid (by have q1 := HPB.out; have q2 := HPB2.out; have q3 := HQB.out; have q4 := HQB2.out; have q5 := H1.out; have q6 := H2.out; have q7 := H3.out; have q8 := HZ0.out; omega)
                go_simp
                clear z0 z1 z2 z3
                refine hK.out _ _ ?_ (fun hHeld => ?_)
                · exact LowS.set2 hHeld HW0.out NE.out.2.1 _ _
                clear hK K
                try simp only [Act.put, List.setIfInBounds_toArray, List.set_cons_zero, List.set_cons_succ]
                replace PX := (PX.set0 (.slice A1 (srL ps rs s t).length c1)).set1 (.slice A2 (srL ps rs s t).length c2)
                replace QX := (QX.far (c := pb) NE.out.1.symm 0 (.slice A1 (srL ps rs s t).length c1)).far (c := pb) NE.out.1.symm 1 (.slice A2 (srL ps rs s t).length c2)
                replace OA1 := (OA1.set (p := pb) NE.out.2.2.1 0 (.slice A1 (srL ps rs s t).length c1)).set (p := pb) NE.out.2.2.1 1 (.slice A2 (srL ps rs s t).length c2)
                replace OA2 := (OA2.set (p := pb) NE.out.2.2.1 0 (.slice A1 (srL ps rs s t).length c1)).set (p := pb) NE.out.2.2.1 1 (.slice A2 (srL ps rs s t).length c2)
                replace OA5 := (OA5.set (p := pb) NE.out.2.2.2 0 (.slice A1 (srL ps rs s t).length c1)).set (p := pb) NE.out.2.2.2 1 (.slice A2 (srL ps rs s t).length c2)
                replace OA6 := (OA6.set (p := pb) NE.out.2.2.2 0 (.slice A1 (srL ps rs s t).length c1)).set (p := pb) NE.out.2.2.2 1 (.slice A2 (srL ps rs s t).length c2)
                clear NE
                refine wpAnyH_ready (rs := [12]) (by kernel_rfl) (by simp) ?_
                refine AllReadyH.cons (o := ⟨none, _, _, _, _, _⟩) rfl (fun K hK => ?_) AllReadyH.nil
                · obtain ⟨z0, z1, z2, z3⟩ := QX.cells
                  have NE : Hid (pb ≠ qb ∧ W0.heap.size ≤ qb ∧ (qb < DW.heap.size ∨ W1.heap.size ≤ qb) ∧ (qb < VQ.heap.size ∨ W3.heap.size ≤ qb)) := Lib.hid (by have q1 := HPB.out; have q2 := HPB2.out; have q3 := HQB.out; have q4 := HQB2.out; have q5 := H1.out; have q6 := H2.out; have q7 := H3.out; have q8 := HZ0.out; omega)
                  go_simp
                  clear z0 z1 z2 z3
                  refine hK.out _ _ ?_ (fun hHeld => ?_)
                  · exact LowS.set2 hHeld HW0.out NE.out.2.1 _ _
                  clear hK K
                  try simp only [Act.put, List.setIfInBounds_toArray, List.set_cons_zero, List.set_cons_succ]
                  replace QX := (QX.set0 (.slice A5 (srL (turnP ps rs) (turnR ps rs) t s).length c5)).set1 (.slice A6 (srL (turnP ps rs) (turnR ps rs) t s).length c6)
                  replace PX := (PX.far (c := qb) NE.out.1 0 (.slice A5 (srL (turnP ps rs) (turnR ps rs) t s).length c5)).far (c := qb) NE.out.1 1 (.slice A6 (srL (turnP ps rs) (turnR ps rs) t s).length c6)
                  replace OA1 := (OA1.set (p := qb) NE.out.2.2.1 0 (.slice A5 (srL (turnP ps rs) (turnR ps rs) t s).length c5)).set (p := qb) NE.out.2.2.1 1 (.slice A6 (srL (turnP ps rs) (turnR ps rs) t s).length c6)
                  replace OA2 := (OA2.set (p := qb) NE.out.2.2.1 0 (.slice A5 (srL (turnP ps rs) (turnR ps rs) t s).length c5)).set (p := qb) NE.out.2.2.1 1 (.slice A6 (srL (turnP ps rs) (turnR ps rs) t s).length c6)
                  replace OA5 := (OA5.set (p := qb) NE.out.2.2.2 0 (.slice A5 (srL (turnP ps rs) (turnR ps rs) t s).length c5)).set (p := qb) NE.out.2.2.2 1 (.slice A6 (srL (turnP ps rs) (turnR ps rs) t s).length c6)
                  replace OA6 := (OA6.set (p := qb) NE.out.2.2.2 0 (.slice A5 (srL (turnP ps rs) (turnR ps rs) t s).length c5)).set (p := qb) NE.out.2.2.2 1 (.slice A6 (srL (turnP ps rs) (turnR ps rs) t s).length c6)
                  clear NE
                  refine wpAnyH_done (by kernel_rfl) ?_ _
                  go_wp2
                  go_meet
                  case rel => exact ⟨pb, qb, A1, A2, A5, A6, c1, c2, c5, c6, rfl, rfl, PX, QX, OA1.ints, OA2.ints, OA5.ints, OA6.ints, hHeld.2.2⟩
        · go_simp
          refine hK.out _ _ ?_ (fun hHeld => ?_)
          · exact LowS.alloc hHeld _
          clear hK K
          try simp only [Act.put, List.setIfInBounds_toArray, List.set_cons_zero, List.set_cons_succ]
          have QX := Pair.new (VP) 42 (.slice none 0 0) (.slice none 0 0)
          have kb := below1 (VP) (.cells #[.slice none 0 0, .slice none 0 0] 42)
          replace OA1 := OA1.below kb
          replace OA2 := OA2.below kb
          replace PX := PX.below kb
          have HQB := Lib.hid (World.size_alloc (VP) (.cells #[.slice none 0 0, .slice none 0 0] 42))
          clear kb
          obtain ⟨VQ, hVQ⟩ : ∃ V, V = (VP).alloc (.cells #[.slice none 0 0, .slice none 0 0] 42) := ⟨_, rfl⟩
          rw [← hVQ] at QX HQB OA1 OA2 PX hHeld ⊢
          clear hVQ
          obtain ⟨qb, hqb⟩ : ∃ V, V = (VP).heap.size := ⟨_, rfl⟩
          have HQB2 := Lib.hid hqb
          try rw [show (VP).heap.size = qb from hqb.symm]
          rw [show (VP).heap.size = qb from hqb.symm] at QX
          clear hqb
          refine wpAnyH_ready (rs := [5]) (by kernel_rfl) (by simp) ?_
          refine AllReadyH.cons (o := ⟨some 21, _, _, _, _, _⟩) rfl (fun K hK => ?_) AllReadyH.nil
          · go_simp
            refine (implTurned_any ad B ca cb ps rs _ hn hm (HP.out _ hHeld.2.2) (HB.out _ hHeld.2.2)).mono ?_; rintro e W2 ⟨A4, B4, ca4, cb4, rfl, OP4, OR4, -, b2⟩
            go_wp2_with fail
            refine hK.out _ _ ?_ (fun hHeld => ?_)
            · exact LowS.under b2 hHeld
            clear hK K
            try simp only [Act.put, List.setIfInBounds_toArray, List.set_cons_zero, List.set_cons_succ]
            replace OA1 := OA1.below b2
            replace OA2 := OA2.below b2
            replace PX := PX.below b2
            replace QX := QX.below b2
            have IP4 := own_pts OP4
            have IR4 := own_arcs OR4
            clear OP4 OR4
            have H2 := Lib.hid b2.size
            clear b2
            refine wpAnyH_ready (rs := [8]) (by kernel_rfl) (by simp) ?_
            refine AllReadyH.cons (o := ⟨some 24, _, _, _, _, _⟩) rfl (fun K hK => ?_) AllReadyH.nil
            · go_simp
              refine (implSearch_r A4 B4 ca4 cb4 (turnP ps rs) (turnR ps rs) t s _ hnT hmT IP4 IR4).mono ?_; rintro e W3 ⟨A5, A6, c5, c6, rfl, OA5, OA6, b3⟩
              go_wp2_with fail
              refine hK.out _ _ ?_ (fun hHeld => ?_)
              · exact LowS.under b3 hHeld
              clear hK K
              try simp only [Act.put, List.setIfInBounds_toArray, List.set_cons_zero, List.set_cons_succ]
              replace OA1 := OA1.below b3
              replace OA2 := OA2.below b3
              replace PX := PX.below b3
              replace QX := QX.below b3
              clear IP4 IR4
              have H3 := Lib.hid b3.size
              clear b3
              refine wpAnyH_ready (rs := [11]) (by kernel_rfl) (by simp) ?_
              refine AllReadyH.cons (o := ⟨none, _, _, _, _, _⟩) rfl (fun K hK => ?_) AllReadyH.nil
              · obtain ⟨z0, z1, z2, z3⟩ := PX.cells
                have NE : Hid (pb ≠ qb ∧ W0.heap.size ≤ pb ∧ (pb < DW.heap.size ∨ W1.heap.size ≤ pb) ∧ (pb < W2.heap.size ∨ W3.heap.size ≤ pb)) := Lib.hid (by have q1 := HPB.out; have q2 := HPB2.out; have q3 := HQB.out; have q4 := HQB2.out; have q5 := H1.out; have q6 := H2.out; have q7 := H3.out; have q8 := HZ0.out; omega)
                go_simp
                clear z0 z1 z2 z3
                refine hK.out _ _ ?_ (fun hHeld => ?_)
                · exact LowS.set2 hHeld HW0.out NE.out.2.1 _ _
                clear hK K
                try simp only [Act.put, List.setIfInBounds_toArray, List.set_cons_zero, List.set_cons_succ]
                replace PX := (PX.set0 (.slice A1 (srL ps rs s t).length c1)).set1 (.slice A2 (srL ps rs s t).length c2)
                replace QX := (QX.far (c := pb) NE.out.1.symm 0 (.slice A1 (srL ps rs s t).length c1)).far (c := pb) NE.out.1.symm 1 (.slice A2 (srL ps rs s t).length c2)
                replace OA1 := (OA1.set (p := pb) NE.out.2.2.1 0 (.slice A1 (srL ps rs s t).length c1)).set (p := pb) NE.out.2.2.1 1 (.slice A2 (srL ps rs s t).length c2)
                replace OA2 := (OA2.set (p := pb) NE.out.2.2.1 0 (.slice A1 (srL ps rs s t).length c1)).set (p := pb) NE.out.2.2.1 1 (.slice A2 (srL ps rs s t).length c2)
                replace OA5 := (OA5.set (p := pb) NE.out.2.2.2 0 (.slice A1 (srL ps rs s t).length c1)).set (p := pb) NE.out.2.2.2 1 (.slice A2 (srL ps rs s t).length c2)
                replace OA6 := (OA6.set (p := pb) NE.out.2.2.2 0 (.slice A1 (srL ps rs s t).length c1)).set (p := pb) NE.out.2.2.2 1 (.slice A2 (srL ps rs s t).length c2)
                clear NE
                refine wpAnyH_ready (rs := [12]) (by kernel_rfl) (by simp) ?_
                refine AllReadyH.cons (o := ⟨none, _, _, _, _, _⟩) rfl (fun K hK => ?_) AllReadyH.nil
                · obtain ⟨z0, z1, z2, z3⟩ := QX.cells
                  have NE : Hid (pb ≠ qb ∧ W0.heap.size ≤ qb ∧ (qb < DW.heap.size ∨ W1.heap.size ≤ qb) ∧ (qb < W2.heap.size ∨ W3.heap.size ≤ qb)) := Lib.hid (by have q1 := HPB.out; have q2 := HPB2.out; have q3 := HQB.out; have q4 := HQB2.out; have q5 := H1.out; have q6 := H2.out; have q7 := H3.out; have q8 := HZ0.out; omega)
                  go_simp
                  clear z0 z1 z2 z3
                  refine hK.out _ _ ?_ (fun hHeld => ?_)
                  · exact LowS.set2 hHeld HW0.out NE.out.2.1 _ _
                  clear hK K
                  try simp only [Act.put, List.setIfInBounds_toArray, List.set_cons_zero, List.set_cons_succ]
                  replace QX := (QX.set0 (.slice A5 (srL (turnP ps rs) (turnR ps rs) t s).length c5)).set1 (.slice A6 (srL (turnP ps rs) (turnR ps rs) t s).length c6)
                  replace PX := (PX.far (c := qb) NE.out.1 0 (.slice A5 (srL (turnP ps rs) (turnR ps rs) t s).length c5)).far (c := qb) NE.out.1 1 (.slice A6 (srL (turnP ps rs) (turnR ps rs) t s).length c6)
                  replace OA1 := (OA1.set (p := qb) NE.out.2.2.1 0 (.slice A5 (srL (turnP ps rs) (turnR ps rs) t s).length c5)).set (p := qb) NE.out.2.2.1 1 (.slice A6 (srL (turnP ps rs) (turnR ps rs) t s).length c6)
                  replace OA2 := (OA2.set (p := qb) NE.out.2.2.1 0 (.slice A5 (srL (turnP ps rs) (turnR ps rs) t s).length c5)).set (p := qb) NE.out.2.2.1 1 (.slice A6 (srL (turnP ps rs) (turnR ps rs) t s).length c6)
                  replace OA5 := (OA5.set (p := qb) NE.out.2.2.2 0 (.slice A5 (srL (turnP ps rs) (turnR ps rs) t s).length c5)).set (p := qb) NE.out.2.2.2 1 (.slice A6 (srL (turnP ps rs) (turnR ps rs) t s).length c6)
                  replace OA6 := (OA6.set (p := qb) NE.out.2.2.2 0 (.slice A5 (srL (turnP ps rs) (turnR ps rs) t s).length c5)).set (p := qb) NE.out.2.2.2 1 (.slice A6 (srL (turnP ps rs) (turnR ps rs) t s).length c6)
                  clear NE
                  refine wpAnyH_done (by kernel_rfl) ?_ _
                  go_wp2
                  go_meet
                  case rel => exact ⟨pb, qb, A1, A2, A5, A6, c1, c2, c5, c6, rfl, rfl, PX, QX, OA1.ints, OA2.ints, OA5.ints, OA6.ints, hHeld.2.2⟩
      · go_simp
        refine hK.out _ _ ?_ (fun hHeld => ?_)
        · exact LowS.alloc hHeld _
        clear hK K
        try simp only [Act.put, List.setIfInBounds_toArray, List.set_cons_zero, List.set_cons_succ]
        have QX := Pair.new (W1) 42 (.slice none 0 0) (.slice none 0 0)
        have kb := below1 (W1) (.cells #[.slice none 0 0, .slice none 0 0] 42)
        replace OA1 := OA1.below kb
        replace OA2 := OA2.below kb
        have HQB := Lib.hid (World.size_alloc (W1) (.cells #[.slice none 0 0, .slice none 0 0] 42))
        clear kb
        obtain ⟨VQ, hVQ⟩ : ∃ V, V = (W1).alloc (.cells #[.slice none 0 0, .slice none 0 0] 42) := ⟨_, rfl⟩
        rw [← hVQ] at QX HQB OA1 OA2 hHeld ⊢
        clear hVQ
        obtain ⟨qb, hqb⟩ : ∃ V, V = (W1).heap.size := ⟨_, rfl⟩
        have HQB2 := Lib.hid hqb
        try rw [show (W1).heap.size = qb from hqb.symm]
        rw [show (W1).heap.size = qb from hqb.symm] at QX
        clear hqb
        refine wpAnyH_ready (rs := [5, 9]) (by kernel_rfl) (by simp) ?_
        refine AllReadyH.cons (o := ⟨some 21, _, _, _, _, _⟩) rfl (fun K hK => ?_) (AllReadyH.cons (o := ⟨some 9, _, _, _, _, _⟩) rfl (fun K hK => ?_) AllReadyH.nil)
        · go_simp
          refine (implTurned_any ad B ca cb ps rs _ hn hm (HP.out _ hHeld.2.2) (HB.out _ hHeld.2.2)).mono ?_; rintro e W2 ⟨A4, B4, ca4, cb4, rfl, OP4, OR4, -, b2⟩
          go_wp2_with fail
          refine hK.out _ _ ?_ (fun hHeld => ?_)
          · exact LowS.under b2 hHeld
          clear hK K
          try simp only [Act.put, List.setIfInBounds_toArray, List.set_cons_zero, List.set_cons_succ]
          replace OA1 := OA1.below b2
          replace OA2 := OA2.below b2
          replace QX := QX.below b2
          have IP4 := own_pts OP4
          have IR4 := own_arcs OR4
          clear OP4 OR4
          have H2 := Lib.hid b2.size
          clear b2
          refine wpAnyH_ready (rs := [8, 9]) (by kernel_rfl) (by simp) ?_
          refine AllReadyH.cons (o := ⟨some 24, _, _, _, _, _⟩) rfl (fun K hK => ?_) (AllReadyH.cons (o := ⟨some 9, _, _, _, _, _⟩) rfl (fun K hK => ?_) AllReadyH.nil)
          · go_simp
            refine (implSearch_r A4 B4 ca4 cb4 (turnP ps rs) (turnR ps rs) t s _ hnT hmT IP4 IR4).mono ?_; rintro e W3 ⟨A5, A6, c5, c6, rfl, OA5, OA6, b3⟩
            go_wp2_with fail
            refine hK.out _ _ ?_ (fun hHeld => ?_)
            · exact LowS.under b3 hHeld
            clear hK K
            try simp only [Act.put, List.setIfInBounds_toArray, List.set_cons_zero, List.set_cons_succ]
            replace OA1 := OA1.below b3
            replace OA2 := OA2.below b3
            replace QX := QX.below b3
            clear IP4 IR4
            have H3 := Lib.hid b3.size
            clear b3
            refine wpAnyH_ready (rs := [9]) (by kernel_rfl) (by simp) ?_
            refine AllReadyH.cons (o := ⟨some 9, _, _, _, _, _⟩) rfl (fun K hK => ?_) AllReadyH.nil
            · go_simp
              refine hK.out _ _ ?_ (fun hHeld => ?_)
              · exact LowS.alloc hHeld _
              clear hK K
              try simp only [Act.put, List.setIfInBounds_toArray, List.set_cons_zero, List.set_cons_succ]
              have PX := Pair.new (W3) 42 (.slice none 0 0) (.slice none 0 0)
              have kb := below1 (W3) (.cells #[.slice none 0 0, .slice none 0 0] 42)
              replace OA1 := OA1.below kb
              replace OA2 := OA2.below kb
              replace QX := QX.below kb
              replace OA5 := OA5.below kb
              replace OA6 := OA6.below kb
              have HPB := Lib.hid (World.size_alloc (W3) (.cells #[.slice none 0 0, .slice none 0 0] 42))
              clear kb
              obtain ⟨VP, hVP⟩ : ∃ V, V = (W3).alloc (.cells #[.slice none 0 0, .slice none 0 0] 42) := ⟨_, rfl⟩
              rw [← hVP] at PX HPB OA1 OA2 QX OA5 OA6 hHeld ⊢
              clear hVP
              obtain ⟨pb, hpb⟩ : ∃ V, V = (W3).heap.size := ⟨_, rfl⟩
              have HPB2 := Lib.hid hpb
              try rw [show (W3).heap.size = pb from hpb.symm]
              rw [show (W3).heap.size = pb from hpb.symm] at PX
              clear hpb
              refine wpAnyH_ready (rs := [11]) (by kernel_rfl) (by simp) ?_
              refine AllReadyH.cons (o := ⟨none, _, _, _, _, _⟩) rfl (fun K hK => ?_) AllReadyH.nil
              · obtain ⟨z0, z1, z2, z3⟩ := PX.cells
                have NE : Hid (pb ≠ qb ∧ W0.heap.size ≤ pb ∧ (pb < DW.heap.size ∨ W1.heap.size ≤ pb) ∧ (pb < W2.heap.size ∨ W3.heap.size ≤ pb)) := Lib.hid (by have q1 := HPB.out; have q2 := HPB2.out; have q3 := HQB.out; have q4 := HQB2.out; have q5 := H1.out; have q6 := H2.out; have q7 := H3.out; have q8 := HZ0.out; omega)
                go_simp
                clear z0 z1 z2 z3
                refine hK.out _ _ ?_ (fun hHeld => ?_)
                · exact LowS.set2 hHeld HW0.out NE.out.2.1 _ _
                clear hK K
                try simp only [Act.put, List.setIfInBounds_toArray, List.set_cons_zero, List.set_cons_succ]
                replace PX := (PX.set0 (.slice A1 (srL ps rs s t).length c1)).set1 (.slice A2 (srL ps rs s t).length c2)
                replace QX := (QX.far (c := pb) NE.out.1.symm 0 (.slice A1 (srL ps rs s t).length c1)).far (c := pb) NE.out.1.symm 1 (.slice A2 (srL ps rs s t).length c2)
                replace OA1 := (OA1.set (p := pb) NE.out.2.2.1 0 (.slice A1 (srL ps rs s t).length c1)).set (p := pb) NE.out.2.2.1 1 (.slice A2 (srL ps rs s t).length c2)
                replace OA2 := (OA2.set (p := pb) NE.out.2.2.1 0 (.slice A1 (srL ps rs s t).length c1)).set (p := pb) NE.out.2.2.1 1 (.slice A2 (srL ps rs s t).length c2)
                replace OA5 := (OA5.set (p := pb) NE.out.2.2.2 0 (.slice A1 (srL ps rs s t).length c1)).set (p := pb) NE.out.2.2.2 1 (.slice A2 (srL ps rs s t).length c2)
                replace OA6 := (OA6.set (p := pb) NE.out.2.2.2 0 (.slice A1 (srL ps rs s t).length c1)).set (p := pb) NE.out.2.2.2 1 (.slice A2 (srL ps rs s t).length c2)
                clear NE
                refine wpAnyH_ready (rs := [12]) (by kernel_rfl) (by simp) ?_
                refine AllReadyH.cons (o := ⟨none, _, _, _, _, _⟩) rfl (fun K hK => ?_) AllReadyH.nil
                · obtain ⟨z0, z1, z2, z3⟩ := QX.cells
                  have NE : Hid (pb ≠ qb ∧ W0.heap.size ≤ qb ∧ (qb < DW.heap.size ∨ W1.heap.size ≤ qb) ∧ (qb < W2.heap.size ∨ W3.heap.size ≤ qb)) := Lib.hid (by have q1 := HPB.out; have q2 := HPB2.out; have q3 := HQB.out; have q4 := HQB2.out; have q5 := H1.out; have q6 := H2.out; have q7 := H3.out; have q8 := HZ0.out; omega)
                  go_simp
                  clear z0 z1 z2 z3
                  refine hK.out _ _ ?_ (fun hHeld => ?_)
                  · exact LowS.set2 hHeld HW0.out NE.out.2.1 _ _
                  clear hK K
                  try simp only [Act.put, List.setIfInBounds_toArray, List.set_cons_zero, List.set_cons_succ]
                  replace QX := (QX.set0 (.slice A5 (srL (turnP ps rs) (turnR ps rs) t s).length c5)).set1 (.slice A6 (srL (turnP ps rs) (turnR ps rs) t s).length c6)
                  replace PX := (PX.far (c := qb) NE.out.1 0 (.slice A5 (srL (turnP ps rs) (turnR ps rs) t s).length c5)).far (c := qb) NE.out.1 1 (.slice A6 (srL (turnP ps rs) (turnR ps rs) t s).length c6)
                  replace OA1 := (OA1.set (p := qb) NE.out.2.2.1 0 (.slice A5 (srL (turnP ps rs) (turnR ps rs) t s).length c5)).set (p := qb) NE.out.2.2.1 1 (.slice A6 (srL (turnP ps rs) (turnR ps rs) t s).length c6)
                  replace OA2 := (OA2.set (p := qb) NE.out.2.2.1 0 (.slice A5 (srL (turnP ps rs) (turnR ps rs) t s).length c5)).set (p := qb) NE.out.2.2.1 1 (.slice A6 (srL (turnP ps rs) (turnR ps rs) t s).length c6)
                  replace OA5 := (OA5.set (p := qb) NE.out.2.2.2 0 (.slice A5 (srL (turnP ps rs) (turnR ps rs) t s).length c5)).set (p := qb) NE.out.2.2.2 1 (.slice A6 (srL (turnP ps rs) (turnR ps rs) t s).length c6)
                  replace OA6 := (OA6.set (p := qb) NE.out.2.2.2 0 (.slice A5 (srL (turnP ps rs) (turnR ps rs) t s).length c5)).set (p := qb) NE.out.2.2.2 1 (.slice A6 (srL (turnP ps rs) (turnR ps rs) t s).length c6)
                  clear NE
                  refine wpAnyH_done (by kernel_rfl) ?_ _
                  go_wp2
                  go_meet
                  case rel => exact ⟨pb, qb, A1, A2, A5, A6, c1, c2, c5, c6, rfl, rfl, PX, QX, OA1.ints, OA2.ints, OA5.ints, OA6.ints, hHeld.2.2⟩
          · go_simp
            refine hK.out _ _ ?_ (fun hHeld => ?_)
            · exact LowS.alloc hHeld _
            clear hK K
            try simp only [Act.put, List.setIfInBounds_toArray, List.set_cons_zero, List.set_cons_succ]
            have PX := Pair.new (W2) 42 (.slice none 0 0) (.slice none 0 0)
            have kb := below1 (W2) (.cells #[.slice none 0 0, .slice none 0 0] 42)
            replace OA1 := OA1.below kb
            replace OA2 := OA2.below kb
            replace QX := QX.below kb
            replace IP4 := IP4.below kb
            replace IR4 := IR4.below kb
            have HPB := Lib.hid (World.size_alloc (W2) (.cells #[.slice none 0 0, .slice none 0 0] 42))
            clear kb
            obtain ⟨VP, hVP⟩ : ∃ V, V = (W2).alloc (.cells #[.slice none 0 0, .slice none 0 0] 42) := ⟨_, rfl⟩
            rw [← hVP] at PX HPB OA1 OA2 QX IP4 IR4 hHeld ⊢
            clear hVP
            obtain ⟨pb, hpb⟩ : ∃ V, V = (W2).heap.size := ⟨_, rfl⟩
            have HPB2 := Lib.hid hpb
            try rw [show (W2).heap.size = pb from hpb.symm]
            rw [show (W2).heap.size = pb from hpb.symm] at PX
            clear hpb
            refine wpAnyH_ready (rs := [8]) (by kernel_rfl) (by simp) ?_
            refine AllReadyH.cons (o := ⟨some 24, _, _, _, _, _⟩) rfl (fun K hK => ?_) AllReadyH.nil
            · go_simp
              refine (implSearch_r A4 B4 ca4 cb4 (turnP ps rs) (turnR ps rs) t s _ hnT hmT IP4 IR4).mono ?_; rintro e W3 ⟨A5, A6, c5, c6, rfl, OA5, OA6, b3⟩
              go_wp2_with fail
              refine hK.out _ _ ?_ (fun hHeld => ?_)
              · exact LowS.under b3 hHeld
              clear hK K
              try simp only [Act.put, List.setIfInBounds_toArray, List.set_cons_zero, List.set_cons_succ]
              replace OA1 := OA1.below b3
              replace OA2 := OA2.below b3
              replace QX := QX.below b3
              replace PX := PX.below b3
              clear IP4 IR4
              have H3 := Lib.hid b3.size
              clear b3
              refine wpAnyH_ready (rs := [11]) (by kernel_rfl) (by simp) ?_
              refine AllReadyH.cons (o := ⟨none, _, _, _, _, _⟩) rfl (fun K hK => ?_) AllReadyH.nil
              · obtain ⟨z0, z1, z2, z3⟩ := PX.cells
                have NE : Hid (pb ≠ qb ∧ W0.heap.size ≤ pb ∧ (pb < DW.heap.size ∨ W1.heap.size ≤ pb) ∧ (pb < VP.heap.size ∨ W3.heap.size ≤ pb)) := Lib.hid (by have q1 := HPB.out; have q2 := HPB2.out; have q3 := HQB.out; have q4 := HQB2.out; have q5 := H1.out; have q6 := H2.out; have q7 := H3.out; have q8 := HZ0.out; omega)
                go_simp
                clear z0 z1 z2 z3
                refine hK.out _ _ ?_ (fun hHeld => ?_)
                · exact LowS.set2 hHeld HW0.out NE.out.2.1 _ _
                clear hK K
                try simp only [Act.put, List.setIfInBounds_toArray, List.set_cons_zero, List.set_cons_succ]
                replace PX := (PX.set0 (.slice A1 (srL ps rs s t).length c1)).set1 (.slice A2 (srL ps rs s t).length c2)
                replace QX := (QX.far (c := pb) NE.out.1.symm 0 (.slice A1 (srL ps rs s t).length c1)).far (c := pb) NE.out.1.symm 1 (.slice A2 (srL ps rs s t).length c2)
                replace OA1 := (OA1.set (p := pb) NE.out.2.2.1 0 (.slice A1 (srL ps rs s t).length c1)).set (p := pb) NE.out.2.2.1 1 (.slice A2 (srL ps rs s t).length c2)
                replace OA2 := (OA2.set (p := pb) NE.out.2.2.1 0 (.slice A1 (srL ps rs s t).length c1)).set (p := pb) NE.out.2.2.1 1 (.slice A2 (srL ps rs s t).length c2)
                replace OA5 := (OA5.set (p := pb) NE.out.2.2.2 0 (.slice A1 (srL ps rs s t).length c1)).set (p := pb) NE.out.2.2.2 1 (.slice A2 (srL ps rs s t).length c2)
                replace OA6 := (OA6.set (p := pb) NE.out.2.2.2 0 (.slice A1 (srL ps rs s t).length c1)).set (p := pb) NE.out.2.2.2 1 (.slice A2 (srL ps rs s t).length c2)
                clear NE
                refine wpAnyH_ready (rs := [12]) (by kernel_rfl) (by simp) ?_
                refine AllReadyH.cons (o := ⟨none, _, _, _, _, _⟩) rfl (fun K hK => ?_) AllReadyH.nil
                · obtain ⟨z0, z1, z2, z3⟩ := QX.cells
                  have NE : Hid (pb ≠ qb ∧ W0.heap.size ≤ qb ∧ (qb < DW.heap.size ∨ W1.heap.size ≤ qb) ∧ (qb < VP.heap.size ∨ W3.heap.size ≤ qb)) := Lib.hid (by have q1 := HPB.out; have q2 := HPB2.out; have q3 := HQB.out; have q4 := HQB2.out; have q5 := H1.out; have q6 := H2.out; have q7 := H3.out; have q8 := HZ0.out; omega)
                  go_simp
                  clear z0 z1 z2 z3
                  refine hK.out _ _ ?_ (fun hHeld => ?_)
                  · exact LowS.set2 hHeld HW0.out NE.out.2.1 _ _
                  clear hK K
                  try simp only [Act.put, List.setIfInBounds_toArray, List.set_cons_zero, List.set_cons_succ]
                  replace QX := (QX.set0 (.slice A5 (srL (turnP ps rs) (turnR ps rs) t s).length c5)).set1 (.slice A6 (srL (turnP ps rs) (turnR ps rs) t s).length c6)
                  replace PX := (PX.far (c := qb) NE.out.1 0 (.slice A5 (srL (turnP ps rs) (turnR ps rs) t s).length c5)).far (c := qb) NE.out.1 1 (.slice A6 (srL (turnP ps rs) (turnR ps rs) t s).length c6)
                  replace OA1 := (OA1.set (p := qb) NE.out.2.2.1 0 (.slice A5 (srL (turnP ps rs) (turnR ps rs) t s).length c5)).set (p := qb) NE.out.2.2.1 1 (.slice A6 (srL (turnP ps rs) (turnR ps rs) t s).length c6)
                  replace OA2 := (OA2.set (p := qb) NE.out.2.2.1 0 (.slice A5 (srL (turnP ps rs) (turnR ps rs) t s).length c5)).set (p := qb) NE.out.2.2.1 1 (.slice A6 (srL (turnP ps rs) (turnR ps rs) t s).length c6)
                  replace OA5 := (OA5.set (p := qb) NE.out.2.2.2 0 (.slice A5 (srL (turnP ps rs) (turnR ps rs) t s).length c5)).set (p := qb) NE.out.2.2.2 1 (.slice A6 (srL (turnP ps rs) (turnR ps rs) t s).length c6)
                  replace OA6 := (OA6.set (p := qb) NE.out.2.2.2 0 (.slice A5 (srL (turnP ps rs) (turnR ps rs) t s).length c5)).set (p := qb) NE.out.2.2.2 1 (.slice A6 (srL (turnP ps rs) (turnR ps rs) t s).length c6)
                  clear NE
                  refine wpAnyH_done (by kernel_rfl) ?_ _
                  go_wp2
                  go_meet
                  case rel => exact ⟨pb, qb, A1, A2, A5, A6, c1, c2, c5, c6, rfl, rfl, PX, QX, OA1.ints, OA2.ints, OA5.ints, OA6.ints, hHeld.2.2⟩
        · go_simp
          refine hK.out _ _ ?_ (fun hHeld => ?_)
          · exact LowS.alloc hHeld _
          clear hK K
          try simp only [Act.put, List.setIfInBounds_toArray, List.set_cons_zero, List.set_cons_succ]
          have PX := Pair.new (VQ) 42 (.slice none 0 0) (.slice none 0 0)
          have kb := below1 (VQ) (.cells #[.slice none 0 0, .slice none 0 0] 42)
          replace OA1 := OA1.below kb
          replace OA2 := OA2.below kb
          replace QX := QX.below kb
          have HPB := Lib.hid (World.size_alloc (VQ) (.cells #[.slice none 0 0, .slice none 0 0] 42))
          clear kb
          obtain ⟨VP, hVP⟩ : ∃ V, V = (VQ).alloc (.cells #[.slice none 0 0, .slice none 0 0] 42) := ⟨_, rfl⟩
          rw [← hVP] at PX HPB OA1 OA2 QX hHeld ⊢
          clear hVP
          obtain ⟨pb, hpb⟩ : ∃ V, V = (VQ).heap.size := ⟨_, rfl⟩
          have HPB2 := Lib.hid hpb
          try rw [show (VQ).heap.size = pb from hpb.symm]
          rw [show (VQ).heap.size = pb from hpb.symm] at PX
          clear hpb
          refine wpAnyH_ready (rs := [5]) (by kernel_rfl) (by simp) ?_
          refine AllReadyH.cons (o := ⟨some 21, _, _, _, _, _⟩) rfl (fun K hK => ?_) AllReadyH.nil
          · go_simp
            refine (implTurned_any ad B ca cb ps rs _ hn hm (HP.out _ hHeld.2.2) (HB.out _ hHeld.2.2)).mono ?_; rintro e W2 ⟨A4, B4, ca4, cb4, rfl, OP4, OR4, -, b2⟩
            go_wp2_with fail
            refine hK.out _ _ ?_ (fun hHeld => ?_)
            · exact LowS.under b2 hHeld
            clear hK K
            try simp only [Act.put, List.setIfInBounds_toArray, List.set_cons_zero, List.set_cons_succ]
            replace OA1 := OA1.below b2
            replace OA2 := OA2.below b2
            replace QX := QX.below b2
            replace PX := PX.below b2
            have IP4 := own_pts OP4
            have IR4 := own_arcs OR4
            clear OP4 OR4
            have H2 := Lib.hid b2.size
            clear b2
            refine wpAnyH_ready (rs := [8]) (by kernel_rfl) (by simp) ?_
            refine AllReadyH.cons (o := ⟨some 24, _, _, _, _, _⟩) rfl (fun K hK => ?_) AllReadyH.nil
            · go_simp
              refine (implSearch_r A4 B4 ca4 cb4 (turnP ps rs) (turnR ps rs) t s _ hnT hmT IP4 IR4).mono ?_; rintro e W3 ⟨A5, A6, c5, c6, rfl, OA5, OA6, b3⟩
              go_wp2_with fail
              refine hK.out _ _ ?_ (fun hHeld => ?_)
              · exact LowS.under b3 hHeld
              clear hK K
              try simp only [Act.put, List.setIfInBounds_toArray, List.set_cons_zero, List.set_cons_succ]
              replace OA1 := OA1.below b3
              replace OA2 := OA2.below b3
              replace QX := QX.below b3
              replace PX := PX.below b3
              clear IP4 IR4
              have H3 := Lib.hid b3.size
              clear b3
              refine wpAnyH_ready (rs := [11]) (by kernel_rfl) (by simp) ?_
              refine AllReadyH.cons (o := ⟨none, _, _, _, _, _⟩) rfl (fun K hK => ?_) AllReadyH.nil
              · obtain ⟨z0, z1, z2, z3⟩ := PX.cells
                have NE : Hid (pb ≠ qb ∧ W0.heap.size ≤ pb ∧ (pb < DW.heap.size ∨ W1.heap.size ≤ pb) ∧ (pb < W2.heap.size ∨ W3.heap.size ≤ pb)) := Lib.hid (by have q1 := HPB.out; have q2 := HPB2.out; have q3 := HQB.out; have q4 := HQB2.out; have q5 := H1.out; have q6 := H2.out; have q7 := H3.out; have q8 := HZ0.out; omega)
                go_simp
                clear z0 z1 z2 z3
                refine hK.out _ _ ?_ (fun hHeld => ?_)
                · exact LowS.set2 hHeld HW0.out NE.out.2.1 _ _
                clear hK K
                try simp only [Act.put, List.setIfInBounds_toArray, List.set_cons_zero, List.set_cons_succ]
                replace PX := (PX.set0 (.slice A1 (srL ps rs s t).length c1)).set1 (.slice A2 (srL ps rs s t).length c2)
                replace QX := (QX.far (c := pb) NE.out.1.symm 0 (.slice A1 (srL ps rs s t).length c1)).far (c := pb) NE.out.1.symm 1 (.slice A2 (srL ps rs s t).length c2)
                replace OA1 := (OA1.set (p := pb) NE.out.2.2.1 0 (.slice A1 (srL ps rs s t).length c1)).set (p := pb) NE.out.2.2.1 1 (.slice A2 (srL ps rs s t).length c2)
                replace OA2 := (OA2.set (p := pb) NE.out.2.2.1 0 (.slice A1 (srL ps rs s t).length c1)).set (p := pb) NE.out.2.2.1 1 (.slice A2 (srL ps rs s t).length c2)
                replace OA5 := (OA5.set (p := pb) NE.out.2.2.2 0 (.slice A1 (srL ps rs s t).length c1)).set (p := pb) NE.out.2.2.2 1 (.slice A2 (srL ps rs s t).length c2)
                replace OA6 := (OA6.set (p := pb) NE.out.2.2.2 0 (.slice A1 (srL ps rs s t).length c1)).set (p := pb) NE.out.2.2.2 1 (.slice A2 (srL ps rs s t).length c2)
                clear NE
                refine wpAnyH_ready (rs := [12]) (by kernel_rfl) (by simp) ?_
                refine AllReadyH.cons (o := ⟨none, _, _, _, _, _⟩) rfl (fun K hK => ?_) AllReadyH.nil
                · obtain ⟨z0, z1, z2, z3⟩ := QX.cells
                  have NE : Hid (pb ≠ qb ∧ W0.heap.size ≤ qb ∧ (qb < DW.heap.size ∨ W1.heap.size ≤ qb) ∧ (qb < W2.heap.size ∨ W3.heap.size ≤ qb)) := Lib.hid (by have q1 := HPB.out; have q2 := HPB2.out; have q3 := HQB.out; have q4 := HQB2.out; have q5 := H1.out; have q6 := H2.out; have q7 := H3.out; have q8 := HZ0.out; omega)
                  go_simp
                  clear z0 z1 z2 z3
                  refine hK.out _ _ ?_ (fun hHeld => ?_)
                  · exact LowS.set2 hHeld HW0.out NE.out.2.1 _ _
                  clear hK K
                  try simp only [Act.put, List.setIfInBounds_toArray, List.set_cons_zero, List.set_cons_succ]
                  replace QX := (QX.set0 (.slice A5 (srL (turnP ps rs) (turnR ps rs) t s).length c5)).set1 (.slice A6 (srL (turnP ps rs) (turnR ps rs) t s).length c6)
                  replace PX := (PX.far (c := qb) NE.out.1 0 (.slice A5 (srL (turnP ps rs) (turnR ps rs) t s).length c5)).far (c := qb) NE.out.1 1 (.slice A6 (srL (turnP ps rs) (turnR ps rs) t s).length c6)
                  replace OA1 := (OA1.set (p := qb) NE.out.2.2.1 0 (.slice A5 (srL (turnP ps rs) (turnR ps rs) t s).length c5)).set (p := qb) NE.out.2.2.1 1 (.slice A6 (srL (turnP ps rs) (turnR ps rs) t s).length c6)
                  replace OA2 := (OA2.set (p := qb) NE.out.2.2.1 0 (.slice A5 (srL (turnP ps rs) (turnR ps rs) t s).length c5)).set (p := qb) NE.out.2.2.1 1 (.slice A6 (srL (turnP ps rs) (turnR ps rs) t s).length c6)
                  replace OA5 := (OA5.set (p := qb) NE.out.2.2.2 0 (.slice A5 (srL (turnP ps rs) (turnR ps rs) t s).length c5)).set (p := qb) NE.out.2.2.2 1 (.slice A6 (srL (turnP ps rs) (turnR ps rs) t s).length c6)
                  replace OA6 := (OA6.set (p := qb) NE.out.2.2.2 0 (.slice A5 (srL (turnP ps rs) (turnR ps rs) t s).length c5)).set (p := qb) NE.out.2.2.2 1 (.slice A6 (srL (turnP ps rs) (turnR ps rs) t s).length c6)
                  clear NE
                  refine wpAnyH_done (by kernel_rfl) ?_ _
                  go_wp2
                  go_meet
                  case rel => exact ⟨pb, qb, A1, A2, A5, A6, c1, c2, c5, c6, rfl, rfl, PX, QX, OA1.ints, OA2.ints, OA5.ints, OA6.ints, hHeld.2.2⟩
    · go_simp
      refine hK.out _ _ ?_ (fun hHeld => ?_)
      · exact LowS.alloc hHeld _
      clear hK K
      try simp only [Act.put, List.setIfInBounds_toArray, List.set_cons_zero, List.set_cons_succ]
      have PX := Pair.new (DW) 42 (.slice none 0 0) (.slice none 0 0)
      have kb := below1 (DW) (.cells #[.slice none 0 0, .slice none 0 0] 42)
      have HPB := Lib.hid (World.size_alloc (DW) (.cells #[.slice none 0 0, .slice none 0 0] 42))
      clear kb
      obtain ⟨VP, hVP⟩ : ∃ V, V = (DW).alloc (.cells #[.slice none 0 0, .slice none 0 0] 42) := ⟨_, rfl⟩
      rw [← hVP] at PX HPB hHeld ⊢
      clear hVP
      obtain ⟨pb, hpb⟩ : ∃ V, V = (DW).heap.size := ⟨_, rfl⟩
      have HPB2 := Lib.hid hpb
      try rw [show (DW).heap.size = pb from hpb.symm]
      rw [show (DW).heap.size = pb from hpb.symm] at PX
      clear hpb
      refine wpAnyH_ready (rs := [3, 10]) (by kernel_rfl) (by simp) ?_
      refine AllReadyH.cons (o := ⟨some 19, _, _, _, _, _⟩) rfl (fun K hK => ?_) (AllReadyH.cons (o := ⟨some 10, _, _, _, _, _⟩) rfl (fun K hK => ?_) AllReadyH.nil)
      · go_simp
        refine (implSearch_r (some ad) B ca cb ps rs s t _ hn hm (HP.out _ hHeld.2.2) (HB.out _ hHeld.2.2)).mono ?_; rintro e W1 ⟨A1, A2, c1, c2, rfl, OA1, OA2, b1⟩
        go_wp2_with fail
        refine hK.out _ _ ?_ (fun hHeld => ?_)
        · exact LowS.under b1 hHeld
        clear hK K
        try simp only [Act.put, List.setIfInBounds_toArray, List.set_cons_zero, List.set_cons_succ]
        replace PX := PX.below b1
        have H1 := Lib.hid b1.size
        clear b1
        refine wpAnyH_ready (rs := [5, 10]) (by kernel_rfl) (by simp) ?_
        refine AllReadyH.cons (o := ⟨some 21, _, _, _, _, _⟩) rfl (fun K hK => ?_) (AllReadyH.cons (o := ⟨some 10, _, _, _, _, _⟩) rfl (fun K hK => ?_) AllReadyH.nil)
        · go_simp
          refine (implTurned_any ad B ca cb ps rs _ hn hm (HP.out _ hHeld.2.2) (HB.out _ hHeld.2.2)).mono ?_; rintro e W2 ⟨A4, B4, ca4, cb4, rfl, OP4, OR4, -, b2⟩
          go_wp2_with fail
          refine hK.out _ _ ?_ (fun hHeld => ?_)
          · exact LowS.under b2 hHeld
          clear hK K
          try simp only [Act.put, List.setIfInBounds_toArray, List.set_cons_zero, List.set_cons_succ]
          replace PX := PX.below b2
          replace OA1 := OA1.below b2
          replace OA2 := OA2.below b2
          have IP4 := own_pts OP4
          have IR4 := own_arcs OR4
          clear OP4 OR4
          have H2 := Lib.hid b2.size
          clear b2
          refine wpAnyH_ready (rs := [8, 10]) (by kernel_rfl) (by simp) ?_
          refine AllReadyH.cons (o := ⟨some 24, _, _, _, _, _⟩) rfl (fun K hK => ?_) (AllReadyH.cons (o := ⟨some 10, _, _, _, _, _⟩) rfl (fun K hK => ?_) AllReadyH.nil)
          · go_simp
            refine (implSearch_r A4 B4 ca4 cb4 (turnP ps rs) (turnR ps rs) t s _ hnT hmT IP4 IR4).mono ?_; rintro e W3 ⟨A5, A6, c5, c6, rfl, OA5, OA6, b3⟩
            go_wp2_with fail
            refine hK.out _ _ ?_ (fun hHeld => ?_)
            · exact LowS.under b3 hHeld
            clear hK K
            try simp only [Act.put, List.setIfInBounds_toArray, List.set_cons_zero, List.set_cons_succ]
            replace PX := PX.below b3
            replace OA1 := OA1.below b3
            replace OA2 := OA2.below b3
            clear IP4 IR4
            have H3 := Lib.hid b3.size
            clear b3
            refine wpAnyH_ready (rs := [10]) (by kernel_rfl) (by simp) ?_
            refine AllReadyH.cons (o := ⟨some 10, _, _, _, _, _⟩) rfl (fun K hK => ?_) AllReadyH.nil
            · go_simp
              refine hK.out _ _ ?_ (fun hHeld => ?_)
              · exact LowS.alloc hHeld _
              clear hK K
              try simp only [Act.put, List.setIfInBounds_toArray, List.set_cons_zero, List.set_cons_succ]
              have QX := Pair.new (W3) 42 (.slice none 0 0) (.slice none 0 0)
              have kb := below1 (W3) (.cells #[.slice none 0 0, .slice none 0 0] 42)
              replace PX := PX.below kb
              replace OA1 := OA1.below kb
              replace OA2 := OA2.below kb
              replace OA5 := OA5.below kb
              replace OA6 := OA6.below kb
              have HQB := Lib.hid (World.size_alloc (W3) (.cells #[.slice none 0 0, .slice none 0 0] 42))
              clear kb
              obtain ⟨VQ, hVQ⟩ : ∃ V, V = (W3).alloc (.cells #[.slice none 0 0, .slice none 0 0] 42) := ⟨_, rfl⟩
              rw [← hVQ] at QX HQB PX OA1 OA2 OA5 OA6 hHeld ⊢
              clear hVQ
              obtain ⟨qb, hqb⟩ : ∃ V, V = (W3).heap.size := ⟨_, rfl⟩
              have HQB2 := Lib.hid hqb
              try rw [show (W3).heap.size = qb from hqb.symm]
              rw [show (W3).heap.size = qb from hqb.symm] at QX
              clear hqb
              refine wpAnyH_ready (rs := [11]) (by kernel_rfl) (by simp) ?_
              refine AllReadyH.cons (o := ⟨none, _, _, _, _, _⟩) rfl (fun K hK => ?_) AllReadyH.nil
              · obtain ⟨z0, z1, z2, z3⟩ := PX.cells
                have NE : Hid (pb ≠ qb ∧ W0.heap.size ≤ pb ∧ (pb < VP.heap.size ∨ W1.heap.size ≤ pb) ∧ (pb < W2.heap.size ∨ W3.heap.size ≤ pb)) := Lib.hid (by have q1 := HPB.out; have q2 := HPB2.out; have q3 := HQB.out; have q4 := HQB2.out; have q5 := H1.out; have q6 := H2.out; have q7 := H3.out; have q8 := HZ0.out; omega)
                go_simp
                clear z0 z1 z2 z3
                refine hK.out _ _ ?_ (fun hHeld => ?_)
                · exact LowS.set2 hHeld HW0.out NE.out.2.1 _ _
                clear hK K
                try simp only [Act.put, List.setIfInBounds_toArray, List.set_cons_zero, List.set_cons_succ]
                replace PX := (PX.set0 (.slice A1 (srL ps rs s t).length c1)).set1 (.slice A2 (srL ps rs s t).length c2)
                replace QX := (QX.far (c := pb) NE.out.1.symm 0 (.slice A1 (srL ps rs s t).length c1)).far (c := pb) NE.out.1.symm 1 (.slice A2 (srL ps rs s t).length c2)
                replace OA1 := (OA1.set (p := pb) NE.out.2.2.1 0 (.slice A1 (srL ps rs s t).length c1)).set (p := pb) NE.out.2.2.1 1 (.slice A2 (srL ps rs s t).length c2)
                replace OA2 := (OA2.set (p := pb) NE.out.2.2.1 0 (.slice A1 (srL ps rs s t).length c1)).set (p := pb) NE.out.2.2.1 1 (.slice A2 (srL ps rs s t).length c2)
                replace OA5 := (OA5.set (p := pb) NE.out.2.2.2 0 (.slice A1 (srL ps rs s t).length c1)).set (p := pb) NE.out.2.2.2 1 (.slice A2 (srL ps rs s t).length c2)
                replace OA6 := (OA6.set (p := pb) NE.out.2.2.2 0 (.slice A1 (srL ps rs s t).length c1)).set (p := pb) NE.out.2.2.2 1 (.slice A2 (srL ps rs s t).length c2)
                clear NE
                refine wpAnyH_ready (rs := [12]) (by kernel_rfl) (by simp) ?_
                refine AllReadyH.cons (o := ⟨none, _, _, _, _, _⟩) rfl (fun K hK => ?_) AllReadyH.nil
                · obtain ⟨z0, z1, z2, z3⟩ := QX.cells
                  have NE : Hid (pb ≠ qb ∧ W0.heap.size ≤ qb ∧ (qb < VP.heap.size ∨ W1.heap.size ≤ qb) ∧ (qb < W2.heap.size ∨ W3.heap.size ≤ qb)) := Lib.hid (by have q1 := HPB.out; have q2 := HPB2.out; have q3 := HQB.out; have q4 := HQB2.out; have q5 := H1.out; have q6 := H2.out; have q7 := H3.out; have q8 := HZ0.out; omega)
                  go_simp
                  clear z0 z1 z2 z3
                  refine hK.out _ _ ?_ (fun hHeld => ?_)
                  · exact LowS.set2 hHeld HW0.out NE.out.2.1 _ _
                  clear hK K
                  try simp only [Act.put, List.setIfInBounds_toArray, List.set_cons_zero, List.set_cons_succ]
                  replace QX := (QX.set0 (.slice A5 (srL (turnP ps rs) (turnR ps rs) t s).length c5)).set1 (.slice A6 (srL (turnP ps rs) (turnR ps rs) t s).length c6)
                  replace PX := (PX.far (c := qb) NE.out.1 0 (.slice A5 (srL (turnP ps rs) (turnR ps rs) t s).length c5)).far (c := qb) NE.out.1 1 (.slice A6 (srL (turnP ps rs) (turnR ps rs) t s).length c6)
                  replace OA1 := (OA1.set (p := qb) NE.out.2.2.1 0 (.slice A5 (srL (turnP ps rs) (turnR ps rs) t s).length c5)).set (p := qb) NE.out.2.2.1 1 (.slice A6 (srL (turnP ps rs) (turnR ps rs) t s).length c6)
                  replace OA2 := (OA2.set (p := qb) NE.out.2.2.1 0 (.slice A5 (srL (turnP ps rs) (turnR ps rs) t s).length c5)).set (p := qb) NE.out.2.2.1 1 (.slice A6 (srL (turnP ps rs) (turnR ps rs) t s).length c6)
                  replace OA5 := (OA5.set (p := qb) NE.out.2.2.2 0 (.slice A5 (srL (turnP ps rs) (turnR ps rs) t s).length c5)).set (p := qb) NE.out.2.2.2 1 (.slice A6 (srL (turnP ps rs) (turnR ps rs) t s).length c6)
                  replace OA6 := (OA6.set (p := qb) NE.out.2.2.2 0 (.slice A5 (srL (turnP ps rs) (turnR ps rs) t s).length c5)).set (p := qb) NE.out.2.2.2 1 (.slice A6 (srL (turnP ps rs) (turnR ps rs) t s).length c6)
                  clear NE
                  refine wpAnyH_done (by kernel_rfl) ?_ _
                  go_wp2
                  go_meet
                  case rel => exact ⟨pb, qb, A1, A2, A5, A6, c1, c2, c5, c6, rfl, rfl, PX, QX, OA1.ints, OA2.ints, OA5.ints, OA6.ints, hHeld.2.2⟩
          · go_simp
            refine hK.out _ _ ?_ (fun hHeld => ?_)
            · exact LowS.alloc hHeld _
            clear hK K
            try simp only [Act.put, List.setIfInBounds_toArray, List.set_cons_zero, List.set_cons_succ]
            have QX := Pair.new (W2) 42 (.slice none 0 0) (.slice none 0 0)
            have kb := below1 (W2) (.cells #[.slice none 0 0, .slice none 0 0] 42)
            replace PX := PX.below kb
            replace OA1 := OA1.below kb
            replace OA2 := OA2.below kb
            replace IP4 := IP4.below kb
            replace IR4 := IR4.below kb
            have HQB := Lib.hid (World.size_alloc (W2) (.cells #[.slice none 0 0, .slice none 0 0] 42))
            clear kb
            obtain ⟨VQ, hVQ⟩ : ∃ V, V = (W2).alloc (.cells #[.slice none 0 0, .slice none 0 0] 42) := ⟨_, rfl⟩
            rw [← hVQ] at QX HQB PX OA1 OA2 IP4 IR4 hHeld ⊢
            clear hVQ
            obtain ⟨qb, hqb⟩ : ∃ V, V = (W2).heap.size := ⟨_, rfl⟩
            have HQB2 := Lib.hid hqb
            try rw [show (W2).heap.size = qb from hqb.symm]
            rw [show (W2).heap.size = qb from hqb.symm] at QX
            clear hqb
            refine wpAnyH_ready (rs := [8]) (by kernel_rfl) (by simp) ?_
            refine AllReadyH.cons (o := ⟨some 24, _, _, _, _, _⟩) rfl (fun K hK => ?_) AllReadyH.nil
            · go_simp
              refine (implSearch_r A4 B4 ca4 cb4 (turnP ps rs) (turnR ps rs) t s _ hnT hmT IP4 IR4).mono ?_; rintro e W3 ⟨A5, A6, c5, c6, rfl, OA5, OA6, b3⟩
              go_wp2_with fail
              refine hK.out _ _ ?_ (fun hHeld => ?_)
              · exact LowS.under b3 hHeld
              clear hK K
              try simp only [Act.put, List.setIfInBounds_toArray, List.set_cons_zero, List.set_cons_succ]
              replace PX := PX.below b3
              replace OA1 := OA1.below b3
              replace OA2 := OA2.below b3
              replace QX := QX.below b3
              clear IP4 IR4
              have H3 := Lib.hid b3.size
              clear b3
              refine wpAnyH_ready (rs := [11]) (by kernel_rfl) (by simp) ?_
              refine AllReadyH.cons (o := ⟨none, _, _, _, _, _⟩) rfl (fun K hK => ?_) AllReadyH.nil
              · obtain ⟨z0, z1, z2, z3⟩ := PX.cells
                have NE : Hid (pb ≠ qb ∧ W0.heap.size ≤ pb ∧ (pb < VP.heap.size ∨ W1.heap.size ≤ pb) ∧ (pb < VQ.heap.size ∨ W3.heap.size ≤ pb)) := Lib.hid (by have q1 := HPB.out; have q2 := HPB2.out; have q3 := HQB.out; have q4 := HQB2.out; have q5 := H1.out; have q6 := H2.out; have q7 := H3.out; have q8 := HZ0.out; omega)
                go_simp
                clear z0 z1 z2 z3
                refine hK.out _ _ ?_ (fun hHeld => ?_)
                · exact LowS.set2 hHeld HW0.out NE.out.2.1 _ _
                clear hK K
                try simp only [Act.put, List.setIfInBounds_toArray, List.set_cons_zero, List.set_cons_succ]
                replace PX := (PX.set0 (.slice A1 (srL ps rs s t).length c1)).set1 (.slice A2 (srL ps rs s t).length c2)
                replace QX := (QX.far (c := pb) NE.out.1.symm 0 (.slice A1 (srL ps rs s t).length c1)).far (c := pb) NE.out.1.symm 1 (.slice A2 (srL ps rs s t).length c2)
                replace OA1 := (OA1.set (p := pb) NE.out.2.2.1 0 (.slice A1 (srL ps rs s t).length c1)).set (p := pb) NE.out.2.2.1 1 (.slice A2 (srL ps rs s t).length c2)
                replace OA2 := (OA2.set (p := pb) NE.out.2.2.1 0 (.slice A1 (srL ps rs s t).length c1)).set (p := pb) NE.out.2.2.1 1 (.slice A2 (srL ps rs s t).length c2)
                replace OA5 := (OA5.set (p := pb) NE.out.2.2.2 0 (.slice A1 (srL ps rs s t).length c1)).set (p := pb) NE.out.2.2.2 1 (.slice A2 (srL ps rs s t).length c2)
                replace OA6 := (OA6.set (p := pb) NE.out.2.2.2 0 (.slice A1 (srL ps rs s t).length c1)).set (p := pb) NE.out.2.2.2 1 (.slice A2 (srL ps rs s t).length c2)
                clear NE
                refine wpAnyH_ready (rs := [12]) (by kernel_rfl) (by simp) ?_
                refine AllReadyH.cons (o := ⟨none, _, _, _, _, _⟩) rfl (fun K hK => ?_) AllReadyH.nil
                · obtain ⟨z0, z1, z2, z3⟩ := QX.cells
                  have NE : Hid (pb ≠ qb ∧ W0.heap.size ≤ qb ∧ (qb < VP.heap.size ∨ W1.heap.size ≤ qb) ∧ (qb < VQ.heap.size ∨ W3.heap.size ≤ qb)) := Lib.hid (by have q1 := HPB.out; have q2 := HPB2.out; have q3 := HQB.out; have q4 := HQB2.out; have q5 := H1.out; have q6 := H2.out; have q7 := H3.out; have q8 := HZ0.out; omega)
                  go_simp
                  clear z0 z1 z2 z3
                  refine hK.out _ _ ?_ (fun hHeld => ?_)
                  · exact LowS.set2 hHeld HW0.out NE.out.2.1 _ _
                  clear hK K
                  try simp only [Act.put, List.setIfInBounds_toArray, List.set_cons_zero, List.set_cons_succ]
                  replace QX := (QX.set0 (.slice A5 (srL (turnP ps rs) (turnR ps rs) t s).length c5)).set1 (.slice A6 (srL (turnP ps rs) (turnR ps rs) t s).length c6)
                  replace PX := (PX.far (c := qb) NE.out.1 0 (.slice A5 (srL (turnP ps rs) (turnR ps rs) t s).length c5)).far (c := qb) NE.out.1 1 (.slice A6 (srL (turnP ps rs) (turnR ps rs) t s).length c6)
                  replace OA1 := (OA1.set (p := qb) NE.out.2.2.1 0 (.slice A5 (srL (turnP ps rs) (turnR ps rs) t s).length c5)).set (p := qb) NE.out.2.2.1 1 (.slice A6 (srL (turnP ps rs) (turnR ps rs) t s).length c6)
                  replace OA2 := (OA2.set (p := qb) NE.out.2.2.1 0 (.slice A5 (srL (turnP ps rs) (turnR ps rs) t s).length c5)).set (p := qb) NE.out.2.2.1 1 (.slice A6 (srL (turnP ps rs) (turnR ps rs) t s).length c6)
                  replace OA5 := (OA5.set (p := qb) NE.out.2.2.2 0 (.slice A5 (srL (turnP ps rs) (turnR ps rs) t s).length c5)).set (p := qb) NE.out.2.2.2 1 (.slice A6 (srL (turnP ps rs) (turnR ps rs) t s).length c6)
                  replace OA6 := (OA6.set (p := qb) NE.out.2.2.2 0 (.slice A5 (srL (turnP ps rs) (turnR ps rs) t s).length c5)).set (p := qb) NE.out.2.2.2 1 (.slice A6 (srL (turnP ps rs) (turnR ps rs) t s).length c6)
                  clear NE
                  refine wpAnyH_done (by kernel_rfl) ?_ _
                  go_wp2
                  go_meet
                  case rel => exact ⟨pb, qb, A1, A2, A5, A6, c1, c2, c5, c6, rfl, rfl, PX, QX, OA1.ints, OA2.ints, OA5.ints, OA6.ints, hHeld.2.2⟩
        · go_simp
          refine hK.out _ _ ?_ (fun hHeld => ?_)
          · exact LowS.alloc hHeld _
          clear hK K
          try simp only [Act.put, List.setIfInBounds_toArray, List.set_cons_zero, List.set_cons_succ]
          have QX := Pair.new (W1) 42 (.slice none 0 0) (.slice none 0 0)
          have kb := below1 (W1) (.cells #[.slice none 0 0, .slice none 0 0] 42)
          replace PX := PX.below kb
          replace OA1 := OA1.below kb
          replace OA2 := OA2.below kb
          have HQB := Lib.hid (World.size_alloc (W1) (.cells #[.slice none 0 0, .slice none 0 0] 42))
          clear kb
          obtain ⟨VQ, hVQ⟩ : ∃ V, V = (W1).alloc (.cells #[.slice none 0 0, .slice none 0 0] 42) := ⟨_, rfl⟩
          rw [← hVQ] at QX HQB PX OA1 OA2 hHeld ⊢
          clear hVQ
          obtain ⟨qb, hqb⟩ : ∃ V, V = (W1).heap.size := ⟨_, rfl⟩
          have HQB2 := Lib.hid hqb
          try rw [show (W1).heap.size = qb from hqb.symm]
          rw [show (W1).heap.size = qb from hqb.symm] at QX
          clear hqb
          refine wpAnyH_ready (rs := [5]) (by kernel_rfl) (by simp) ?_
          refine AllReadyH.cons (o := ⟨some 21, _, _, _, _, _⟩) rfl (fun K hK => ?_) AllReadyH.nil
          · go_simp
            refine (implTurned_any ad B ca cb ps rs _ hn hm (HP.out _ hHeld.2.2) (HB.out _ hHeld.2.2)).mono ?_; rintro e W2 ⟨A4, B4, ca4, cb4, rfl, OP4, OR4, -, b2⟩
            go_wp2_with fail
            refine hK.out _ _ ?_ (fun hHeld => ?_)
            · exact LowS.under b2 hHeld
            clear hK K
            try simp only [Act.put, List.setIfInBounds_toArray, List.set_cons_zero, List.set_cons_succ]
            replace PX := PX.below b2
            replace OA1 := OA1.below b2
            replace OA2 := OA2.below b2
            replace QX := QX.below b2
            have IP4 := own_pts OP4
            have IR4 := own_arcs OR4
            clear OP4 OR4
            have H2 := Lib.hid b2.size
            clear b2
            refine wpAnyH_ready (rs := [8]) (by kernel_rfl) (by simp) ?_
            refine AllReadyH.cons (o := ⟨some 24, _, _, _, _, _⟩) rfl (fun K hK => ?_) AllReadyH.nil
            · go_simp
              refine (implSearch_r A4 B4 ca4 cb4 (turnP ps rs) (turnR ps rs) t s _ hnT hmT IP4 IR4).mono ?_; rintro e W3 ⟨A5, A6, c5, c6, rfl, OA5, OA6, b3⟩
              go_wp2_with fail
              refine hK.out _ _ ?_ (fun hHeld => ?_)
              · exact LowS.under b3 hHeld
              clear hK K
              try simp only [Act.put, List.setIfInBounds_toArray, List.set_cons_zero, List.set_cons_succ]
              replace PX := PX.below b3
              replace OA1 := OA1.below b3
              replace OA2 := OA2.below b3
              replace QX := QX.below b3
              clear IP4 IR4
              have H3 := Lib.hid b3.size
              clear b3
              refine wpAnyH_ready (rs := [11]) (by kernel_rfl) (by simp) ?_
              refine AllReadyH.cons (o := ⟨none, _, _, _, _, _⟩) rfl (fun K hK => ?_) AllReadyH.nil
              · obtain ⟨z0, z1, z2, z3⟩ := PX.cells
                have NE : Hid (pb ≠ qb ∧ W0.heap.size ≤ pb ∧ (pb < VP.heap.size ∨ W1.heap.size ≤ pb) ∧ (pb < W2.heap.size ∨ W3.heap.size ≤ pb)) := Lib.hid (by have q1 := HPB.out; have q2 := HPB2.out; have q3 := HQB.out; have q4 := HQB2.out; have q5 := H1.out; have q6 := H2.out; have q7 := H3.out; have q8 := HZ0.out; omega)
                go_simp
                clear z0 z1 z2 z3
                refine hK.out _ _ ?_ (fun hHeld => ?_)
                · exact LowS.set2 hHeld HW0.out NE.out.2.1 _ _
                clear hK K
                try simp only [Act.put, List.setIfInBounds_toArray, List.set_cons_zero, List.set_cons_succ]
                replace PX := (PX.set0 (.slice A1 (srL ps rs s t).length c1)).set1 (.slice A2 (srL ps rs s t).length c2)
                replace QX := (QX.far (c := pb) NE.out.1.symm 0 (.slice A1 (srL ps rs s t).length c1)).far (c := pb) NE.out.1.symm 1 (.slice A2 (srL ps rs s t).length c2)
                replace OA1 := (OA1.set (p := pb) NE.out.2.2.1 0 (.slice A1 (srL ps rs s t).length c1)).set (p := pb) NE.out.2.2.1 1 (.slice A2 (srL ps rs s t).length c2)
                replace OA2 := (OA2.set (p := pb) NE.out.2.2.1 0 (.slice A1 (srL ps rs s t).length c1)).set (p := pb) NE.out.2.2.1 1 (.slice A2 (srL ps rs s t).length c2)
                replace OA5 := (OA5.set (p := pb) NE.out.2.2.2 0 (.slice A1 (srL ps rs s t).length c1)).set (p := pb) NE.out.2.2.2 1 (.slice A2 (srL ps rs s t).length c2)
                replace OA6 := (OA6.set (p := pb) NE.out.2.2.2 0 (.slice A1 (srL ps rs s t).length c1)).set (p := pb) NE.out.2.2.2 1 (.slice A2 (srL ps rs s t).length c2)
                clear NE
                refine wpAnyH_ready (rs := [12]) (by kernel_rfl) (by simp) ?_
                refine AllReadyH.cons (o := ⟨none, _, _, _, _, _⟩) rfl (fun K hK => ?_) AllReadyH.nil
                · obtain ⟨z0, z1, z2, z3⟩ := QX.cells
                  have NE : Hid (pb ≠ qb ∧ W0.heap.size ≤ qb ∧ (qb < VP.heap.size ∨ W1.heap.size ≤ qb) ∧ (qb < W2.heap.size ∨ W3.heap.size ≤ qb)) := Lib.hid (by have q1 := HPB.out; have q2 := HPB2.out; have q3 := HQB.out; have q4 := HQB2.out; have q5 := H1.out; have q6 := H2.out; have q7 := H3.out; have q8 := HZ0.out; omega)
                  go_simp
                  clear z0 z1 z2 z3
                  refine hK.out _ _ ?_ (fun hHeld => ?_)
                  · exact LowS.set2 hHeld HW0.out NE.out.2.1 _ _
                  clear hK K
                  try simp only [Act.put, List.setIfInBounds_toArray, List.set_cons_zero, List.set_cons_succ]
                  replace QX := (QX.set0 (.slice A5 (srL (turnP ps rs) (turnR ps rs) t s).length c5)).set1 (.slice A6 (srL (turnP ps rs) (turnR ps rs) t s).length c6)
                  replace PX := (PX.far (c := qb) NE.out.1 0 (.slice A5 (srL (turnP ps rs) (turnR ps rs) t s).length c5)).far (c := qb) NE.out.1 1 (.slice A6 (srL (turnP ps rs) (turnR ps rs) t s).length c6)
                  replace OA1 := (OA1.set (p := qb) NE.out.2.2.1 0 (.slice A5 (srL (turnP ps rs) (turnR ps rs) t s).length c5)).set (p := qb) NE.out.2.2.1 1 (.slice A6 (srL (turnP ps rs) (turnR ps rs) t s).length c6)
                  replace OA2 := (OA2.set (p := qb) NE.out.2.2.1 0 (.slice A5 (srL (turnP ps rs) (turnR ps rs) t s).length c5)).set (p := qb) NE.out.2.2.1 1 (.slice A6 (srL (turnP ps rs) (turnR ps rs) t s).length c6)
                  replace OA5 := (OA5.set (p := qb) NE.out.2.2.2 0 (.slice A5 (srL (turnP ps rs) (turnR ps rs) t s).length c5)).set (p := qb) NE.out.2.2.2 1 (.slice A6 (srL (turnP ps rs) (turnR ps rs) t s).length c6)
                  replace OA6 := (OA6.set (p := qb) NE.out.2.2.2 0 (.slice A5 (srL (turnP ps rs) (turnR ps rs) t s).length c5)).set (p := qb) NE.out.2.2.2 1 (.slice A6 (srL (turnP ps rs) (turnR ps rs) t s).length c6)
                  clear NE
                  refine wpAnyH_done (by kernel_rfl) ?_ _
                  go_wp2
                  go_meet
                  case rel => exact ⟨pb, qb, A1, A2, A5, A6, c1, c2, c5, c6, rfl, rfl, PX, QX, OA1.ints, OA2.ints, OA5.ints, OA6.ints, hHeld.2.2⟩
      · go_simp
        refine hK.out _ _ ?_ (fun hHeld => ?_)
        · exact LowS.alloc hHeld _
        clear hK K
        try simp only [Act.put, List.setIfInBounds_toArray, List.set_cons_zero, List.set_cons_succ]
        have QX := Pair.new (VP) 42 (.slice none 0 0) (.slice none 0 0)
        have kb := below1 (VP) (.cells #[.slice none 0 0, .slice none 0 0] 42)
        replace PX := PX.below kb
        have HQB := Lib.hid (World.size_alloc (VP) (.cells #[.slice none 0 0, .slice none 0 0] 42))
        clear kb
        obtain ⟨VQ, hVQ⟩ : ∃ V, V = (VP).alloc (.cells #[.slice none 0 0, .slice none 0 0] 42) := ⟨_, rfl⟩
        rw [← hVQ] at QX HQB PX hHeld ⊢
        clear hVQ
        obtain ⟨qb, hqb⟩ : ∃ V, V = (VP).heap.size := ⟨_, rfl⟩
        have HQB2 := Lib.hid hqb
        try rw [show (VP).heap.size = qb from hqb.symm]
        rw [show (VP).heap.size = qb from hqb.symm] at QX
        clear hqb
        refine wpAnyH_ready (rs := [3]) (by kernel_rfl) (by simp) ?_
        refine AllReadyH.cons (o := ⟨some 19, _, _, _, _, _⟩) rfl (fun K hK => ?_) AllReadyH.nil
        · go_simp
          refine (implSearch_r (some ad) B ca cb ps rs s t _ hn hm (HP.out _ hHeld.2.2) (HB.out _ hHeld.2.2)).mono ?_; rintro e W1 ⟨A1, A2, c1, c2, rfl, OA1, OA2, b1⟩
          go_wp2_with fail
          refine hK.out _ _ ?_ (fun hHeld => ?_)
          · exact LowS.under b1 hHeld
          clear hK K
          try simp only [Act.put, List.setIfInBounds_toArray, List.set_cons_zero, List.set_cons_succ]
          replace PX := PX.below b1
          replace QX := QX.below b1
          have H1 := Lib.hid b1.size
          clear b1
          refine wpAnyH_ready (rs := [5]) (by kernel_rfl) (by simp) ?_
          refine AllReadyH.cons (o := ⟨some 21, _, _, _, _, _⟩) rfl (fun K hK => ?_) AllReadyH.nil
          · go_simp
            refine (implTurned_any ad B ca cb ps rs _ hn hm (HP.out _ hHeld.2.2) (HB.out _ hHeld.2.2)).mono ?_; rintro e W2 ⟨A4, B4, ca4, cb4, rfl, OP4, OR4, -, b2⟩
            go_wp2_with fail
            refine hK.out _ _ ?_ (fun hHeld => ?_)
            · exact LowS.under b2 hHeld
            clear hK K
            try simp only [Act.put, List.setIfInBounds_toArray, List.set_cons_zero, List.set_cons_succ]
            replace PX := PX.below b2
            replace QX := QX.below b2
            replace OA1 := OA1.below b2
            replace OA2 := OA2.below b2
            have IP4 := own_pts OP4
            have IR4 := own_arcs OR4
            clear OP4 OR4
            have H2 := Lib.hid b2.size
            clear b2
            refine wpAnyH_ready (rs := [8]) (by kernel_rfl) (by simp) ?_
            refine AllReadyH.cons (o := ⟨some 24, _, _, _, _, _⟩) rfl (fun K hK => ?_) AllReadyH.nil
            · go_simp
              refine (implSearch_r A4 B4 ca4 cb4 (turnP ps rs) (turnR ps rs) t s _ hnT hmT IP4 IR4).mono ?_; rintro e W3 ⟨A5, A6, c5, c6, rfl, OA5, OA6, b3⟩
              go_wp2_with fail
              refine hK.out _ _ ?_ (fun hHeld => ?_)
              · exact LowS.under b3 hHeld
              clear hK K
              try simp only [Act.put, List.setIfInBounds_toArray, List.set_cons_zero, List.set_cons_succ]
              replace PX := PX.below b3
              replace QX := QX.below b3
              replace OA1 := OA1.below b3
              replace OA2 := OA2.below b3
              clear IP4 IR4
              have H3 := Lib.hid b3.size
              clear b3
              refine wpAnyH_ready (rs := [11]) (by kernel_rfl) (by simp) ?_
              refine AllReadyH.cons (o := ⟨none, _, _, _, _, _⟩) rfl (fun K hK => ?_) AllReadyH.nil
              · obtain ⟨z0, z1, z2, z3⟩ := PX.cells
                have NE : Hid (pb ≠ qb ∧ W0.heap.size ≤ pb ∧ (pb < VQ.heap.size ∨ W1.heap.size ≤ pb) ∧ (pb < W2.heap.size ∨ W3.heap.size ≤ pb)) := Lib.hid (by have q1 := HPB.out; have q2 := HPB2.out; have q3 := HQB.out; have q4 := HQB2.out; have q5 := H1.out; have q6 := H2.out; have q7 := H3.out; have q8 := HZ0.out; omega)
                go_simp
                clear z0 z1 z2 z3
                refine hK.out _ _ ?_ (fun hHeld => ?_)
                · exact LowS.set2 hHeld HW0.out NE.out.2.1 _ _
                clear hK K
                try simp only [Act.put, List.setIfInBounds_toArray, List.set_cons_zero, List.set_cons_succ]
                replace PX := (PX.set0 (.slice A1 (srL ps rs s t).length c1)).set1 (.slice A2 (srL ps rs s t).length c2)
                replace QX := (QX.far (c := pb) NE.out.1.symm 0 (.slice A1 (srL ps rs s t).length c1)).far (c := pb) NE.out.1.symm 1 (.slice A2 (srL ps rs s t).length c2)
                replace OA1 := (OA1.set (p := pb) NE.out.2.2.1 0 (.slice A1 (srL ps rs s t).length c1)).set (p := pb) NE.out.2.2.1 1 (.slice A2 (srL ps rs s t).length c2)
                replace OA2 := (OA2.set (p := pb) NE.out.2.2.1 0 (.slice A1 (srL ps rs s t).length c1)).set (p := pb) NE.out.2.2.1 1 (.slice A2 (srL ps rs s t).length c2)
                replace OA5 := (OA5.set (p := pb) NE.out.2.2.2 0 (.slice A1 (srL ps rs s t).length c1)).set (p := pb) NE.out.2.2.2 1 (.slice A2 (srL ps rs s t).length c2)
                replace OA6 := (OA6.set (p := pb) NE.out.2.2.2 0 (.slice A1 (srL ps rs s t).length c1)).set (p := pb) NE.out.2.2.2 1 (.slice A2 (srL ps rs s t).length c2)
                clear NE
                refine wpAnyH_ready (rs := [12]) (by kernel_rfl) (by simp) ?_
                refine AllReadyH.cons (o := ⟨none, _, _, _, _, _⟩) rfl (fun K hK => ?_) AllReadyH.nil
                · obtain ⟨z0, z1, z2, z3⟩ := QX.cells
                  have NE : Hid (pb ≠ qb ∧ W0.heap.size ≤ qb ∧ (qb < VQ.heap.size ∨ W1.heap.size ≤ qb) ∧ (qb < W2.heap.size ∨ W3.heap.size ≤ qb)) := Lib.hid (by have q1 := HPB.out; have q2 := HPB2.out; have q3 := HQB.out; have q4 := HQB2.out; have q5 := H1.out; have q6 := H2.out; have q7 := H3.out; have q8 := HZ0.out; omega)
                  go_simp
                  clear z0 z1 z2 z3
                  refine hK.out _ _ ?_ (fun hHeld => ?_)
                  · exact LowS.set2 hHeld HW0.out NE.out.2.1 _ _
                  clear hK K
                  try simp only [Act.put, List.setIfInBounds_toArray, List.set_cons_zero, List.set_cons_succ]
                  replace QX := (QX.set0 (.slice A5 (srL (turnP ps rs) (turnR ps rs) t s).length c5)).set1 (.slice A6 (srL (turnP ps rs) (turnR ps rs) t s).length c6)
                  replace PX := (PX.far (c := qb) NE.out.1 0 (.slice A5 (srL (turnP ps rs) (turnR ps rs) t s).length c5)).far (c := qb) NE.out.1 1 (.slice A6 (srL (turnP ps rs) (turnR ps rs) t s).length c6)
                  replace OA1 := (OA1.set (p := qb) NE.out.2.2.1 0 (.slice A5 (srL (turnP ps rs) (turnR ps rs) t s).length c5)).set (p := qb) NE.out.2.2.1 1 (.slice A6 (srL (turnP ps rs) (turnR ps rs) t s).length c6)
                  replace OA2 := (OA2.set (p := qb) NE.out.2.2.1 0 (.slice A5 (srL (turnP ps rs) (turnR ps rs) t s).length c5)).set (p := qb) NE.out.2.2.1 1 (.slice A6 (srL (turnP ps rs) (turnR ps rs) t s).length c6)
                  replace OA5 := (OA5.set (p := qb) NE.out.2.2.2 0 (.slice A5 (srL (turnP ps rs) (turnR ps rs) t s).length c5)).set (p := qb) NE.out.2.2.2 1 (.slice A6 (srL (turnP ps rs) (turnR ps rs) t s).length c6)
                  replace OA6 := (OA6.set (p := qb) NE.out.2.2.2 0 (.slice A5 (srL (turnP ps rs) (turnR ps rs) t s).length c5)).set (p := qb) NE.out.2.2.2 1 (.slice A6 (srL (turnP ps rs) (turnR ps rs) t s).length c6)
                  clear NE
                  refine wpAnyH_done (by kernel_rfl) ?_ _
                  go_wp2
                  go_meet
                  case rel => exact ⟨pb, qb, A1, A2, A5, A6, c1, c2, c5, c6, rfl, rfl, PX, QX, OA1.ints, OA2.ints, OA5.ints, OA6.ints, hHeld.2.2⟩
    · go_simp
      refine hK.out _ _ ?_ (fun hHeld => ?_)
      · exact LowS.alloc hHeld _
      clear hK K
      try simp only [Act.put, List.setIfInBounds_toArray, List.set_cons_zero, List.set_cons_succ]
      have QX := Pair.new (DW) 42 (.slice none 0 0) (.slice none 0 0)
      have kb := below1 (DW) (.cells #[.slice none 0 0, .slice none 0 0] 42)
      have HQB := Lib.hid (World.size_alloc (DW) (.cells #[.slice none 0 0, .slice none 0 0] 42))
      clear kb
      obtain ⟨VQ, hVQ⟩ : ∃ V, V = (DW).alloc (.cells #[.slice none 0 0, .slice none 0 0] 42) := ⟨_, rfl⟩
      rw [← hVQ] at QX HQB hHeld ⊢
      clear hVQ
      obtain ⟨qb, hqb⟩ : ∃ V, V = (DW).heap.size := ⟨_, rfl⟩
      have HQB2 := Lib.hid hqb
      try rw [show (DW).heap.size = qb from hqb.symm]
      rw [show (DW).heap.size = qb from hqb.symm] at QX
      clear hqb
      refine wpAnyH_ready (rs := [3, 9]) (by kernel_rfl) (by simp) ?_
      refine AllReadyH.cons (o := ⟨some 19, _, _, _, _, _⟩) rfl (fun K hK => ?_) (AllReadyH.cons (o := ⟨some 9, _, _, _, _, _⟩) rfl (fun K hK => ?_) AllReadyH.nil)
      · go_simp
        refine (implSearch_r (some ad) B ca cb ps rs s t _ hn hm (HP.out _ hHeld.2.2) (HB.out _ hHeld.2.2)).mono ?_; rintro e W1 ⟨A1, A2, c1, c2, rfl, OA1, OA2, b1⟩
        go_wp2_with fail
        refine hK.out _ _ ?_ (fun hHeld => ?_)
        · exact LowS.under b1 hHeld
        clear hK K
        try simp only [Act.put, List.setIfInBounds_toArray, List.set_cons_zero, List.set_cons_succ]
        replace QX := QX.below b1
        have H1 := Lib.hid b1.size
        clear b1
        refine wpAnyH_ready (rs := [5, 9]) (by kernel_rfl) (by simp) ?_
        refine AllReadyH.cons (o := ⟨some 21, _, _, _, _, _⟩) rfl (fun K hK => ?_) (AllReadyH.cons (o := ⟨some 9, _, _, _, _, _⟩) rfl (fun K hK => ?_) AllReadyH.nil)
        · go_simp
          refine (implTurned_any ad B ca cb ps rs _ hn hm (HP.out _ hHeld.2.2) (HB.out _ hHeld.2.2)).mono ?_; rintro e W2 ⟨A4, B4, ca4, cb4, rfl, OP4, OR4, -, b2⟩
          go_wp2_with fail
          refine hK.out _ _ ?_ (fun hHeld => ?_)
          · exact LowS.under b2 hHeld
          clear hK K
          try simp only [Act.put, List.setIfInBounds_toArray, List.set_cons_zero, List.set_cons_succ]
          replace QX := QX.below b2
          replace OA1 := OA1.below b2
          replace OA2 := OA2.below b2
          have IP4 := own_pts OP4
          have IR4 := own_arcs OR4
          clear OP4 OR4
          have H2 := Lib.hid b2.size
          clear b2
          refine wpAnyH_ready (rs := [8, 9]) (by kernel_rfl) (by simp) ?_
          refine AllReadyH.cons (o := ⟨some 24, _, _, _, _, _⟩) rfl (fun K hK => ?_) (AllReadyH.cons (o := ⟨some 9, _, _, _, _, _⟩) rfl (fun K hK => ?_) AllReadyH.nil)
          · go_simp
            refine (implSearch_r A4 B4 ca4 cb4 (turnP ps rs) (turnR ps rs) t s _ hnT hmT IP4 IR4).mono ?_; rintro e W3 ⟨A5, A6, c5, c6, rfl, OA5, OA6, b3⟩
            go_wp2_with fail
            refine hK.out _ _ ?_ (fun hHeld => ?_)
            · exact LowS.under b3 hHeld
            clear hK K
            try simp only [Act.put, List.setIfInBounds_toArray, List.set_cons_zero, List.set_cons_succ]
            replace QX := QX.below b3
            replace OA1 := OA1.below b3
            replace OA2 := OA2.below b3
            clear IP4 IR4
            have H3 := Lib.hid b3.size
            clear b3
            refine wpAnyH_ready (rs := [9]) (by kernel_rfl) (by simp) ?_
            refine AllReadyH.cons (o := ⟨some 9, _, _, _, _, _⟩) rfl (fun K hK => ?_) AllReadyH.nil
            · go_simp
              refine hK.out _ _ ?_ (fun hHeld => ?_)
              · exact LowS.alloc hHeld _
              clear hK K
              try simp only [Act.put, List.setIfInBounds_toArray, List.set_cons_zero, List.set_cons_succ]
              have PX := Pair.new (W3) 42 (.slice none 0 0) (.slice none 0 0)
              have kb := below1 (W3) (.cells #[.slice none 0 0, .slice none 0 0] 42)
              replace QX := QX.below kb
              replace OA1 := OA1.below kb
              replace OA2 := OA2.below kb
              replace OA5 := OA5.below kb
              replace OA6 := OA6.below kb
              have HPB := Lib.hid (World.size_alloc (W3) (.cells #[.slice none 0 0, .slice none 0 0] 42))
              clear kb
              obtain ⟨VP, hVP⟩ : ∃ V, V = (W3).alloc (.cells #[.slice none 0 0, .slice none 0 0] 42) := ⟨_, rfl⟩
              rw [← hVP] at PX HPB QX OA1 OA2 OA5 OA6 hHeld ⊢
              clear hVP
              obtain ⟨pb, hpb⟩ : ∃ V, V = (W3).heap.size := ⟨_, rfl⟩
              have HPB2 := Lib.hid hpb
              try rw [show (W3).heap.size = pb from hpb.symm]
              rw [show (W3).heap.size = pb from hpb.symm] at PX
              clear hpb
              refine wpAnyH_ready (rs := [11]) (by kernel_rfl) (by simp) ?_
              refine AllReadyH.cons (o := ⟨none, _, _, _, _, _⟩) rfl (fun K hK => ?_) AllReadyH.nil
              · obtain ⟨z0, z1, z2, z3⟩ := PX.cells
                have NE : Hid (pb ≠ qb ∧ W0.heap.size ≤ pb ∧ (pb < VQ.heap.size ∨ W1.heap.size ≤ pb) ∧ (pb < W2.heap.size ∨ W3.heap.size ≤ pb)) := Lib.hid (by have q1 := HPB.out; have q2 := HPB2.out; have q3 := HQB.out; have q4 := HQB2.out; have q5 := H1.out; have q6 := H2.out; have q7 := H3.out; have q8 := HZ0.out; omega)
                go_simp
                clear z0 z1 z2 z3
                refine hK.out _ _ ?_ (fun hHeld => ?_)
                · exact LowS.set2 hHeld HW0.out NE.out.2.1 _ _
                clear hK K
                try simp only [Act.put, List.setIfInBounds_toArray, List.set_cons_zero, List.set_cons_succ]
                replace PX := (PX.set0 (.slice A1 (srL ps rs s t).length c1)).set1 (.slice A2 (srL ps rs s t).length c2)
                replace QX := (QX.far (c := pb) NE.out.1.symm 0 (.slice A1 (srL ps rs s t).length c1)).far (c := pb) NE.out.1.symm 1 (.slice A2 (srL ps rs s t).length c2)
                replace OA1 := (OA1.set (p := pb) NE.out.2.2.1 0 (.slice A1 (srL ps rs s t).length c1)).set (p := pb) NE.out.2.2.1 1 (.slice A2 (srL ps rs s t).length c2)
                replace OA2 := (OA2.set (p := pb) NE.out.2.2.1 0 (.slice A1 (srL ps rs s t).length c1)).set (p := pb) NE.out.2.2.1 1 (.slice A2 (srL ps rs s t).length c2)
                replace OA5 := (OA5.set (p := pb) NE.out.2.2.2 0 (.slice A1 (srL ps rs s t).length c1)).set (p := pb) NE.out.2.2.2 1 (.slice A2 (srL ps rs s t).length c2)
                replace OA6 := (OA6.set (p := pb) NE.out.2.2.2 0 (.slice A1 (srL ps rs s t).length c1)).set (p := pb) NE.out.2.2.2 1 (.slice A2 (srL ps rs s t).length c2)
                clear NE
                refine wpAnyH_ready (rs := [12]) (by kernel_rfl) (by simp) ?_
                refine AllReadyH.cons (o := ⟨none, _, _, _, _, _⟩) rfl (fun K hK => ?_) AllReadyH.nil
                · obtain ⟨z0, z1, z2, z3⟩ := QX.cells
                  have NE : Hid (pb ≠ qb ∧ W0.heap.size ≤ qb ∧ (qb < VQ.heap.size ∨ W1.heap.size ≤ qb) ∧ (qb < W2.heap.size ∨ W3.heap.size ≤ qb)) := Lib.hid (by have q1 := HPB.out; have q2 := HPB2.out; have q3 := HQB.out; have q4 := HQB2.out; have q5 := H1.out; have q6 := H2.out; have q7 := H3.out; have q8 := HZ0.out; omega)
                  go_simp
                  clear z0 z1 z2 z3
                  refine hK.out _ _ ?_ (fun hHeld => ?_)
                  · exact LowS.set2 hHeld HW0.out NE.out.2.1 _ _
                  clear hK K
                  try simp only [Act.put, List.setIfInBounds_toArray, List.set_cons_zero, List.set_cons_succ]
                  replace QX := (QX.set0 (.slice A5 (srL (turnP ps rs) (turnR ps rs) t s).length c5)).set1 (.slice A6 (srL (turnP ps rs) (turnR ps rs) t s).length c6)
                  replace PX := (PX.far (c := qb) NE.out.1 0 (.slice A5 (srL (turnP ps rs) (turnR ps rs) t s).length c5)).far (c := qb) NE.out.1 1 (.slice A6 (srL (turnP ps rs) (turnR ps rs) t s).length c6)
                  replace OA1 := (OA1.set (p := qb) NE.out.2.2.1 0 (.slice A5 (srL (turnP ps rs) (turnR ps rs) t s).length c5)).set (p := qb) NE.out.2.2.1 1 (.slice A6 (srL (turnP ps rs) (turnR ps rs) t s).length c6)
                  replace OA2 := (OA2.set (p := qb) NE.out.2.2.1 0 (.slice A5 (srL (turnP ps rs) (turnR ps rs) t s).length c5)).set (p := qb) NE.out.2.2.1 1 (.slice A6 (srL (turnP ps rs) (turnR ps rs) t s).length c6)
                  replace OA5 := (OA5.set (p := qb) NE.out.2.2.2 0 (.slice A5 (srL (turnP ps rs) (turnR ps rs) t s).length c5)).set (p := qb) NE.out.2.2.2 1 (.slice A6 (srL (turnP ps rs) (turnR ps rs) t s).length c6)
                  replace OA6 := (OA6.set (p := qb) NE.out.2.2.2 0 (.slice A5 (srL (turnP ps rs) (turnR ps rs) t s).length c5)).set (p := qb) NE.out.2.2.2 1 (.slice A6 (srL (turnP ps rs) (turnR ps rs) t s).length c6)
                  clear NE
                  refine wpAnyH_done (by kernel_rfl) ?_ _
                  go_wp2
                  go_meet
                  case rel => exact ⟨pb, qb, A1, A2, A5, A6, c1, c2, c5, c6, rfl, rfl, PX, QX, OA1.ints, OA2.ints, OA5.ints, OA6.ints, hHeld.2.2⟩
          · go_simp
            refine hK.out _ _ ?_ (fun hHeld => ?_)
            · exact LowS.alloc hHeld _
            clear hK K
            try simp only [Act.put, List.setIfInBounds_toArray, List.set_cons_zero, List.set_cons_succ]
            have PX := Pair.new (W2) 42 (.slice none 0 0) (.slice none 0 0)
            have kb := below1 (W2) (.cells #[.slice none 0 0, .slice none 0 0] 42)
            replace QX := QX.below kb
            replace OA1 := OA1.below kb
            replace OA2 := OA2.below kb
            replace IP4 := IP4.below kb
            replace IR4 := IR4.below kb
            have HPB := Lib.hid (World.size_alloc (W2) (.cells #[.slice none 0 0, .slice none 0 0] 42))
            clear kb
            obtain ⟨VP, hVP⟩ : ∃ V, V = (W2).alloc (.cells #[.slice none 0 0, .slice none 0 0] 42) := ⟨_, rfl⟩
            rw [← hVP] at PX HPB QX OA1 OA2 IP4 IR4 hHeld ⊢
            clear hVP
            obtain ⟨pb, hpb⟩ : ∃ V, V = (W2).heap.size := ⟨_, rfl⟩
            have HPB2 := Lib.hid hpb
            try rw [show (W2).heap.size = pb from hpb.symm]
            rw [show (W2).heap.size = pb from hpb.symm] at PX
            clear hpb
            refine wpAnyH_ready (rs := [8]) (by kernel_rfl) (by simp) ?_
            refine AllReadyH.cons (o := ⟨some 24, _, _, _, _, _⟩) rfl (fun K hK => ?_) AllReadyH.nil
            · go_simp
              refine (implSearch_r A4 B4 ca4 cb4 (turnP ps rs) (turnR ps rs) t s _ hnT hmT IP4 IR4).mono ?_; rintro e W3 ⟨A5, A6, c5, c6, rfl, OA5, OA6, b3⟩
              go_wp2_with fail
              refine hK.out _ _ ?_ (fun hHeld => ?_)
              · exact LowS.under b3 hHeld
              clear hK K
              try simp only [Act.put, List.setIfInBounds_toArray, List.set_cons_zero, List.set_cons_succ]
              replace QX := QX.below b3
              replace OA1 := OA1.below b3
              replace OA2 := OA2.below b3
              replace PX := PX.below b3
              clear IP4 IR4
              have H3 := Lib.hid b3.size
              clear b3
              refine wpAnyH_ready (rs := [11]) (by kernel_rfl) (by simp) ?_
              refine AllReadyH.cons (o := ⟨none, _, _, _, _, _⟩) rfl (fun K hK => ?_) AllReadyH.nil
              · obtain ⟨z0, z1, z2, z3⟩ := PX.cells
                have NE : Hid (pb ≠ qb ∧ W0.heap.size ≤ pb ∧ (pb < VQ.heap.size ∨ W1.heap.size ≤ pb) ∧ (pb < VP.heap.size ∨ W3.heap.size ≤ pb)) := Lib.hid (by have q1 := HPB.out; have q2 := HPB2.out; have q3 := HQB.out; have q4 := HQB2.out; have q5 := H1.out; have q6 := H2.out; have q7 := H3.out; have q8 := HZ0.out; omega)
                go_simp
                clear z0 z1 z2 z3
                refine hK.out _ _ ?_ (fun hHeld => ?_)
                · exact LowS.set2 hHeld HW0.out NE.out.2.1 _ _
                clear hK K
                try simp only [Act.put, List.setIfInBounds_toArray, List.set_cons_zero, List.set_cons_succ]
                replace PX := (PX.set0 (.slice A1 (srL ps rs s t).length c1)).set1 (.slice A2 (srL ps rs s t).length c2)
                replace QX := (QX.far (c := pb) NE.out.1.symm 0 (.slice A1 (srL ps rs s t).length c1)).far (c := pb) NE.out.1.symm 1 (.slice A2 (srL ps rs s t).length c2)
                replace OA1 := (OA1.set (p := pb) NE.out.2.2.1 0 (.slice A1 (srL ps rs s t).length c1)).set (p := pb) NE.out.2.2.1 1 (.slice A2 (srL ps rs s t).length c2)
                replace OA2 := (OA2.set (p := pb) NE.out.2.2.1 0 (.slice A1 (srL ps rs s t).length c1)).set (p := pb) NE.out.2.2.1 1 (.slice A2 (srL ps rs s t).length c2)
                replace OA5 := (OA5.set (p := pb) NE.out.2.2.2 0 (.slice A1 (srL ps rs s t).length c1)).set (p := pb) NE.out.2.2.2 1 (.slice A2 (srL ps rs s t).length c2)
                replace OA6 := (OA6.set (p := pb) NE.out.2.2.2 0 (.slice A1 (srL ps rs s t).length c1)).set (p := pb) NE.out.2.2.2 1 (.slice A2 (srL ps rs s t).length c2)
                clear NE
                refine wpAnyH_ready (rs := [12]) (by kernel_rfl) (by simp) ?_
                refine AllReadyH.cons (o := ⟨none, _, _, _, _, _⟩) rfl (fun K hK => ?_) AllReadyH.nil
                · obtain ⟨z0, z1, z2, z3⟩ := QX.cells
                  have NE : Hid (pb ≠ qb ∧ W0.heap.size ≤ qb ∧ (qb < VQ.heap.size ∨ W1.heap.size ≤ qb) ∧ (qb < VP.heap.size ∨ W3.heap.size ≤ qb)) := Lib.hid (by have q1 := HPB.out; have q2 := HPB2.out; have q3 := HQB.out; have q4 := HQB2.out; have q5 := H1.out; have q6 := H2.out; have q7 := H3.out; have q8 := HZ0.out; omega)
                  go_simp
                  clear z0 z1 z2 z3
                  refine hK.out _ _ ?_ (fun hHeld => ?_)
                  · exact LowS.set2 hHeld HW0.out NE.out.2.1 _ _
                  clear hK K
                  try simp only [Act.put, List.setIfInBounds_toArray, List.set_cons_zero, List.set_cons_succ]
                  replace QX := (QX.set0 (.slice A5 (srL (turnP ps rs) (turnR ps rs) t s).length c5)).set1 (.slice A6 (srL (turnP ps rs) (turnR ps rs) t s).length c6)
                  replace PX := (PX.far (c := qb) NE.out.1 0 (.slice A5 (srL (turnP ps rs) (turnR ps rs) t s).length c5)).far (c := qb) NE.out.1 1 (.slice A6 (srL (turnP ps rs) (turnR ps rs) t s).length c6)
                  replace OA1 := (OA1.set (p := qb) NE.out.2.2.1 0 (.slice A5 (srL (turnP ps rs) (turnR ps rs) t s).length c5)).set (p := qb) NE.out.2.2.1 1 (.slice A6 (srL (turnP ps rs) (turnR ps rs) t s).length c6)
                  replace OA2 := (OA2.set (p := qb) NE.out.2.2.1 0 (.slice A5 (srL (turnP ps rs) (turnR ps rs) t s).length c5)).set (p := qb) NE.out.2.2.1 1 (.slice A6 (srL (turnP ps rs) (turnR ps rs) t s).length c6)
                  replace OA5 := (OA5.set (p := qb) NE.out.2.2.2 0 (.slice A5 (srL (turnP ps rs) (turnR ps rs) t s).length c5)).set (p := qb) NE.out.2.2.2 1 (.slice A6 (srL (turnP ps rs) (turnR ps rs) t s).length c6)
                  replace OA6 := (OA6.set (p := qb) NE.out.2.2.2 0 (.slice A5 (srL (turnP ps rs) (turnR ps rs) t s).length c5)).set (p := qb) NE.out.2.2.2 1 (.slice A6 (srL (turnP ps rs) (turnR ps rs) t s).length c6)
                  clear NE
                  refine wpAnyH_done (by kernel_rfl) ?_ _
                  go_wp2
                  go_meet
                  case rel => exact ⟨pb, qb, A1, A2, A5, A6, c1, c2, c5, c6, rfl, rfl, PX, QX, OA1.ints, OA2.ints, OA5.ints, OA6.ints, hHeld.2.2⟩
        · go_simp
          refine hK.out _ _ ?_ (fun hHeld => ?_)
          · exact LowS.alloc hHeld _
          clear hK K
          try simp only [Act.put, List.setIfInBounds_toArray, List.set_cons_zero, List.set_cons_succ]
          have PX := Pair.new (W1) 42 (.slice none 0 0) (.slice none 0 0)
          have kb := below1 (W1) (.cells #[.slice none 0 0, .slice none 0 0] 42)
          replace QX := QX.below kb
          replace OA1 := OA1.below kb
          replace OA2 := OA2.below kb
          have HPB := Lib.hid (World.size_alloc (W1) (.cells #[.slice none 0 0, .slice none 0 0] 42))
          clear kb
          obtain ⟨VP, hVP⟩ : ∃ V, V = (W1).alloc (.cells #[.slice none 0 0, .slice none 0 0] 42) := ⟨_, rfl⟩
          rw [← hVP] at PX HPB QX OA1 OA2 hHeld ⊢
          clear hVP
          obtain ⟨pb, hpb⟩ : ∃ V, V = (W1).heap.size := ⟨_, rfl⟩
          have HPB2 := Lib.hid hpb
          try rw [show (W1).heap.size = pb from hpb.symm]
          rw [show (W1).heap.size = pb from hpb.symm] at PX
          clear hpb
          refine wpAnyH_ready (rs := [5]) (by kernel_rfl) (by simp) ?_
          refine AllReadyH.cons (o := ⟨some 21, _, _, _, _, _⟩) rfl (fun K hK => ?_) AllReadyH.nil
          · go_simp
            refine (implTurned_any ad B ca cb ps rs _ hn hm (HP.out _ hHeld.2.2) (HB.out _ hHeld.2.2)).mono ?_; rintro e W2 ⟨A4, B4, ca4, cb4, rfl, OP4, OR4, -, b2⟩
            go_wp2_with fail
            refine hK.out _ _ ?_ (fun hHeld => ?_)
            · exact LowS.under b2 hHeld
            clear hK K
            try simp only [Act.put, List.setIfInBounds_toArray, List.set_cons_zero, List.set_cons_succ]
            replace QX := QX.below b2
            replace OA1 := OA1.below b2
            replace OA2 := OA2.below b2
            replace PX := PX.below b2
            have IP4 := own_pts OP4
            have IR4 := own_arcs OR4
            clear OP4 OR4
            have H2 := Lib.hid b2.size
            clear b2
            refine wpAnyH_ready (rs := [8]) (by kernel_rfl) (by simp) ?_
            refine AllReadyH.cons (o := ⟨some 24, _, _, _, _, _⟩) rfl (fun K hK => ?_) AllReadyH.nil
            · go_simp
              refine (implSearch_r A4 B4 ca4 cb4 (turnP ps rs) (turnR ps rs) t s _ hnT hmT IP4 IR4).mono ?_; rintro e W3 ⟨A5, A6, c5, c6, rfl, OA5, OA6, b3⟩
              go_wp2_with fail
              refine hK.out _ _ ?_ (fun hHeld => ?_)
              · exact LowS.under b3 hHeld
              clear hK K
              try simp only [Act.put, List.setIfInBounds_toArray, List.set_cons_zero, List.set_cons_succ]
              replace QX := QX.below b3
              replace OA1 := OA1.below b3
              replace OA2 := OA2.below b3
              replace PX := PX.below b3
              clear IP4 IR4
              have H3 := Lib.hid b3.size
              clear b3
              refine wpAnyH_ready (rs := [11]) (by kernel_rfl) (by simp) ?_
              refine AllReadyH.cons (o := ⟨none, _, _, _, _, _⟩) rfl (fun K hK => ?_) AllReadyH.nil
              · obtain ⟨z0, z1, z2, z3⟩ := PX.cells
                have NE : Hid (pb ≠ qb ∧ W0.heap.size ≤ pb ∧ (pb < VQ.heap.size ∨ W1.heap.size ≤ pb) ∧ (pb < W2.heap.size ∨ W3.heap.size ≤ pb)) := Lib.hid (by have q1 := HPB.out; have q2 := HPB2.out; have q3 := HQB.out; have q4 := HQB2.out; have q5 := H1.out; have q6 := H2.out; have q7 := H3.out; have q8 := HZ0.out; omega)
                go_simp
                clear z0 z1 z2 z3
                refine hK.out _ _ ?_ (fun hHeld => ?_)
                · exact LowS.set2 hHeld HW0.out NE.out.2.1 _ _
                clear hK K
                try simp only [Act.put, List.setIfInBounds_toArray, List.set_cons_zero, List.set_cons_succ]
                replace PX := (PX.set0 (.slice A1 (srL ps rs s t).length c1)).set1 (.slice A2 (srL ps rs s t).length c2)
                replace QX := (QX.far (c := pb) NE.out.1.symm 0 (.slice A1 (srL ps rs s t).length c1)).far (c := pb) NE.out.1.symm 1 (.slice A2 (srL ps rs s t).length c2)
                replace OA1 := (OA1.set (p := pb) NE.out.2.2.1 0 (.slice A1 (srL ps rs s t).length c1)).set (p := pb) NE.out.2.2.1 1 (.slice A2 (srL ps rs s t).length c2)
                replace OA2 := (OA2.set (p := pb) NE.out.2.2.1 0 (.slice A1 (srL ps rs s t).length c1)).set (p := pb) NE.out.2.2.1 1 (.slice A2 (srL ps rs s t).length c2)
                replace OA5 := (OA5.set (p := pb) NE.out.2.2.2 0 (.slice A1 (srL ps rs s t).length c1)).set (p := pb) NE.out.2.2.2 1 (.slice A2 (srL ps rs s t).length c2)
                replace OA6 := (OA6.set (p := pb) NE.out.2.2.2 0 (.slice A1 (srL ps rs s t).length c1)).set (p := pb) NE.out.2.2.2 1 (.slice A2 (srL ps rs s t).length c2)
                clear NE
                refine wpAnyH_ready (rs := [12]) (by kernel_rfl) (by simp) ?_
                refine AllReadyH.cons (o := ⟨none, _, _, _, _, _⟩) rfl (fun K hK => ?_) AllReadyH.nil
                · obtain ⟨z0, z1, z2, z3⟩ := QX.cells
                  have NE : Hid (pb ≠ qb ∧ W0.heap.size ≤ qb ∧ (qb < VQ.heap.size ∨ W1.heap.size ≤ qb) ∧ (qb < W2.heap.size ∨ W3.heap.size ≤ qb)) := Lib.hid (by have q1 := HPB.out; have q2 := HPB2.out; have q3 := HQB.out; have q4 := HQB2.out; have q5 := H1.out; have q6 := H2.out; have q7 := H3.out; have q8 := HZ0.out; omega)
                  go_simp
                  clear z0 z1 z2 z3
                  refine hK.out _ _ ?_ (fun hHeld => ?_)
                  · exact LowS.set2 hHeld HW0.out NE.out.2.1 _ _
                  clear hK K
                  try simp only [Act.put, List.setIfInBounds_toArray, List.set_cons_zero, List.set_cons_succ]
                  replace QX := (QX.set0 (.slice A5 (srL (turnP ps rs) (turnR ps rs) t s).length c5)).set1 (.slice A6 (srL (turnP ps rs) (turnR ps rs) t s).length c6)
                  replace PX := (PX.far (c := qb) NE.out.1 0 (.slice A5 (srL (turnP ps rs) (turnR ps rs) t s).length c5)).far (c := qb) NE.out.1 1 (.slice A6 (srL (turnP ps rs) (turnR ps rs) t s).length c6)
                  replace OA1 := (OA1.set (p := qb) NE.out.2.2.1 0 (.slice A5 (srL (turnP ps rs) (turnR ps rs) t s).length c5)).set (p := qb) NE.out.2.2.1 1 (.slice A6 (srL (turnP ps rs) (turnR ps rs) t s).length c6)
                  replace OA2 := (OA2.set (p := qb) NE.out.2.2.1 0 (.slice A5 (srL (turnP ps rs) (turnR ps rs) t s).length c5)).set (p := qb) NE.out.2.2.1 1 (.slice A6 (srL (turnP ps rs) (turnR ps rs) t s).length c6)
                  replace OA5 := (OA5.set (p := qb) NE.out.2.2.2 0 (.slice A5 (srL (turnP ps rs) (turnR ps rs) t s).length c5)).set (p := qb) NE.out.2.2.2 1 (.slice A6 (srL (turnP ps rs) (turnR ps rs) t s).length c6)
                  replace OA6 := (OA6.set (p := qb) NE.out.2.2.2 0 (.slice A5 (srL (turnP ps rs) (turnR ps rs) t s).length c5)).set (p := qb) NE.out.2.2.2 1 (.slice A6 (srL (turnP ps rs) (turnR ps rs) t s).length c6)
                  clear NE
                  refine wpAnyH_done (by kernel_rfl) ?_ _
                  go_wp2
                  go_meet
                  case rel => exact ⟨pb, qb, A1, A2, A5, A6, c1, c2, c5, c6, rfl, rfl, PX, QX, OA1.ints, OA2.ints, OA5.ints, OA6.ints, hHeld.2.2⟩
      · go_simp
        refine hK.out _ _ ?_ (fun hHeld => ?_)
        · exact LowS.alloc hHeld _
        clear hK K
        try simp only [Act.put, List.setIfInBounds_toArray, List.set_cons_zero, List.set_cons_succ]
        have PX := Pair.new (VQ) 42 (.slice none 0 0) (.slice none 0 0)
        have kb := below1 (VQ) (.cells #[.slice none 0 0, .slice none 0 0] 42)
        replace QX := QX.below kb
        have HPB := Lib.hid (World.size_alloc (VQ) (.cells #[.slice none 0 0, .slice none 0 0] 42))
        clear kb
        obtain ⟨VP, hVP⟩ : ∃ V, V = (VQ).alloc (.cells #[.slice none 0 0, .slice none 0 0] 42) := ⟨_, rfl⟩
        rw [← hVP] at PX HPB QX hHeld ⊢
        clear hVP
        obtain ⟨pb, hpb⟩ : ∃ V, V = (VQ).heap.size := ⟨_, rfl⟩
        have HPB2 := Lib.hid hpb
        try rw [show (VQ).heap.size = pb from hpb.symm]
        rw [show (VQ).heap.size = pb from hpb.symm] at PX
        clear hpb
        refine wpAnyH_ready (rs := [3]) (by kernel_rfl) (by simp) ?_
        refine AllReadyH.cons (o := ⟨some 19, _, _, _, _, _⟩) rfl (fun K hK => ?_) AllReadyH.nil
        · go_simp
          refine (implSearch_r (some ad) B ca cb ps rs s t _ hn hm (HP.out _ hHeld.2.2) (HB.out _ hHeld.2.2)).mono ?_; rintro e W1 ⟨A1, A2, c1, c2, rfl, OA1, OA2, b1⟩
          go_wp2_with fail
          refine hK.out _ _ ?_ (fun hHeld => ?_)
          · exact LowS.under b1 hHeld
          clear hK K
          try simp only [Act.put, List.setIfInBounds_toArray, List.set_cons_zero, List.set_cons_succ]
          replace QX := QX.below b1
          replace PX := PX.below b1
          have H1 := Lib.hid b1.size
          clear b1
          refine wpAnyH_ready (rs := [5]) (by kernel_rfl) (by simp) ?_
          refine AllReadyH.cons (o := ⟨some 21, _, _, _, _, _⟩) rfl (fun K hK => ?_) AllReadyH.nil
          · go_simp
            refine (implTurned_any ad B ca cb ps rs _ hn hm (HP.out _ hHeld.2.2) (HB.out _ hHeld.2.2)).mono ?_; rintro e W2 ⟨A4, B4, ca4, cb4, rfl, OP4, OR4, -, b2⟩
            go_wp2_with fail
            refine hK.out _ _ ?_ (fun hHeld => ?_)
            · exact LowS.under b2 hHeld
            clear hK K
            try simp only [Act.put, List.setIfInBounds_toArray, List.set_cons_zero, List.set_cons_succ]
            replace QX := QX.below b2
            replace PX := PX.below b2
            replace OA1 := OA1.below b2
            replace OA2 := OA2.below b2
            have IP4 := own_pts OP4
            have IR4 := own_arcs OR4
            clear OP4 OR4
            have H2 := Lib.hid b2.size
            clear b2
            refine wpAnyH_ready (rs := [8]) (by kernel_rfl) (by simp) ?_
            refine AllReadyH.cons (o := ⟨some 24, _, _, _, _, _⟩) rfl (fun K hK => ?_) AllReadyH.nil
            · go_simp
              refine (implSearch_r A4 B4 ca4 cb4 (turnP ps rs) (turnR ps rs) t s _ hnT hmT IP4 IR4).mono ?_; rintro e W3 ⟨A5, A6, c5, c6, rfl, OA5, OA6, b3⟩
              go_wp2_with fail
              refine hK.out _ _ ?_ (fun hHeld => ?_)
              · exact LowS.under b3 hHeld
              clear hK K
              try simp only [Act.put, List.setIfInBounds_toArray, List.set_cons_zero, List.set_cons_succ]
              replace QX := QX.below b3
              replace PX := PX.below b3
              replace OA1 := OA1.below b3
              replace OA2 := OA2.below b3
              clear IP4 IR4
              have H3 := Lib.hid b3.size
              clear b3
              refine wpAnyH_ready (rs := [11]) (by kernel_rfl) (by simp) ?_
              refine AllReadyH.cons (o := ⟨none, _, _, _, _, _⟩) rfl (fun K hK => ?_) AllReadyH.nil
              · obtain ⟨z0, z1, z2, z3⟩ := PX.cells
                have NE : Hid (pb ≠ qb ∧ W0.heap.size ≤ pb ∧ (pb < VP.heap.size ∨ W1.heap.size ≤ pb) ∧ (pb < W2.heap.size ∨ W3.heap.size ≤ pb)) := Lib.hid (by have q1 := HPB.out; have q2 := HPB2.out; have q3 := HQB.out; have q4 := HQB2.out; have q5 := H1.out; have q6 := H2.out; have q7 := H3.out; have q8 := HZ0.out; omega)
                go_simp
                clear z0 z1 z2 z3
                refine hK.out _ _ ?_ (fun hHeld => ?_)
                · exact LowS.set2 hHeld HW0.out NE.out.2.1 _ _
                clear hK K
                try simp only [Act.put, List.setIfInBounds_toArray, List.set_cons_zero, List.set_cons_succ]
                replace PX := (PX.set0 (.slice A1 (srL ps rs s t).length c1)).set1 (.slice A2 (srL ps rs s t).length c2)
                replace QX := (QX.far (c := pb) NE.out.1.symm 0 (.slice A1 (srL ps rs s t).length c1)).far (c := pb) NE.out.1.symm 1 (.slice A2 (srL ps rs s t).length c2)
                replace OA1 := (OA1.set (p := pb) NE.out.2.2.1 0 (.slice A1 (srL ps rs s t).length c1)).set (p := pb) NE.out.2.2.1 1 (.slice A2 (srL ps rs s t).length c2)
                replace OA2 := (OA2.set (p := pb) NE.out.2.2.1 0 (.slice A1 (srL ps rs s t).length c1)).set (p := pb) NE.out.2.2.1 1 (.slice A2 (srL ps rs s t).length c2)
                replace OA5 := (OA5.set (p := pb) NE.out.2.2.2 0 (.slice A1 (srL ps rs s t).length c1)).set (p := pb) NE.out.2.2.2 1 (.slice A2 (srL ps rs s t).length c2)
                replace OA6 := (OA6.set (p := pb) NE.out.2.2.2 0 (.slice A1 (srL ps rs s t).length c1)).set (p := pb) NE.out.2.2.2 1 (.slice A2 (srL ps rs s t).length c2)
                clear NE
                refine wpAnyH_ready (rs := [12]) (by kernel_rfl) (by simp) ?_
                refine AllReadyH.cons (o := ⟨none, _, _, _, _, _⟩) rfl (fun K hK => ?_) AllReadyH.nil
                · obtain ⟨z0, z1, z2, z3⟩ := QX.cells
                  have NE : Hid (pb ≠ qb ∧ W0.heap.size ≤ qb ∧ (qb < VP.heap.size ∨ W1.heap.size ≤ qb) ∧ (qb < W2.heap.size ∨ W3.heap.size ≤ qb)) := Lib.hid (by have q1 := HPB.out; have q2 := HPB2.out; have q3 := HQB.out; have q4 := HQB2.out; have q5 := H1.out; have q6 := H2.out; have q7 := H3.out; have q8 := HZ0.out; omega)
                  go_simp
                  clear z0 z1 z2 z3
                  refine hK.out _ _ ?_ (fun hHeld => ?_)
                  · exact LowS.set2 hHeld HW0.out NE.out.2.1 _ _
                  clear hK K
                  try simp only [Act.put, List.setIfInBounds_toArray, List.set_cons_zero, List.set_cons_succ]
                  replace QX := (QX.set0 (.slice A5 (srL (turnP ps rs) (turnR ps rs) t s).length c5)).set1 (.slice A6 (srL (turnP ps rs) (turnR ps rs) t s).length c6)
                  replace PX := (PX.far (c := qb) NE.out.1 0 (.slice A5 (srL (turnP ps rs) (turnR ps rs) t s).length c5)).far (c := qb) NE.out.1 1 (.slice A6 (srL (turnP ps rs) (turnR ps rs) t s).length c6)
                  replace OA1 := (OA1.set (p := qb) NE.out.2.2.1 0 (.slice A5 (srL (turnP ps rs) (turnR ps rs) t s).length c5)).set (p := qb) NE.out.2.2.1 1 (.slice A6 (srL (turnP ps rs) (turnR ps rs) t s).length c6)
                  replace OA2 := (OA2.set (p := qb) NE.out.2.2.1 0 (.slice A5 (srL (turnP ps rs) (turnR ps rs) t s).length c5)).set (p := qb) NE.out.2.2.1 1 (.slice A6 (srL (turnP ps rs) (turnR ps rs) t s).length c6)
                  replace OA5 := (OA5.set (p := qb) NE.out.2.2.2 0 (.slice A5 (srL (turnP ps rs) (turnR ps rs) t s).length c5)).set (p := qb) NE.out.2.2.2 1 (.slice A6 (srL (turnP ps rs) (turnR ps rs) t s).length c6)
                  replace OA6 := (OA6.set (p := qb) NE.out.2.2.2 0 (.slice A5 (srL (turnP ps rs) (turnR ps rs) t s).length c5)).set (p := qb) NE.out.2.2.2 1 (.slice A6 (srL (turnP ps rs) (turnR ps rs) t s).length c6)
                  clear NE
                  refine wpAnyH_done (by kernel_rfl) ?_ _
                  go_wp2
                  go_meet
                  case rel => exact ⟨pb, qb, A1, A2, A5, A6, c1, c2, c5, c6, rfl, rfl, PX, QX, OA1.ints, OA2.ints, OA5.ints, OA6.ints, hHeld.2.2⟩
  case rest =>
    obtain ⟨pb, qb, A1, A2, A5, A6, c1, c2, c5, c6, rfl, rfl, PX, QX, I1, I2, I5, I6, KC⟩ := hcut
    replace K := K.trans (KC.mono K.size)
    have HG := Lib.hid (both_goal ps rs s t)
    have HNO := Lib.hid (fun h => bothV_no (ps := ps) (rs := rs) (s := s) (t := t) h)
    have HYES := Lib.hid (fun h => both_least (ps := ps) (rs := rs) (s := s) (t := t) h)
    have HK1 := Lib.hid (fun p => srL_keys (ps := ps) (rs := rs) (s := s) (t := t) (p := p))
    have HK2 := Lib.hid (fun u => keyOf_bd (R := srL (turnP ps rs) (turnR ps rs) t s) (fun p hp => srL_keys hp) u)
    have h20 := srL_len ps rs s t
    have h21 := srL_len (turnP ps rs) (turnR ps rs) t s
    clear KC HW0 HP HB X x0 x1 ha hb hnT hmT
    generalize srL ps rs s t = R1 at PX I1 I2 HG HYES HK1 h20
    generalize srL (turnP ps rs) (turnR ps rs) t s = R2 at QX I5 I6 HYES HK2 h21
    generalize dB ps rs s t = d at HG HNO HYES
    have HL1 : Hid ((idsL R1).length = R1.length) := Lib.hid (by simp [idsL])
    have HL2 : Hid ((keysL R1).length = R1.length) := Lib.hid (by simp [keysL])
    obtain ⟨x0, x1, -, -⟩ := PX.cells
    go_wp2_with fail
    refine (distOf_any A1 A2 c1 c2 R1 t _ (by omega) I1 I2).mono ?_; rintro e w1 ⟨rfl, b1⟩
    rw [HG.out]
    replace PX := PX.below b1
    replace QX := QX.below b1
    replace I1 := I1.below b1
    replace I2 := I2.below b1
    replace I5 := I5.below b1
    replace I6 := I6.below b1
    replace K := K.trans (b1.mono K.size)
    clear b1 x0 x1
    by_cases hd : d = -1
    · have HQ := Lib.hid (HNO.out hd)
      have hdb : (d == -1) = true := by simpa using hd
      clear hd
      go_wp2
      go_ret3
      rw [HQ.out]
      exact ⟨rfl, K⟩
    · have HQ := Lib.hid (HYES.out hd)
      have hdb : (d == -1) = false := by simpa using hd
      clear hd HNO HYES HG
      obtain ⟨x0, x1, -, -⟩ := PX.cells
      go_wp2_with fail
      clear x0 x1 hdb
      go_loopw [12, 33] (fun V vi wr => ∃ (k m : Nat), k ≤ R1.length ∧ vi = .int .i64 k ∧ Hid (m = (keptB R1 R2 d (R1.take k)).length) ∧ m ≤ k ∧ wr.ownsRow w1.heap.size 3 1 V m ((keptB R1 R2 d (R1.take k)).map (Value.int .i64)) ∧ Below w1.heap.size w1 wr) (fun _ vi _ => R1.length - (intOf vi).toNat)
      case atStart => exact ⟨0, 0, by omega, rfl, Lib.hid rfl, by omega, by simpa [keptB] using World.ownsRow_nil _ _ _ _, Below.refl _ _⟩
      case round =>
        obtain ⟨k, m, hkl, rfl, HM, hmk, own, Kw⟩ := hrel
        by_cases hlt : k < R1.length
        · have hkli : (k : Int) < R1.length := by omega
          have PW := PX.below Kw
          have QW := QX.below Kw
          obtain ⟨b, off, rfl, hb, ci⟩ := (I1.below Kw).at_ (k := k) (by rw [HL1.out]; exact hlt)
          obtain ⟨b', off', rfl, hb', di⟩ := (I2.below Kw).at_ (k := k) (by rw [HL2.out]; exact hlt)
          have HST := Lib.hid (keptB_step (R2 := R2) (d := d) hlt)
          have HX : Hid (0 ≤ zg (keysL R1) k ∧ zg (keysL R1) k ≤ 200000) := Lib.hid (by
            have e2 : zg (keysL R1) k = R1[k].1 := by unfold zg keysL; rw [List.getD_eq_getElem?_getD, List.getElem?_map, List.getElem?_eq_getElem hlt]; rfl
            rw [e2]; exact HK1.out _ (List.getElem_mem hlt))
          have HY := Lib.hid (HK2.out (zg (idsL R1) k))
          obtain ⟨q0, q1, -, -⟩ := QW.cells
          obtain ⟨L1, hL1⟩ : ∃ L1, L1 = keptB R1 R2 d (R1.take (k + 1)) := ⟨_, rfl⟩
          rw [← hL1] at HST
          have HT := Lib.hid hL1
          clear hL1
          generalize keptB R1 R2 d (R1.take k) = L0 at HST own HM
          generalize zg (idsL R1) k = u at ci HST HY
          generalize zg (keysL R1) k = x at di HST HX
          go_wp2_with fail
          clear q0 q1
          refine (distOf_any A5 A6 c5 c6 R2 u _ (by omega) (I5.below Kw) (I6.below Kw)).mono ?_; rintro e w2 ⟨rfl, b2⟩
          generalize keyOf R2 u = y at HST HY ⊢
          replace own := ownsRow_below own b2
          replace PW := PW.below b2
          replace di := cell_under b2 di
          have hws := Kw.size
          replace Kw := Kw.trans (b2.mono Kw.size)
          clear b2 QW ci hws
          obtain ⟨x0, x1, -, -⟩ := PW.cells
          have hxb := HX.out
          by_cases hy : y = -1
          · have hy1 : (y != -1) = false := by simpa using hy
            have HE : Hid (L1 = L0) := Lib.hid (by rw [HST.out, if_neg (by rw [hy1]; simp)])
            clear hy
            rw [← HE.out] at own HM
            go_wp2
            go_roundw
            case rel => exact ⟨k + 1, m, by omega, by go_num, by rw [← HT.out]; exact HM, by omega, by rw [← HT.out]; exact own, Kw⟩
            case measure => simp [intOf]; omega
          · have hy1 : (y != -1) = true := by simpa using hy
            have hyb : 0 ≤ y ∧ y ≤ 200000 := by rcases HY.out with g | g; exact absurd g hy; exact g
            have hwr : IntKind.i64.wrap (x + y) = x + y := by rw [IntWalk.i64_left]; unfold wrap64; omega
            by_cases hz : x + y = d
            · have hz1 : (x + y == d) = true := by simpa using hz
              have HE : Hid (L1 = L0 ++ [u]) := Lib.hid (by rw [HST.out, if_pos (by rw [hy1, hz1]; rfl)])
              have hol := World.ownsRow.lt own
              have kc := below1 w2 (.cells #[.int .i64 u] 3)
              obtain ⟨v1, w4, hr1, p1, g1⟩ := run_append_intF (w := w2) 40 w1.heap.size _ m _ own u (by omega) Kw.size
              have K4 := (Kw.trans (kc.mono Kw.size)).grown g1 (by have := Kw.size; rw [World.size_alloc]; omega) (fun b e => by have := (hol b e).1; omega)
              rw [show L0.map (Value.int .i64) ++ [.int .i64 u] = L1.map (Value.int .i64) by rw [HE.out]; simp] at p1
              have HM1 : Hid (m + 1 = L1.length) := Lib.hid (by rw [HE.out, HM.out]; simp)
              obtain ⟨A0, c0, rfl⟩ := own_formF own
              clear hy hz own Kw kc g1 hol PW
              go_wp2_with (at_builtin; refine Lib.wpList_append_run _ rfl _ _ _ _ rfl _ _ rfl rfl _ _ hr1 ?_)
              go_roundw
              case rel => exact ⟨k + 1, m + 1, by omega, by go_num, by rw [← HT.out]; exact HM1, by omega, by rw [← HT.out]; exact p1, K4⟩
              case measure => simp [intOf]; omega
            · have hz1 : (x + y == d) = false := by simpa using hz
              have HE : Hid (L1 = L0) := Lib.hid (by rw [HST.out, if_neg (by rw [hy1, hz1]; simp)])
              clear hy hz
              rw [← HE.out] at own HM
              go_wp2
              go_roundw
              case rel => exact ⟨k + 1, m, by omega, by go_num, by rw [← HT.out]; exact HM, by omega, by rw [← HT.out]; exact own, Kw⟩
              case measure => simp [intOf]; omega
        · obtain rfl : k = R1.length := by omega
          rw [List.take_length] at own HM
          generalize hL : keptB R1 R2 d R1 = L at own HM HQ
          obtain ⟨A0, c0, rfl⟩ := own_formF own
          have hm0 := HM.out
          subst hm0
          obtain ⟨-, hcap, HI⟩ := isInts_own own
          have KF := K.trans (Kw.mono K.size)
          clear hL own
          go_wp2_with fail
          refine (implLeast_ints A0 c0 L _ (by omega) hcap HI).mono ?_; rintro e w9 ⟨rfl, rfl⟩
          go_wp2
          go_ret3
          rw [HQ.out]
          exact ⟨rfl, KF⟩
end Go.Proofs.Ytcaamhoakhgnhaa
