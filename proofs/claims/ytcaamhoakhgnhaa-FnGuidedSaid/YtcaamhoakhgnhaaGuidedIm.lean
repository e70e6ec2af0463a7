/-
  What impl.Guided computes.
-/
import Derived.Test.YtcaamhoakhgnhaaGuidedSp
namespace Go.Proofs.Ytcaamhoakhgnhaa
open Go.RowKit Go.Deep Go.Maps

/-- A guide's cells and a number, and nothing older has turned. -/
abbrev GdS (W : World) (gb : Nat) (x y z : Value) (db dj : Nat) (p : Int) (w : World) : Prop := (w.cell? ⟨gb, 0, none⟩ = some x ∧ w.cell? ⟨gb, 1, none⟩ = some y ∧ w.cell? ⟨gb, 2, none⟩ = some z) ∧ w.cell? ⟨db, dj, none⟩ = some (.int .i64 p) ∧ Below W.heap.size W w
section
variable {W : World} {gb : Nat} {x y z : Value} {db dj : Nat} {p : Int} {w w' : World}
theorem GdS.drew (h : GdS W gb x y z db dj p w) : GdS W gb x y z db dj p w.drew := ⟨h.1, h.2.1, h.2.2.drew⟩
theorem GdS.under (hb : Below w.heap.size w w') (h : GdS W gb x y z db dj p w) : GdS W gb x y z db dj p w' := ⟨⟨cell_under hb h.1.1, cell_under hb h.1.2.1, cell_under hb h.1.2.2⟩, cell_under hb h.2.1, h.2.2.trans (hb.mono h.2.2.size)⟩
theorem GdS.alloc (h : GdS W gb x y z db dj p w) (o : Obj) : GdS W gb x y z db dj p (w.alloc o) := h.under (below1 w o)
theorem GdS.bel (h : GdS W gb x y z db dj p w) : Below W.heap.size W w := h.2.2
theorem GdS.set2 {ob : Nat} (h : GdS W gb x y z db dj p w) (hg : gb < W.heap.size) (hd : db < W.heap.size) (ho : W.heap.size ≤ ob) (u v : Value) : GdS W gb x y z db dj p ((w.setCell ⟨ob, 0, none⟩ u).setCell ⟨ob, 1, none⟩ v) := by
  have e : ∀ c, c < W.heap.size → ((w.setCell ⟨ob, 0, none⟩ u).setCell ⟨ob, 1, none⟩ v).heap[c]? = w.heap[c]? := fun c hc => by rw [Below.heap_setCell _ _ _ _ (by simp; omega), Below.heap_setCell _ _ _ _ (by simp; omega)]
  exact ⟨⟨(World.cell?_of_block (w := w) (a := ⟨gb, 0, none⟩) (e gb hg)).trans h.1.1, (World.cell?_of_block (w := w) (a := ⟨gb, 1, none⟩) (e gb hg)).trans h.1.2.1, (World.cell?_of_block (w := w) (a := ⟨gb, 2, none⟩) (e gb hg)).trans h.1.2.2⟩, (World.cell?_of_block (w := w) (a := ⟨db, dj, none⟩) (e db hd)).trans h.2.1, (h.2.2.setCell (by simp; omega) _).setCell (by simp; omega) _⟩
end
/-- What seenOf gives, its lengths told by a number. -/
def SeenN (w : World) (n : Nat) (f g : Nat → Int) (e : Ending) (w' : World) : Prop := ∃ A1 A2 c1 c2, e = .returned (.agg #[.slice A1 n c1, .slice A2 n c2]) ∧ OwnSl w' w.heap.size 3 A1 n f ∧ OwnSl w' w.heap.size 3 A2 n g ∧ Parted A1 A2 n n ∧ Below w.heap.size w w'
theorem seenOf_n (A : Option Addr) (ca : Nat) (L : List (Int × Int)) (w : World) (hn : L.length ≤ 1000) (h : IsPts w A L) :
    Calls Try.prog 46 #[.slice A L.length ca] w (SeenN w L.length (zg (idsL L)) (zg (keysL L))) := by
  refine (seenOf_any A ca L w hn h).mono ?_; rintro e w' ⟨A1, A2, c1, c2, rfl, h1, h2, h3, k⟩
  have e1 : (idsL L).length = L.length := by simp [idsL]
  have e2 : (keysL L).length = L.length := by simp [keysL]
  rw [e1] at h1 h3
  rw [e2] at h2 h3
  rw [e1, e2]
  exact ⟨A1, A2, c1, c2, rfl, h1, h2, h3, k⟩
/-- An order and distances in a box of their own. -/
def GdCut (W : World) (n : Nat) (f g : Nat → Int) (t : Value) (w : World) : Prop :=
  ∃ ob A B ca cb, t = .pointer (some ⟨ob, 0, none⟩) ∧ W.heap.size ≤ ob ∧ Pair w ob 42 (.slice A n ca) (.slice B n cb) ∧ OwnSl w W.heap.size 3 A n f ∧ OwnSl w W.heap.size 3 B n g ∧ Parted A B n n ∧ blk A n ≠ some ob ∧ blk B n ≠ some ob ∧ Below W.heap.size W w
theorem nilS_first {V w : World} (hb : Below (V.alloc (.cells #[.slice none 0 0, .slice none 0 0] 42)).heap.size (V.alloc (.cells #[.slice none 0 0, .slice none 0 0] 42)) w) : Pair w V.heap.size 42 (.slice none 0 0) (.slice none 0 0) := (Pair.new V _ _ _).below hb
theorem nilS_first' {V w : World} (hb : Below (V.alloc (.cells #[.slice none 0 0, .slice none 0 0] 42)).drew.heap.size (V.alloc (.cells #[.slice none 0 0, .slice none 0 0] 42)).drew w) : Pair w V.heap.size 42 (.slice none 0 0) (.slice none 0 0) := Pair.below (w := (V.alloc (.cells #[.slice none 0 0, .slice none 0 0] 42)).drew) (Pair.new V _ _ _) hb
theorem gdCut_set {W V : World} {n : Nat} {f g : Nat → Int} {ob s ca cb : Nat} {A B : Option Addr} (hp : Pair V ob 42 (.slice none 0 0) (.slice none 0 0)) (hP : OwnSl V s 3 A n f) (hR : OwnSl V s 3 B n g) (hs : W.heap.size ≤ s) (hob : W.heap.size ≤ ob)
    (hA : ∀ g, blk A n = some g → g ≠ ob) (hB : ∀ g, blk B n = some g → g ≠ ob) (hAB : Parted A B n n) (K : Below W.heap.size W V) :
    GdCut W n f g (.pointer (some ⟨ob, 0, none⟩)) ((V.setCell ⟨ob, 0, none⟩ (.slice A n ca)).setCell ⟨ob, 1, none⟩ (.slice B n cb)) := by
  refine ⟨ob, A, B, ca, cb, rfl, hob, (hp.set0 _).set1 _, ?_, ?_, hAB, fun e => hA _ e rfl, fun e => hB _ e rfl, (K.setCell (by simp; omega) _).setCell (by simp; omega) _⟩
  · exact OwnSl.low (hP.of_block (fun g e _ => by rw [Below.heap_setCell _ _ _ _ (by have := hA g e; simpa using this), Below.heap_setCell _ _ _ _ (by have := hA g e; simpa using this)])) hs
  · exact OwnSl.low (hR.of_block (fun g e _ => by rw [Below.heap_setCell _ _ _ _ (by have := hB g e; simpa using this), Below.heap_setCell _ _ _ _ (by have := hB g e; simpa using this)])) hs
theorem gdCut_new {W V : World} {n : Nat} {f g : Nat → Int} {s ca cb : Nat} {A B : Option Addr} (hP : OwnSl V s 3 A n f) (hR : OwnSl V s 3 B n g) (hs : W.heap.size ≤ s) (hAB : Parted A B n n) (K : Below W.heap.size W V) :
    GdCut W n f g (.pointer (some ⟨V.heap.size, 0, none⟩)) (V.alloc (.cells #[.slice A n ca, .slice B n cb] 42)) := by
  have kb := below1 V (.cells #[.slice A n ca, .slice B n cb] 42)
  exact ⟨_, A, B, ca, cb, rfl, K.size, Pair.new V _ _ _, OwnSl.low (hP.below kb) hs, OwnSl.low (hR.below kb) hs, hAB, fun e => by have := (blk_own hP e).2; omega, fun e => by have := (blk_own hR e).2; omega, K.trans (kb.mono K.size)⟩

set_option maxRecDepth 100000 in
set_option maxHeartbeats 4000000 in
theorem implGuided_no (A B C : Option Addr) (ca cb cc : Nat) (ps : List (Int × Int)) (rs : List A3) (zs : List Int) (s t : Int) (w : World) (hn : ps.length ≤ 1048576) (hm : rs.length ≤ 1048576) (hk : zs.length ≤ 1048576) (ha : IsPts w A ps) (hb : IsArcs w B rs) (hzz : IsInts w C zs) (hno : potB ps rs zs = false ∨ btB s 0 ((ps.length : Int) - 1) = false ∨ btB t 0 ((ps.length : Int) - 1) = false) :
    Calls Try.prog 21 #[.agg #[.slice A ps.length ca, .slice B rs.length cb], .int .i64 s, .int .i64 t, .slice C zs.length cc] w (SeenMade w (idsL (gdL ps rs zs s t)) (dsL zs (gdL ps rs zs s t))) := by
  have HN := Lib.hid (gdL_no hno)
  have X := (Pair.new w 32 (.slice A ps.length ca) (.slice B rs.length cb)).alloc (.cells #[.slice none 0 0, .slice none 0 0] 42)
  have Y : Pair ((w.alloc (.cells #[.slice A ps.length ca, .slice B rs.length cb] 32)).alloc (.cells #[.slice none 0 0, .slice none 0 0] 42)) (w.heap.size + 1) 42 (.slice none 0 0) (.slice none 0 0) := by
    have := Pair.new (w.alloc (.cells #[.slice A ps.length ca, .slice B rs.length cb] 32)) 42 (.slice none 0 0) (.slice none 0 0); rwa [World.size_alloc] at this
  have K := below2 w (.cells #[.slice A ps.length ca, .slice B rs.length cb] 32) (.cells #[.slice none 0 0, .slice none 0 0] 42)
  obtain ⟨x0, x1, -, -⟩ := X.cells
  cases h1 : potB ps rs zs with
  | false =>
    go_enter Try.func21, Try.ntmps21
    go_wp2_with fail
    refine (implPotOk_any A B C ca cb cc ps rs zs _ hn hm hk (ha.below K) (hb.below K) (hzz.below K)).mono ?_; rw [h1]; rintro e w1 ⟨rfl, b1⟩
    replace X := X.below b1
    replace Y := Y.below b1
    replace K := K.trans (b1.mono K.size)
    clear b1 x0 x1
    obtain ⟨y0, y1, y2, y3⟩ := Y.cells
    clear X
    go_wp2
    exact bodyPost_ret (v := .agg #[.slice none 0 0, .slice none 0 0]) (by simp [results, Try.results21, go_sem, y0, y1]) rfl (seenMade_gd HN.out ((K.setCell (by simp) _).setCell (by simp) _))
  | true =>
    cases h2 : btB s 0 ((ps.length : Int) - 1) with
    | false =>
      go_enter Try.func21, Try.ntmps21
      go_wp2_with fail
      refine (implPotOk_any A B C ca cb cc ps rs zs _ hn hm hk (ha.below K) (hb.below K) (hzz.below K)).mono ?_; rw [h1]; rintro e w1 ⟨rfl, b1⟩
      replace X := X.below b1
      replace Y := Y.below b1
      replace K := K.trans (b1.mono K.size)
      clear b1 x0 x1
      obtain ⟨x0, x1, -, -⟩ := X.cells
      go_wp2_with fail
      refine (hasNode_any A B ps.length rs.length ca cb s _).mono ?_; rw [h2]; rintro e w2 ⟨rfl, b2⟩
      replace X := X.below b2
      replace Y := Y.below b2
      replace K := K.trans (b2.mono K.size)
      clear b2 x0 x1
      obtain ⟨y0, y1, y2, y3⟩ := Y.cells
      clear X
      go_wp2
      exact bodyPost_ret (v := .agg #[.slice none 0 0, .slice none 0 0]) (by simp [results, Try.results21, go_sem, y0, y1]) rfl (seenMade_gd HN.out ((K.setCell (by simp) _).setCell (by simp) _))
    | true =>
      have h3 : btB t 0 ((ps.length : Int) - 1) = false := by
        rcases hno with h | h | h
        · rw [h1] at h; cases h
        · rw [h2] at h; cases h
        · exact h
      go_enter Try.func21, Try.ntmps21
      go_wp2_with fail
      refine (implPotOk_any A B C ca cb cc ps rs zs _ hn hm hk (ha.below K) (hb.below K) (hzz.below K)).mono ?_; rw [h1]; rintro e w1 ⟨rfl, b1⟩
      replace X := X.below b1
      replace Y := Y.below b1
      replace K := K.trans (b1.mono K.size)
      clear b1 x0 x1
      obtain ⟨x0, x1, -, -⟩ := X.cells
      go_wp2_with fail
      refine (hasNode_any A B ps.length rs.length ca cb s _).mono ?_; rw [h2]; rintro e w2 ⟨rfl, b2⟩
      replace X := X.below b2
      replace Y := Y.below b2
      replace K := K.trans (b2.mono K.size)
      clear b2 x0 x1
      obtain ⟨x0, x1, -, -⟩ := X.cells
      go_wp2_with fail
      refine (hasNode_any A B ps.length rs.length ca cb t _).mono ?_; rw [h3]; rintro e w3 ⟨rfl, b3⟩
      replace X := X.below b3
      replace Y := Y.below b3
      replace K := K.trans (b3.mono K.size)
      clear b3 x0 x1
      obtain ⟨y0, y1, y2, y3⟩ := Y.cells
      clear X
      go_wp2
      exact bodyPost_ret (v := .agg #[.slice none 0 0, .slice none 0 0]) (by simp [results, Try.results21, go_sem, y0, y1]) rfl (seenMade_gd HN.out ((K.setCell (by simp) _).setCell (by simp) _))

set_option maxRecDepth 100000 in
set_option maxHeartbeats 8000000 in
theorem implGuided_yes (A B C : Option Addr) (ca cb cc : Nat) (ps : List (Int × Int)) (rs : List A3) (zs : List Int) (s t : Nat) (w : World) (hn : ps.length ≤ 1048576) (hm : rs.length ≤ 1048576) (hk : zs.length ≤ 1048576) (ha : IsPts w A ps) (hb : IsArcs w B rs) (hzz : IsInts w C zs) (h1 : potB ps rs zs = true) (hs : s < ps.length) (ht : t < ps.length) :
    Calls Try.prog 21 #[.agg #[.slice A ps.length ca, .slice B rs.length cb], .int .i64 (s : Int), .int .i64 (t : Int), .slice C zs.length cc] w (SeenMade w (idsL (gdL ps rs zs s t)) (dsL zs (gdL ps rs zs s t))) := by
  have hz := netZ_of h1
  rw [gdL_yes h1 hs ht]
  have HF := Lib.hid (took_found hz hs ht)
  have HLN := Lib.hid (took_len hz hs ht)
  obtain ⟨hok1, hzl, hpi, hri⟩ := potB_iff.1 h1
  obtain ⟨h20, h70, -, -⟩ := netB_iff.1 hok1
  have HRD := Lib.hid (fun (q : Nat) (hq : q < rs.length) (V : World) g1 g2 => reduced_any A B C ps.length ca cb cc q rs zs V (by omega) h70 hq (by rw [hzl]; exact arcsIn_net hok1) hpi g1 g2)
  have HST := Lib.hid (fun (V : World) (hv : IsArcs V B rs) (hc : IsInts V C zs) => settledG_any A B ca cb ps rs zs s t C cc V hz hs hv (Lib.hid fun V' k i hi => HRD.out i hi V' (hv.below k) (hc.below k)))
  obtain ⟨L, hL⟩ : ∃ L, L = took ps.length rs zs s t := ⟨_, rfl⟩
  rw [← hL] at HF HLN HST ⊢
  clear hL HRD
  have h2 : btB (s : Int) 0 ((ps.length : Int) - 1) = true := btB_true (by omega) (by omega)
  have h3 : btB (t : Int) 0 ((ps.length : Int) - 1) = true := btB_true (by omega) (by omega)
  have hsz : s < zs.length := by omega
  have hszi : (s : Int) < zs.length := by omega
  have HZL := Lib.hid hzl
  have HPI := Lib.hid hpi
  have HQZ := Lib.hid hz
  have HAI := Lib.hid (arcsIn_net hok1)
  clear hz hzl hpi hri hok1
  have hmf : ∀ (fn : Fn) (first cap : Array Value) (w : World), (Instr.makeFunc fn first cap).run Try.prog w = .ok (.func fn first cap) w := fun _ _ _ _ => rfl
  have X := (Pair.new w 32 (.slice A ps.length ca) (.slice B rs.length cb)).alloc (.cells #[.slice none 0 0, .slice none 0 0] 42)
  have Y : Pair ((w.alloc (.cells #[.slice A ps.length ca, .slice B rs.length cb] 32)).alloc (.cells #[.slice none 0 0, .slice none 0 0] 42)) (w.heap.size + 1) 42 (.slice none 0 0) (.slice none 0 0) := by
    have := Pair.new (w.alloc (.cells #[.slice A ps.length ca, .slice B rs.length cb] 32)) 42 (.slice none 0 0) (.slice none 0 0); rwa [World.size_alloc] at this
  have K := below2 w (.cells #[.slice A ps.length ca, .slice B rs.length cb] 32) (.cells #[.slice none 0 0, .slice none 0 0] 42)
  obtain ⟨x0, x1, -, -⟩ := X.cells
  go_enter Try.func21, Try.ntmps21
  go_wp2_with fail
  refine (implPotOk_any A B C ca cb cc ps rs zs _ hn hm hk (ha.below K) (hb.below K) (hzz.below K)).mono ?_; rw [h1]; rintro e w1 ⟨rfl, b1⟩
  replace X := X.below b1
  replace Y := Y.below b1
  replace K := K.trans (b1.mono K.size)
  clear b1 x0 x1
  obtain ⟨x0, x1, -, -⟩ := X.cells
  go_wp2_with fail
  refine (hasNode_any A B ps.length rs.length ca cb (s : Int) _).mono ?_; rw [h2]; rintro e w2 ⟨rfl, b2⟩
  replace X := X.below b2
  replace Y := Y.below b2
  replace K := K.trans (b2.mono K.size)
  clear b2 x0 x1
  obtain ⟨x0, x1, -, -⟩ := X.cells
  go_wp2_with fail
  refine (hasNode_any A B ps.length rs.length ca cb (t : Int) _).mono ?_; rw [h3]; rintro e w3 ⟨rfl, b3⟩
  replace X := X.below b3
  replace Y := Y.below b3
  replace K := K.trans (b3.mono K.size)
  clear b3 x0 x1
  obtain ⟨x0, x1, -, -⟩ := X.cells
  -- the guide
  have kg := below1 w3 (.cells #[.slice A ps.length ca, .slice B rs.length cb, .slice C zs.length cc] 81)
  have G := Trio.new w3 81 (.slice A ps.length ca) (.slice B rs.length cb) (.slice C zs.length cc)
  have Y4 := Y.below kg
  have K4 := K.trans (kg.mono K.size)
  have hyl := Y.lt
  obtain ⟨gb, hgb⟩ : ∃ gb, gb = w3.heap.size := ⟨_, rfl⟩
  rw [← hgb] at G hyl
  have HGB := Lib.hid hgb
  obtain ⟨W, hW⟩ : ∃ W, W = w3.alloc (.cells #[.slice A ps.length ca, .slice B rs.length cb, .slice C zs.length cc] 81) := ⟨_, rfl⟩
  have hWs : W.heap.size = gb + 1 := by rw [hW, World.size_alloc, hgb]
  rw [← hW] at G Y4 K4
  have HW := Lib.hid hW
  obtain ⟨db, dof, hCe, hdl, dS⟩ := (hzz.below K4).at_ hsz
  obtain ⟨z0, hz0⟩ : ∃ z0, z0 = zg zs s := ⟨_, rfl⟩
  rw [← hz0] at dS HST
  obtain ⟨g0, g1, g2⟩ := G.cells
  have hgl : gb < W.heap.size := by omega
  clear hWs
  have T0 : GdS W gb (.slice A ps.length ca) (.slice B rs.length cb) (.slice C zs.length cc) db (dof + s) z0 W := ⟨⟨g0, g1, g2⟩, dS, Below.refl _ W⟩
  have T : GdS W gb (.slice A ps.length ca) (.slice B rs.length cb) (.slice C zs.length cc) db (dof + s) z0 W.drew := ⟨⟨g0, g1, g2⟩, dS, (Below.refl _ W).drew⟩
  have HP := Lib.hid (fun V (h : Below W.heap.size W V) => (hb.below K4).below h)
  have HR := Lib.hid (fun V (h : Below W.heap.size W V) => (hzz.below K4).below h)
  subst hCe
  clear hz0 hgb hW kg X Y K
  go_wp2_with fail
  rw [← HGB.out, ← HW.out]
  clear x0 x1
  go_cut [10] (fun t wc => GdCut W L.length (zg (idsL L)) (zg (keysL L)) t wc)
  case first =>
    go_region_held3 (fun w' => GdS W gb (.slice A ps.length ca) (.slice B rs.length cb) (.slice (some ⟨db, dof, none⟩) zs.length cc) db (dof + s) z0 w')
      (first | exact T | assumption | (refine GdS.alloc ?_ _; assumption) | exact GdS.alloc T _ | exact GdS.drew (GdS.alloc T0 _) | (refine GdS.set2 ?_ hgl hdl ?_ _ _ <;> first | assumption | exact Nat.le_refl _ | omega))
      (first
        | (go_at_call 47; refine (HST.out _ (HP.out _ (GdS.bel (by first | exact T | assumption | (refine GdS.alloc ?_ _; assumption) | exact GdS.alloc T _ | exact GdS.drew (GdS.alloc T0 _)))) (HR.out _ (GdS.bel (by first | exact T | assumption | (refine GdS.alloc ?_ _; assumption) | exact GdS.alloc T _ | exact GdS.drew (GdS.alloc T0 _))))).mono ?_; rintro e w5 ⟨v5, rfl, own5, b5⟩; obtain ⟨A5, c5, rfl, I5⟩ := taken_is own5; have hK5 : GdS W gb (.slice A ps.length ca) (.slice B rs.length cb) (.slice (some ⟨db, dof, none⟩) zs.length cc) db (dof + s) z0 w5 := GdS.under b5 (by first | exact T | assumption | (refine GdS.alloc ?_ _; assumption) | exact GdS.alloc T _ | exact GdS.drew (GdS.alloc T0 _)); have hl5 := (GdS.bel hK5).size; (first | (have hn5 := nilS_first b5; obtain ⟨z0', z1', z2', z3'⟩ := hn5.cells) | (have hn5 := nilS_first' b5; obtain ⟨z0', z1', z2', z3'⟩ := hn5.cells) | skip))
        | (go_at_call 46; refine (seenOf_n A5 c5 L _ (by have := HLN.out; omega) (by first | exact I5 | exact I5.below (below1 _ _))).mono ?_; rintro e w6 ⟨A6, B6, c6, d6, rfl, O6, P6, PT6, b6⟩; have hK6 : GdS W gb (.slice A ps.length ca) (.slice B rs.length cb) (.slice (some ⟨db, dof, none⟩) zs.length cc) db (dof + s) z0 w6 := GdS.under b6 (by first | assumption | (refine GdS.alloc ?_ _; assumption)); have hO6 := Lib.hid (fun g e => blk_own O6 (g := g) e); have hP6 := Lib.hid (fun g e => blk_own P6 (g := g) e); (first | (have hn6 := hn5.below b6; obtain ⟨q0', q1', q2', q3'⟩ := hn6.cells) | (have hn6 := nilS_first b6; obtain ⟨q0', q1', q2', q3'⟩ := hn6.cells) | skip)))
    all_goals
      go_wp2
      go_meet
      case rel =>
        have hz : W.drew.heap.size = W.heap.size := rfl
        have hz2 : ∀ o : Obj, (W.alloc o).drew.heap.size = W.heap.size + 1 := fun o => World.size_alloc W o
        have hb5 := b5.size
        have hb6 := b6.size
        have hO6' := hO6.out
        have hP6' := hP6.out
        (try simp only [World.size_alloc, hz, hz2] at hO6' hP6' hb5 hb6 hl5)
        first
          | exact gdCut_new O6 P6 (by (try simp only [World.size_alloc, hz, hz2]); omega) PT6 (GdS.bel hK6)
          | exact gdCut_set (by assumption) O6 P6 (by (try simp only [World.size_alloc, hz, hz2]); omega) (by (try simp only [World.size_alloc, hz, hz2]); omega) (fun g e => by have := hO6' g e; (try simp only [World.size_alloc, hz, hz2]); omega) (fun g e => by have := hP6' g e; (try simp only [World.size_alloc, hz, hz2]); omega) PT6 (GdS.bel hK6)
  case rest =>
    clear T T0 HP HR g0 g1 g2 HST G hmf dS
    obtain ⟨ob, A6, B6, c6, d6, rfl, hob, Q, O6, P6, PT, hAo, hBo, KC⟩ := hcut
    have HY4 := Lib.hid Y4.lt
    have Y := Y4.below KC
    have hK4 := K4.size
    have K := K4.trans (KC.mono K4.size)
    have HZ6 := (hzz.below K)
    have HPT := Lib.hid PT
    have HBO := Lib.hid hBo
    have HAO := Lib.hid hAo
    have hob2 : w.heap.size + 1 < ob := by omega
    have HHZ := Lib.hid (fun V (h : Below w.heap.size w V) => hzz.below h)
    have e1 : (idsL L).length = L.length := by simp [idsL]
    have HE1 := Lib.hid e1
    have HWS := Lib.hid hob
    have HK4 := Lib.hid hK4
    clear Y4 K4 KC hAo hBo PT hob HZ6 e1 hK4 hgl hyl
    obtain ⟨q0, q1, -, -⟩ := Q.cells
    go_wp2_with fail
    clear q0 q1
    go_loopw [49] (fun i wr => ∃ k : Nat, k ≤ L.length ∧ i = .int .i64 k ∧ Pair wr (w.heap.size + 1) 42 (.slice none 0 0) (.slice none 0 0) ∧ Pair wr ob 42 (.slice A6 L.length c6) (.slice B6 L.length d6) ∧ OwnSl wr W.heap.size 3 A6 L.length (zg (idsL L)) ∧ OwnSl wr W.heap.size 3 B6 L.length (fun j => if j < k then zg (dsL zs L) j else zg (keysL L) j) ∧ Below w.heap.size w wr) (fun i _ => L.length - (intOf i).toNat)
    case atStart => exact ⟨0, by omega, rfl, Y, Q, O6, fun hp => by obtain ⟨g, o, a, b, c⟩ := P6 hp; exact ⟨g, o, a, b, c.congr (fun j _ => by rw [if_neg (by omega)])⟩, K⟩
    case round =>
      clear Y Q O6 P6 K
      obtain ⟨k, hkl, rfl, Y, Q, O6, P6, K⟩ := hrel
      by_cases hlt : k < L.length
      · have hpk : ptg L k ∈ L := by unfold ptg; rw [List.getD_eq_getElem?_getD, List.getElem?_eq_getElem hlt]; exact List.getElem_mem hlt
        obtain ⟨hd1, hd2⟩ := HF.out.dist _ hpk
        obtain ⟨hr1, hr2⟩ := HF.out.rin _ hpk
        have ei : zg (idsL L) k = (ptg L k).2 := by unfold zg idsL ptg; simp [List.getD_eq_getElem?_getD, hlt]
        have ek : zg (keysL L) k = (ptg L k).1 := by unfold zg keysL ptg; simp [List.getD_eq_getElem?_getD, hlt]
        have ed : zg (dsL zs L) k = (ptg L k).1 - zg zs (ptg L k).2.toNat := by
          show (dsL zs L).getD k 0 = _
          unfold dsL ptg
          rw [List.getD_eq_getElem?_getD, List.getElem?_map, List.getD_eq_getElem?_getD, List.getElem?_eq_getElem hlt]; rfl
        obtain ⟨gi, oi, hA6, -, OI⟩ := O6 (by omega)
        obtain ⟨gk, ok, hB6, hgk, OK⟩ := P6 (by omega)
        subst hA6 hB6
        have ci := OI.cell hlt
        have ck := OK.cell hlt
        have fk := OK.frozen (ok + k)
        rw [if_neg (Nat.lt_irrefl k), ek] at ck
        rw [ei] at ci
        generalize (ptg L k).1 = y at ck hd1 hd2 ed
        generalize (ptg L k).2 = u at ci hd1 hd2 hr1 hr2 ed
        obtain ⟨U, rfl⟩ : ∃ U : Nat, u = (U : Int) := ⟨u.toNat, by omega⟩
        rw [Int.toNat_natCast] at hd1 hd2 ed
        have hUn : U < ps.length := by omega
        have hUz : U < zs.length := by have := HZL.out; omega
        have hUi : (U : Int) < zs.length := by omega
        have hkli : (k : Int) < L.length := by omega
        have HLT := Lib.hid hlt
        have hLn20 : L.length ≤ 20 := HLN.out
        have hdv : 0 ≤ y - zg zs U ∧ y - zg zs U ≤ 200000 := by
          rcases dst_val HQZ.out.n20 hs HAI.out hUn with h | h
          · exact absurd h hd1
          · omega
        obtain ⟨pb, po, hCe, hpl, pU⟩ := ((HHZ.out _ K)).at_ hUz
        injection hCe with hCe
        injection hCe with hC1 hC2
        subst hC1 hC2
        obtain ⟨x, hx⟩ : ∃ x, x = zg zs U := ⟨_, rfl⟩
        rw [← hx] at pU hdv ed
        have hwr : IntKind.i64.wrap (y - x) = y - x := IntWalk.i64_in _ (by omega)
        have HED := Lib.hid ed
        have hgo : gk ≠ ob := fun e => by have := HBO.out; rw [blk_some (by omega)] at this; exact this (by rw [e])
        have hgi : gi ≠ gk := fun e => HPT.out gi (by rw [blk_some (by omega)]) (by rw [blk_some (by omega), e])
        obtain ⟨q0, q1, -, -⟩ := Q.cells
        clear hd1 hd2 ei ek ed hpk hx hr1 hr2
        go_wp2_with fail
        go_region
        all_goals (
          have O3 := OwnAt.of_block (w := wr) (w' := wr.drew) OK rfl
          have O4 := (O3.set k (y - x)).congr (f' := fun j => if j < k + 1 then zg (dsL zs L) j else zg (keysL L) j) (fun j hj => by
            by_cases e : j = k
            · subst e; rw [if_pos rfl, if_pos (by omega)]; exact HED.out.symm
            · rw [if_neg e]
              by_cases e2 : j < k
              · rw [if_pos e2, if_pos (by omega)]
              · rw [if_neg e2, if_neg (by omega)])
          have Y3 := (Pair.drewM Y 1).far (c := gk) (by have := HY4.out; omega) (ok + k) (.int .i64 (y - x))
          have Q3 := (Pair.drewM Q 1).far (c := gk) (fun e => hgo e.symm) (ok + k) (.int .i64 (y - x))
          have P3 : OwnSl (wr.drew.setCell ⟨gk, ok + k, none⟩ (.int .i64 (y - x))) W.heap.size 3 (some ⟨gi, oi, none⟩) L.length (zg (idsL L)) := fun hp => by
            obtain ⟨g, o, e, h1, h2⟩ := O6 hp
            injection e with e
            injection e with e1 e2
            subst e1 e2
            exact ⟨_, _, rfl, h1, OwnAt.of_block (w := wr) h2 (Below.heap_setCell _ _ _ _ (by simpa using hgi))⟩
          have K3 := (K.drew).setCell (p := ⟨gk, ok + k, none⟩) (by have := HK4.out; simp; omega) (.int .i64 (y - x))
          clear O3 OK OI Y Q O6 P6 K ci ck fk pU q0 q1
          go_wp2
          go_roundw
          case rel => exact ⟨k + 1, by have := HLT.out; omega, by go_num, Y3, Q3, P3, fun _ => ⟨gk, ok, rfl, hgk, O4⟩, K3⟩
          case measure => have := HLT.out; simp [intOf]; omega)
      · obtain rfl : k = L.length := by omega
        have P7 : OwnSl wr W.heap.size 3 B6 L.length (zg (dsL zs L)) := fun hp => by obtain ⟨g, o, a, b, c⟩ := P6 hp; exact ⟨g, o, a, b, c.congr (fun j hj => by rw [if_pos hj])⟩
        have HPA := Lib.hid (fun g e => blk_own O6 (g := g) e)
        have HPP := Lib.hid (fun g e => blk_own P7 (g := g) e)
        obtain ⟨y0, y1, y2, y3⟩ := Y.cells
        obtain ⟨q0, q1, -, -⟩ := Q.cells
        have e2 : (dsL zs L).length = L.length := by simp [dsL]
        have hk4 := HK4.out
        have HE : Hid (SeenMade w (idsL L) (dsL zs L) (.returned (.agg #[.slice A6 L.length c6, .slice B6 L.length d6])) ((wr.setCell ⟨w.heap.size + 1, 0, none⟩ (.slice A6 L.length c6)).setCell ⟨w.heap.size + 1, 1, none⟩ (.slice B6 L.length d6))) := Lib.hid (by
          have hYl4 := HY4.out
          refine ⟨A6, B6, c6, d6, by rw [HE1.out, e2], ?_, ?_, by rw [HE1.out, e2]; exact HPT.out, (K.setCell (by simp) _).setCell (by simp) _⟩
          · rw [HE1.out]
            exact OwnSl.low (O6.of_block (fun g e _ => by rw [Below.heap_setCell _ _ _ _ (by have := (HPA.out g e).1; simp; omega), Below.heap_setCell _ _ _ _ (by have := (HPA.out g e).1; simp; omega)])) hk4
          · rw [e2]
            exact OwnSl.low (P7.of_block (fun g e _ => by rw [Below.heap_setCell _ _ _ _ (by have := (HPP.out g e).1; simp; omega), Below.heap_setCell _ _ _ _ (by have := (HPP.out g e).1; simp; omega)])) hk4)
        clear e2 P6 P7 O6
        go_wp2
        exact bodyPost_ret (v := .agg #[.slice A6 L.length c6, .slice B6 L.length d6]) (by simp [results, Try.results21, go_sem, y0, y1]) rfl HE.out


theorem implGuided_any (A B C : Option Addr) (ca cb cc : Nat) (ps : List (Int × Int)) (rs : List A3) (zs : List Int) (s t : Int) (w : World) (hn : ps.length ≤ 1048576) (hm : rs.length ≤ 1048576) (hk : zs.length ≤ 1048576) (ha : IsPts w A ps) (hb : IsArcs w B rs) (hzz : IsInts w C zs) :
    Calls Try.prog 21 #[.agg #[.slice A ps.length ca, .slice B rs.length cb], .int .i64 s, .int .i64 t, .slice C zs.length cc] w (SeenMade w (idsL (gdL ps rs zs s t)) (dsL zs (gdL ps rs zs s t))) := by
  by_cases h : potB ps rs zs = false ∨ btB s 0 ((ps.length : Int) - 1) = false ∨ btB t 0 ((ps.length : Int) - 1) = false
  · exact implGuided_no A B C ca cb cc ps rs zs s t w hn hm hk ha hb hzz h
  · have hb' : ∀ b : Bool, ¬ b = false → b = true := fun b hb => by cases b <;> simp_all
    have h1 := hb' _ (fun e => h (.inl e))
    have h2 := hb' _ (fun e => h (.inr (.inl e)))
    have h3 := hb' _ (fun e => h (.inr (.inr e)))
    obtain ⟨S, rfl, hS⟩ := node_is h2
    obtain ⟨T, rfl, hT⟩ := node_is h3
    exact implGuided_yes A B C ca cb cc ps rs zs S T w hn hm hk ha hb hzz h1 hS hT

end Go.Proofs.Ytcaamhoakhgnhaa
