/-
  What laws.same answers of two slices that read alike; what holds between the calls of the laws on distances.
-/
import Derived.Test.YtcaamhoakhgnhaaNetsAll
import Derived.Test.YtcaamhoakhgnhaaBetAll
import Derived.Test.YtcaamhoakhgnhaaSameAll
namespace Go.Proofs.Ytcaamhoakhgnhaa
open Go.RowKit Go.Deep

set_option maxHeartbeats 400000 in
theorem same_bel (A B : Option Addr) (ca cb n : Nat) (zs : List Int) (w : World) (hn : n ≤ 1048576) (hz : zs.length = n) (ha : IsInts w A zs) (hb : IsInts w B zs) :
    Calls Try.prog 16 #[.slice A n ca, .slice B n cb] w fun e w' => e = .returned (.bool true) ∧ Below w.heap.size w w' := by
  have HZ := Lib.hid hz
  clear hz
  go_enter Try.func16, Try.ntmps16
  go_wp2
  go_loopw [5] (fun i wr => ∃ k m : Nat, k ≤ n ∧ i = .int .i64 k ∧ wr = w.drewN m) (fun i _ => n - (intOf i).toNat)
  case atStart => exact ⟨0, 0, by omega, rfl, rfl⟩
  case round =>
    obtain ⟨k, m, hk, rfl, rfl⟩ := hrel
    by_cases hlt : k < n
    · obtain ⟨b1, o1, rfl, hb1, hc1⟩ := ha.at_ (k := k) (by rw [HZ.out]; exact hlt)
      obtain ⟨b2, o2, rfl, hb2, hc2⟩ := hb.at_ (k := k) (by rw [HZ.out]; exact hlt)
      go_wp2
      go_quiet (fail)
      go_wp2
      go_roundw
      case rel => exact ⟨k + 1, _, by omega, by go_num, rfl⟩
      case measure => simp [intOf]; omega
    · go_wp2
      go_ret
      exact ⟨rfl, below_drewN (Below.refl _ _) _⟩

/-- What holds between the calls: the drawn network in block x, the list of distances (or of components). -/
abbrev DvS (base : World) (x : Nat) (A B : Option Addr) (ca cb : Nat) (ps : List (Int × Int)) (rs : List A3) (D : Option Addr) (zs : List Int) (w : World) : Prop :=
  w.cell? ⟨x, 0, none⟩ = some (.slice A ps.length ca) ∧ w.cell? ⟨x, 1, none⟩ = some (.slice B rs.length cb) ∧ IsPts w A ps ∧ IsArcs w B rs ∧ IsInts w D zs ∧ Below base.heap.size base w
section
variable {base w w' : World} {x : Nat} {A B : Option Addr} {ca cb : Nat} {ps : List (Int × Int)} {rs : List A3} {D : Option Addr} {zs : List Int}
theorem DvS.under (hb : Below w.heap.size w w') (h : DvS base x A B ca cb ps rs D zs w) : DvS base x A B ca cb ps rs D zs w' := by
  obtain ⟨h1, h2, h3, h4, h5, h6⟩ := h
  exact ⟨cell_under hb h1, cell_under hb h2, h3.below hb, h4.below hb, h5.below hb, h6.trans (hb.mono h6.size)⟩
theorem bel_drew (w : World) : Below w.heap.size w w.drew := (Below.refl _ w).drew
theorem DvS.drew (h : DvS base x A B ca cb ps rs D zs w) : DvS base x A B ca cb ps rs D zs w.drew := DvS.under (bel_drew w) h
theorem DvS.n (h : DvS base x A B ca cb ps rs D zs w) : IsPts w A ps ∧ IsArcs w B rs := ⟨h.2.2.1, h.2.2.2.1⟩
theorem DvS.d (h : DvS base x A B ca cb ps rs D zs w) : IsInts w D zs := h.2.2.2.2.1
theorem DvS.bel (h : DvS base x A B ca cb ps rs D zs w) : Below base.heap.size base w := h.2.2.2.2.2
theorem DvS.cells (h : DvS base x A B ca cb ps rs D zs w) : w.cell? ⟨x, 0, none⟩ = some (.slice A ps.length ca) ∧ w.cell? ⟨x, 1, none⟩ = some (.slice B rs.length cb) := ⟨h.1, h.2.1⟩
end
/-- .. and one distance of the list. -/
abbrev DvC (base : World) (x : Nat) (A B : Option Addr) (ca cb : Nat) (ps : List (Int × Int)) (rs : List A3) (D : Option Addr) (zs : List Int) (b o : Nat) (z : Int) (w : World) : Prop :=
  DvS base x A B ca cb ps rs D zs w ∧ w.cell? ⟨b, o, none⟩ = some (.int .i64 z)
section
variable {base w w' : World} {x : Nat} {A B : Option Addr} {ca cb : Nat} {ps : List (Int × Int)} {rs : List A3} {D : Option Addr} {zs : List Int} {b o : Nat} {z : Int}
theorem DvC.under (hb : Below w.heap.size w w') (h : DvC base x A B ca cb ps rs D zs b o z w) : DvC base x A B ca cb ps rs D zs b o z w' := ⟨DvS.under hb h.1, cell_under hb h.2⟩
theorem DvC.drew (h : DvC base x A B ca cb ps rs D zs b o z w) : DvC base x A B ca cb ps rs D zs b o z w.drew := ⟨DvS.drew h.1, h.2⟩
theorem DvC.n (h : DvC base x A B ca cb ps rs D zs b o z w) : IsPts w A ps ∧ IsArcs w B rs := DvS.n h.1
end

/-- Whether a distance is attained along one of the first k arcs. -/
def alongB (d : List Int) (v : Nat) (a : A3) : Bool := decide (a.2.1 = (v : Int) ∧ zg d a.1.toNat ≠ -1 ∧ zg d a.1.toNat + a.2.2 = zg d v)
def alongK (rs : List A3) (d : List Int) (v : Nat) : Nat → Bool
  | 0 => false
  | k + 1 => alongK rs d v k || alongB d v (arg rs k)
theorem alongK_of {rs : List A3} {d : List Int} {v : Nat} : ∀ {k j : Nat}, j < k → alongB d v (arg rs j) = true → alongK rs d v k = true
  | 0, _, h, _ => by omega
  | k + 1, j, h, ha => by
    rw [alongK]
    rcases Nat.lt_or_ge j k with h' | h'
    · rw [alongK_of h' ha]; rfl
    · obtain rfl : j = k := by omega
      rw [ha, Bool.or_true]
theorem alongK_all {rs : List A3} {d : List Int} {v : Nat} (h : ∃ a ∈ rs, a.2.1 = (v : Int) ∧ zg d a.1.toNat ≠ -1 ∧ zg d a.1.toNat + a.2.2 = zg d v) : alongK rs d v rs.length = true := by
  obtain ⟨a, ha, h1⟩ := h
  obtain ⟨i, hi, rfl⟩ := mem_arg ha
  exact alongK_of hi (decide_eq_true h1)

theorem wpAnyH_mono {P : Program} {ops : Array Oper} {Q : Exit → Act → World → Prop} {md : Region.Mode} {S S' : World → Prop} (h : ∀ w, S' w → S w) :
    ∀ (fuel : Nat) (listed : Array Bool) (a : Act) (w : World), wpAnyH P md ops Q S' fuel listed a w → wpAnyH P md ops Q S fuel listed a w
  | 0, _, _, _, k => k
  | fuel + 1, _, _, _, k => ⟨k.1, fun i hi => wpOp_mono (fun a' w' k' => ⟨h w' k'.1, wpAnyH_mono h fuel _ a' w' k'.2⟩) (k.2 i hi)⟩

end Go.Proofs.Ytcaamhoakhgnhaa
