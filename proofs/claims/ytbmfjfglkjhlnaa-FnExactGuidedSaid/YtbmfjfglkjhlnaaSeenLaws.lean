/-
  What the laws' functions over an order and its distances compute.
-/
import Derived.Test.YtbmfjfglkjhlnaaSeenOf
namespace Go.Proofs.Ytbmfjfglkjhlnaa
open Go.RowKit Go.Deep Go.Maps

theorem eqIntS_seen (A B : Option Addr) (ca cb n : Nat) (zs : List Int) (w : World) (hl : zs.length = n) (hn : n ≤ 1048576) (ha : IsInts w A zs) (hb : IsInts w B zs) :
    Calls Try.prog 33 #[.slice A n ca, .slice B n cb] w fun e w' => e = .returned (.bool true) ∧ Below w.heap.size w w' := by
  subst hl
  exact (eqIntS_same A B ca cb zs w hn ha hb).mono fun e w' ⟨h, n, hw⟩ => ⟨h, by rw [hw]; exact below_drewN (Below.refl _ _) n⟩
theorem eqSeen_same (A B C D : Option Addr) (ca cb cc cd : Nat) (os ds : List Int) (w : World) (hn : os.length ≤ 1048576) (hm : ds.length ≤ 1048576)
    (ha : IsInts w A os) (hb : IsInts w B ds) (hc : IsInts w C os) (hd : IsInts w D ds) :
    Calls Try.prog 17 #[.agg #[.slice A os.length ca, .slice B ds.length cb], .agg #[.slice C os.length cc, .slice D ds.length cd]] w fun e w' => e = .returned (.bool true) ∧ Below w.heap.size w w' := by
  have k0 := below2 w (.cells #[.slice A os.length ca, .slice B ds.length cb] 29) (.cells #[.slice C os.length cc, .slice D ds.length cd] 29)
  have X := (Pair.new w 29 (.slice A os.length ca) (.slice B ds.length cb)).alloc (.cells #[.slice C os.length cc, .slice D ds.length cd] 29)
  have Y : Pair ((w.alloc (.cells #[.slice A os.length ca, .slice B ds.length cb] 29)).alloc (.cells #[.slice C os.length cc, .slice D ds.length cd] 29)) (w.heap.size + 1) 29 (.slice C os.length cc) (.slice D ds.length cd) := by
    have := Pair.new (w.alloc (.cells #[.slice A os.length ca, .slice B ds.length cb] 29)) 29 (.slice C os.length cc) (.slice D ds.length cd); simpa using this
  go_enter Try.func17, Try.ntmps17
  go_wp2_with fail
  refine (eqIntS_seen A C ca cc _ os _ rfl hn (ha.below k0) (hc.below k0)).mono ?_; rintro e w1 ⟨rfl, b1⟩
  replace X := X.below b1
  replace Y := Y.below b1
  have k1 := k0.trans (b1.mono k0.size)
  clear b1
  obtain ⟨x0, x1, -, -⟩ := X.cells
  obtain ⟨y0, y1, -, -⟩ := Y.cells
  go_wp2_with fail
  refine (eqIntS_seen B D cb cd _ ds _ rfl hm (hb.below k1) (hd.below k1)).mono ?_; rintro e w2 ⟨rfl, b2⟩
  have k2 := k1.trans (b2.mono k1.size)
  go_wp2
  go_ret
  exact ⟨rfl, k2⟩

set_option maxHeartbeats 1000000 in
theorem markSeen_any (w : World) (base : Nat) (A B : Option Addr) (n m ca cb : Nat) (f h : Nat → Int) (k : Int) (hn : n ≤ 1048576) (hm : m ≤ 1048576) (hk : 0 ≤ k ∧ k ≤ 1000000) (ha : OwnSl w base 3 A n f) (hb : OwnSl w base 3 B m h)
    (hp : Parted A B n m) :
    Calls Try.prog 20 #[.agg #[.slice A n ca, .slice B m cb], .int .i64 k] w fun e w' => e = .returned (.int .i64 (k + n + m)) ∧ OwnSl w' base 3 A n (fun j => k + j) ∧ OwnSl w' base 3 B m (fun j => k + n + j) ∧
      OnlyTwo w w' (blk A n) (blk B m) := by
  have X := Pair.new w 29 (.slice A n ca) (.slice B m cb)
  have k0 := below1 w (.cells #[.slice A n ca, .slice B m cb] 29)
  have hA := fun g e => blk_own ha (g := g) e
  have hB := fun g e => blk_own hb (g := g) e
  have HA := Lib.hid hA
  have HB := Lib.hid hB
  clear hA hB
  go_enter Try.func20, Try.ntmps20
  go_wp2_with fail
  refine (markIntS_any _ base A n ca f k hn (by omega) (ha.below k0)).mono ?_
  rintro e w1 ⟨rfl, o1, g1, z1⟩
  replace hb := (hb.below k0).of_block (fun g e hg => g1.block g hg (fun e' => hp g e'.symm e))
  replace X := X.grown' g1 (fun g e => by have := (HA.out g e).2; omega)
  have Z1 := Lib.hid z1
  have hz1 : w.heap.size < w1.heap.size := by rw [Z1.out]; simp
  clear z1
  obtain ⟨x0, x1, -, -⟩ := X.cells
  have hb1 : 0 ≤ k + (n : Int) := by omega
  have hb2 : k + (n : Int) ≤ 10000000 := by omega
  go_wp2_with fail
  clear x0 x1
  refine (markIntS_any _ base B m cb h _ hm (by omega) hb).mono ?_
  rintro e w2 ⟨rfl, o2, g2, z2⟩
  have Z2 := Lib.hid z2
  clear z2
  replace o1 := o1.of_block (fun g e hg => g2.block g hg (fun e' => hp g e e'.symm))
  have G : OnlyTwo w w2 (blk A n) (blk B m) :=
    ⟨g2.os.trans (g1.os.trans k0.os), g2.tape.trans (g1.tape.trans k0.tape), g2.output.trans (g1.output.trans k0.output), by have := g2.size; omega,
      fun q hq e1 e2 => (g2.block q (by omega) e2).trans ((g1.block q (by simp; omega) e1).trans (k0.block q hq))⟩
  go_wp2
  go_ret
  exact ⟨rfl, o1, o2, G⟩

set_option maxHeartbeats 1000000 in
theorem heldSeen_any (w : World) (base : Nat) (A B : Option Addr) (n m ca cb : Nat) (k : Int) (hn : n ≤ 1048576) (hm : m ≤ 1048576) (hk : 0 ≤ k ∧ k ≤ 1000000) (ha : OwnSl w base 3 A n (fun j => k + j)) (hb : OwnSl w base 3 B m (fun j => k + n + j)) :
    Calls Try.prog 21 #[.agg #[.slice A n ca, .slice B m cb], .int .i64 k] w fun e w' => e = .returned (.int .i64 (k + n + m)) ∧ Below w.heap.size w w' := by
  have k0 := below1 w (.cells #[.slice A n ca, .slice B m cb] 29)
  have hb1 : 0 ≤ k + (n : Int) := by omega
  have hb2 : k + (n : Int) ≤ 10000000 := by omega
  have hb3 : 0 ≤ k + (n : Int) + (m : Int) := by omega
  have hb4 : k + (n : Int) + (m : Int) ≤ 20000000 := by omega
  go_enter Try.func21, Try.ntmps21
  go_wp2_with fail
  refine (heldIntS_any _ base A n ca k hn (by omega) (ha.below k0)).mono ?_; rintro e w1 ⟨rfl, rfl⟩
  go_wp2_with fail
  refine (heldIntS_any _ base B m cb _ hm (by omega) (hb.below k0)).mono ?_; rintro e w2 ⟨rfl, rfl⟩
  go_wp2
  go_ret
  exact ⟨rfl, k0⟩

end Go.Proofs.Ytbmfjfglkjhlnaa
