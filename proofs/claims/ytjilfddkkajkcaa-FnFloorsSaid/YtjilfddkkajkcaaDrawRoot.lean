/-
  What spec.DrawRoot and laws.big answer: some number of 64 bits; whether a code is long.
-/
import Derived.Test.YtjilfddkkajkcaaDraw
import Derived.OpenShut
namespace Go.Proofs.Ytjilfddkkajkcaa
open Go.RowKit Go.Deep

theorem getD_mem {zs : List Int} (i : Nat) (h : i < zs.length) : zs.getD i 0 ∈ zs := by
  have e : zs.getD i 0 = zs[i] := by simp [h]
  rw [e]; exact List.getElem_mem _

theorem big_any (A : Option Addr) (len cap : Nat) (w : World) : Calls Try.prog 9 #[.slice A len cap] w fun e w' => e = .returned (.bool (decide ((1048576 : Int) < len))) ∧ w = w' := by
  go_enter Try.func9, Try.ntmps9
  go_wp2
  go_ret
  exact ⟨rfl, rfl⟩

/-- A slice of bytes that came in, as a law's frame tells of it. -/
theorem codeIn_of {w : World} {a : Option Addr} {len cap : Nat} {zs : List Int}
    (h : (a = none ∧ len = 0 ∧ cap = 0 ∧ zs = []) ∨ ∃ x, a = some x ∧ len ≤ cap ∧ cap ≤ maxLen ∧ zs.length = cap ∧ (∀ i, i < zs.length → w.cell? (x.add i) = some (.int .u8 (zs.getD i 0))) ∧ ∀ n ∈ zs, (Lit.int .u8 n).wf = true) :
    CodeIn w a len := by
  rcases h with ⟨rfl, rfl, rfl, rfl⟩ | ⟨x, rfl, hl, hm, hz, hc, hw⟩
  · intro i hi; omega
  · intro i hi
    obtain ⟨b, off, spot⟩ := x
    have h0 := hc 0 (by omega)
    have hspot : spot = none := by simpa [Addr.add] using World.cell?_spot h0
    subst hspot
    have hi' := hc i (by omega)
    have hb := bounds_u8 (hw (zs.getD i 0) (getD_mem _ (by omega)))
    refine ⟨b, off, zs.getD i 0, rfl, ?_, hb.1, hb.2, ?_⟩
    · have := World.block_lt_of_cell? w _ h0
      simpa [Addr.add] using this
    · rw [← hi']
      unfold Addr.add
      by_cases h : i = 0
      · subst h; simp
      · simp [h]

/-- Some number of 64 bits; nothing that was there has turned. -/
def SomeInt (w : World) (e : Ending) (w' : World) : Prop := ∃ v : Int, e = .returned (.int .i64 v) ∧ -9223372036854775808 ≤ v ∧ v ≤ 9223372036854775807 ∧ Below w.heap.size w w'

theorem below_only {w w1 w2 : World} {c : Nat} (h : Below w.heap.size w w1) (hg : w1.grownBy w2 (some c)) (hc : w.heap.size ≤ c) : Below w.heap.size w w2 :=
  h.grown hg h.size (fun k e => by injection e with e; omega)

theorem wrap_bd (x : Int) : -9223372036854775808 ≤ wrap64 x ∧ wrap64 x ≤ 9223372036854775807 := by unfold wrap64; omega

/-- One of a row of numbers that was laid just now, chosen by a pick. -/
theorem chosen {w w' : World} {c : Nat} {t : TypeId} (zs : List Int) (P : Int → Prop) (hP : ∀ z ∈ zs, P z) (hc : c < w.heap.size) (hg : (w.alloc (.cells (zs.map (Value.int .i64)).toArray t)).grownBy w' (some c))
    {v : Int} (h0 : 0 ≤ v) (h1 : v < zs.length) : ∃ u : Int, w'.cell? ⟨w.heap.size, v.toNat, none⟩ = some (.int .i64 u) ∧ P u :=
  ⟨_, made_cell hc hg (by omega), hP _ (getD_mem _ (by omega))⟩

def In64 (v : Int) : Prop := -9223372036854775808 ≤ v ∧ v ≤ 9223372036854775807

set_option maxHeartbeats 1000000 in
theorem drawRoot_any (w : World) (A : Option Addr) (len cap : Nat) (hc : CodeIn w A len) (hl : len ≤ 1048576) : Calls Try.prog 10 #[.slice A len cap] w (SomeInt w) := by
  go_enter Try.func10, Try.ntmps10
  go_wp2_with fail
  refine (open_any w A len cap hc hl).mono ?_
  rintro e w1 ⟨rfl, k1, b1, -⟩
  go_wp2_with fail
  refine (pick_any w1 w.heap.size A len cap 0 256 (by omega) k1 (by omega)).mono ?_
  rintro e w2 ⟨v, rfl, hv0, hv1, -, k2, g2, -⟩
  have hv2 := hv1 (by omega)
  clear hv1
  have b2 := below_only b1 g2 (Nat.le_refl _)
  go_wp2_with fail
  refine (raw_any w2 w.heap.size A len cap (0 + 1) (by omega) k2).mono ?_
  rintro e w3 ⟨r, rfl, hr0, hr1, k3, g3⟩
  have b3 := below_only b2 g3 (Nat.le_refl _)
  go_wp2_with fail
  refine (pick_any _ w.heap.size A len cap (0 + 1 + 2) 6 (by omega) (k3.alloc _) (by omega)).mono ?_
  rintro e w4 ⟨i, rfl, hi0, hi1, -, k4, g4, -⟩
  have hi2 := hi1 (by omega)
  clear hi1
  obtain ⟨u, hu, hu1⟩ := chosen [r, wrap64 (v * 4097 * (v * 4097)), wrap64 (wrap64 (v * 4097 * (v * 4097)) - 1), wrap64 (wrap64 (v * 4097 * (v * 4097)) + 1), 9223372036854775807, 9223372030926249001] In64
    (by
      intro z hz
      simp only [List.mem_cons, List.not_mem_nil, or_false] at hz
      rcases hz with rfl | rfl | rfl | rfl | rfl | rfl
      · exact ⟨hr0, hr1⟩
      · exact wrap_bd _
      · exact wrap_bd _
      · exact wrap_bd _
      · exact ⟨by omega, by omega⟩
      · exact ⟨by omega, by omega⟩) k3.lt g4 hi0 (by simp; omega)
  have b4 := below_only (b3.alloc b3.size _) g4 (Nat.le_refl _)
  clear g4
  go_wp2
  go_ret
  exact ⟨u, rfl, hu1.1, hu1.2, b4⟩

theorem CodeIn.below {w w' : World} {A : Option Addr} {len : Nat} (h : CodeIn w A len) (hb : Below w.heap.size w w') : CodeIn w' A len := by
  intro i hi
  obtain ⟨b, off, x, h1, h2, h3, h4, h5⟩ := h i hi
  exact ⟨b, off, x, h1, Nat.lt_of_lt_of_le h2 hb.size, h3, h4, (hb.cell (p := ⟨b, off + i, none⟩) h2).trans h5⟩

end Go.Proofs.Ytjilfddkkajkcaa
