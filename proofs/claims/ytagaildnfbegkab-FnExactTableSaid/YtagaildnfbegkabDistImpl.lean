/-
  What impl.nearer, impl.shorten and impl.DistFrom compute.
-/
import Derived.Test.YtagaildnfbegkabRepeat
namespace Go.Proofs.Ytagaildnfbegkab
open Go.RowKit Go.Deep

/-- Whether a distance is nearer than one that may be Far. -/
def nrB (d o : Int) : Bool := decide (o = -1 ∨ d < o)
theorem nearer_any (d o : Int) (w : World) : Calls Try.prog 39 #[.int .i64 d, .int .i64 o] w fun e w' => e = .returned (.bool (nrB d o)) ∧ w = w' := by
  by_cases h1 : o = -1
  · subst h1
    have H := Lib.hid (show nrB d (-1) = true from decide_eq_true (.inl rfl))
    go_enter Try.func39, Try.ntmps39
    go_wp2
    go_ret
    exact ⟨retB H.out.symm, rfl⟩
  · have h1' : (o == -1) = false := by simpa using h1
    by_cases h2 : d < o
    · have H := Lib.hid (show nrB d o = true from decide_eq_true (.inr h2))
      go_enter Try.func39, Try.ntmps39
      go_wp2
      go_ret
      exact ⟨retB H.out.symm, rfl⟩
    · have H := Lib.hid (show nrB d o = false from decide_eq_false (fun h => h.elim h1 h2))
      have h2' : decide (d < o) = false := decide_eq_false h2
      go_enter Try.func39, Try.ntmps39
      go_wp2
      go_ret
      exact ⟨retB H.out.symm, rfl⟩

theorem rlx_nr {d : List Int} {F T : Nat} {L : Int} (h : zg d F ≠ -1) : rlx d ((F : Int), (T : Int), L) = nrB (zg d F + L) (zg d T) := by
  unfold rlx nrB
  rw [Bool.eq_iff_iff, decide_eq_true_eq, decide_eq_true_eq]
  simp only [Int.toNat_natCast]
  exact ⟨fun k => k.2, fun k => ⟨h, k⟩⟩

end Go.Proofs.Ytagaildnfbegkab
