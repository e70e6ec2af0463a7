/-
  The answer of Ups and Downs by a name of its own: one list for each hierarchy, node and direction.
-/
import Derived.Test.YtagaildnfbegkabUpsBoth
namespace Go.Proofs.Ytagaildnfbegkab
open Go.RowKit Go.Deep

open Classical in
/-- The answer of Ups (up) or Downs. -/
noncomputable def clZ (zs : List Int) (rs : List A4) (up : Bool) (s : Int) : List Int := if h : ∃ d, ClR zs rs up s d then h.choose else []
theorem clZ_is {zs : List Int} {rs : List A4} {up : Bool} {s : Int} {d : List Int} (h : ClR zs rs up s d) : d = clZ zs rs up s := by
  have hx : ∃ d, ClR zs rs up s d := ⟨d, h⟩
  unfold clZ; rw [dif_pos hx]; exact h.one hx.choose_spec
theorem clZ_len (zs : List Int) (rs : List A4) (up : Bool) (s : Int) : (clZ zs rs up s).length ≤ zs.length := by
  unfold clZ; split
  · rename_i h; exact h.choose_spec.len
  · simp
theorem clZ_nil_or (zs : List Int) (rs : List A4) (up : Bool) (s : Int) : clZ zs rs up s = [] ∨ ((clZ zs rs up s).length = zs.length ∧ 0 < zs.length ∧ ∀ v, v < zs.length → -1 ≤ zg (clZ zs rs up s) v ∧ zg (clZ zs rs up s) v ≤ (zs.length : Int) * 1000000) := by
  unfold clZ; split
  · rename_i h
    rcases h.choose_spec with ⟨S, -, h2, -, h4⟩ | ⟨-, h⟩
    · exact .inr ⟨h4.len, by omega, h4.bound⟩
    · exact .inl h
  · exact .inl rfl
theorem implUpsZ (A B : Option Addr) (ca cb : Nat) (zs : List Int) (rs : List A4) (s : Int) (w : World) (hn : zs.length ≤ 1048576) (hm : rs.length ≤ 1048576) (ha : IsInts w A zs) (hb : IsHs w B rs) :
    Calls Try.prog 37 #[.agg #[.slice A zs.length ca, .slice B rs.length cb], .int .i64 s] w (NilMade w (clZ zs rs true s)) :=
  (implUps_any A B ca cb zs rs s w hn hm ha hb).mono fun _ _ ⟨_, h, k⟩ => clZ_is h ▸ k
theorem implDownsZ (A B : Option Addr) (ca cb : Nat) (zs : List Int) (rs : List A4) (s : Int) (w : World) (hn : zs.length ≤ 1048576) (hm : rs.length ≤ 1048576) (ha : IsInts w A zs) (hb : IsHs w B rs) :
    Calls Try.prog 38 #[.agg #[.slice A zs.length ca, .slice B rs.length cb], .int .i64 s] w (NilMade w (clZ zs rs false s)) :=
  (implDowns_any A B ca cb zs rs s w hn hm ha hb).mono fun _ _ ⟨_, h, k⟩ => clZ_is h ▸ k
theorem specUpsZ (A B : Option Addr) (ca cb : Nat) (zs : List Int) (rs : List A4) (s : Int) (w : World) (hn : zs.length ≤ 1048576) (hm : rs.length ≤ 1048576) (ha : IsInts w A zs) (hb : IsHs w B rs) :
    Calls Try.prog 34 #[.agg #[.slice A zs.length ca, .slice B rs.length cb], .int .i64 s] w (IntsMade w (clZ zs rs true s)) :=
  (specUps_any A B ca cb zs rs s w hn hm ha hb).mono fun _ _ ⟨_, h, k⟩ => clZ_is h ▸ k
theorem specDownsZ (A B : Option Addr) (ca cb : Nat) (zs : List Int) (rs : List A4) (s : Int) (w : World) (hn : zs.length ≤ 1048576) (hm : rs.length ≤ 1048576) (ha : IsInts w A zs) (hb : IsHs w B rs) :
    Calls Try.prog 35 #[.agg #[.slice A zs.length ca, .slice B rs.length cb], .int .i64 s] w (IntsMade w (clZ zs rs false s)) :=
  (specDowns_any A B ca cb zs rs s w hn hm ha hb).mono fun _ _ ⟨_, h, k⟩ => clZ_is h ▸ k

end Go.Proofs.Ytagaildnfbegkab
