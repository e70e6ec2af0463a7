/-
  What Lowered computes, in the program and in the specification: the network whose lengths are lowered by numbers at the nodes.
-/
import Derived.Test.YtcaamhoakhgnhaaPots
import Derived.Test.YtcaamhoakhgnhaaLinked
import Derived.Deep.DeepCutAuto
namespace Go.Proofs.Ytcaamhoakhgnhaa
open Go.RowKit Go.Deep

/-- An arc lowered; the lowered network. -/
def lowA (zs : List Int) (a : A3) : A3 := (a.1, a.2.1, min 10000 (a.2.2 + zg zs a.2.1.toNat - zg zs a.1.toNat + 1))
def lowL (zs : List Int) (rs : List A3) : List A3 := rs.map (lowA zs)
def lowP (ps : List (Int × Int)) (rs : List A3) (zs : List Int) : List (Int × Int) := if potB ps rs zs = true then ps else []
def lowR (ps : List (Int × Int)) (rs : List A3) (zs : List Int) : List A3 := if potB ps rs zs = true then lowL zs rs else []
theorem lowL_len (zs : List Int) (rs : List A3) : (lowL zs rs).length = rs.length := by simp [lowL]
theorem lowL_at {zs : List Int} {rs : List A3} {k : Nat} (hk : k < rs.length) : arg (lowL zs rs) k = lowA zs (arg rs k) := by unfold lowL arg; simp [hk]
theorem lowL_take {zs : List Int} {rs : List A3} {k : Nat} (hk : k < rs.length) : (lowL zs rs).take (k + 1) = (lowL zs rs).take k ++ [lowA zs (arg rs k)] := by
  rw [take_snoc3 (by rw [lowL_len]; exact hk), lowL_at hk]

set_option maxRecDepth 100000 in
/-- An arc appended to a row that is one's own. -/
theorem run_append_arc {w : World} (ty : TypeId) (base : Nat) (v : Value) (n : Nat) (xs : List Value) (hown : w.ownsRow base 75 3 v n xs) (a : A3) (hn : n ≤ 1048576) (hbase : base ≤ w.heap.size) :
    ∃ v' w', (Builtin.append_ #[30, 30] ty #[v, .slice (some ⟨w.heap.size, 0, none⟩) 1 1]).run Try.prog (w.alloc (.cells #[.int .i64 a.1, .int .i64 a.2.1, .int .i64 a.2.2] 75)) = .ok v' w' ∧ w'.ownsRow base 75 3 v' (n + 1) (xs ++ cellsA [a]) ∧ (w.alloc (.cells #[.int .i64 a.1, .int .i64 a.2.1, .int .i64 a.2.2] 75)).grownBy w' v.ownBlock := by
  obtain ⟨i0, hi, hz0, hz1, hz2⟩ := info_parts Try.infoArc
  obtain ⟨v', w', h1, h2, h3, -⟩ := run_append_own_at (P := Try.prog) (w.alloc (.cells #[.int .i64 a.1, .int .i64 a.2.1, .int .i64 a.2.2] 75)) base 30 ty 75 i0 (.agg #[.int .i64 0, .int .i64 0, .int .i64 0]) 3 24 Try.underlying30 hi hz0 hz1 hz2 rfl (by decide) v n xs (hown.alloc _) ⟨w.heap.size, 0, none⟩ 1 1 (cellsA [a]) rfl (cells3_new _ a _) (cellsA_one _) (by unfold maxLen; omega) (by omega) (by rw [World.size_alloc]; omega)
  exact ⟨v', w', h1, h2, h3⟩

theorem own_form {w : World} {base : Nat} {e : TypeId} {size n : Nat} {v : Value} {xs : List Value} (h : w.ownsRow base e size v n xs) : ∃ A c, v = .slice A n c := by
  rcases h.2 with ⟨h1, h2⟩ | ⟨g, cap, cur, h1, -⟩
  · exact ⟨none, 0, by rw [h1, h2]⟩
  · exact ⟨_, _, h1⟩
/-- What a lowered arc is made of. -/
theorem low_parts {n : Nat} {rs : List A3} {zs : List Int} {k : Nat} (hr : ArcsIn n rs) (hzn : zs.length = n) (hp : potIn zs = true) (hrd : redIn rs zs = true) (hk : k < rs.length) :
    ∃ (F T : Nat) (L x y : Int), arg rs k = ((F : Int), (T : Int), L) ∧ F < zs.length ∧ T < zs.length ∧ zg zs F = x ∧ zg zs T = y ∧ 0 ≤ x ∧ x ≤ 1000000 ∧ 0 ≤ y ∧ y ≤ 1000000 ∧ 1 ≤ L ∧ L ≤ 10000 ∧ red rs zs k = L + y - x ∧ 0 ≤ L + y - x ∧ lowA zs (arg rs k) = ((F : Int), (T : Int), min 10000 (L + y - x + 1)) := by
  obtain ⟨⟨f0, f1⟩, ⟨t0, t1⟩, hft, l0, l1⟩ := hr _ (arg_mem hk)
  have h0 := redIn_iff.1 hrd k hk
  have e0 : red rs zs k = (arg rs k).2.2 + zg zs (arg rs k).2.1.toNat - zg zs (arg rs k).1.toNat := rfl
  have e1 : lowA zs (arg rs k) = ((arg rs k).1, (arg rs k).2.1, min 10000 ((arg rs k).2.2 + zg zs (arg rs k).2.1.toNat - zg zs (arg rs k).1.toNat + 1)) := rfl
  rw [e1]
  rw [e0] at h0 ⊢
  generalize arg rs k = a at f0 f1 t0 t1 hft l0 l1 h0
  obtain ⟨f, t, L⟩ := a
  obtain ⟨F, rfl⟩ : ∃ F : Nat, f = (F : Int) := ⟨f.toNat, by simp at f0; omega⟩
  obtain ⟨T, rfl⟩ : ∃ T : Nat, t = (T : Int) := ⟨t.toNat, by simp at t0; omega⟩
  simp only [Int.toNat_natCast] at f0 f1 t0 t1 hft l0 l1 h0 ⊢
  have hF : F < zs.length := by omega
  have hT : T < zs.length := by omega
  have b1 := pot_bd hp hF
  have b2 := pot_bd hp hT
  exact ⟨F, T, L, zg zs F, zg zs T, rfl, hF, hT, rfl, rfl, b1.1, b1.2, b2.1, b2.2, l0, l1, rfl, h0, rfl⟩

end Go.Proofs.Ytcaamhoakhgnhaa
