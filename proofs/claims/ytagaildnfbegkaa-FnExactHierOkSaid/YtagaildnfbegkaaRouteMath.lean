/-
  Routes: what RouteOk, RouteArcs and RouteLen compute.
-/
import Derived.Test.YtagaildnfbegkaaDistMath
namespace Go.Proofs.Ytagaildnfbegkaa
open Go.RowKit Go.Deep

theorem findA_cases (rs : List A3) (u v : Int) : findA rs u v = -1 ∨ ∃ i : Nat, findA rs u v = i ∧ i < rs.length ∧ (arg rs i).1 = u ∧ (arg rs i).2.1 = v := by
  unfold findA
  cases h : (List.range rs.length).find? (hit rs u v) with
  | none => exact .inl rfl
  | some i =>
    have h1 := List.find?_some h
    have h2 := List.mem_range.1 (List.mem_of_find?_eq_some h)
    unfold hit at h1
    rw [Bool.and_eq_true] at h1
    exact .inr ⟨i, rfl, h2, by simpa using h1.1, by simpa using h1.2⟩

/-- The arcs along a route. -/
def arcK (rs : List A3) (zs : List Int) (k : Nat) : Int := findA rs (zg zs k) (zg zs (k + 1))
def alongL (rs : List A3) (zs : List Int) : List Int := (List.range (zs.length - 1)).map (arcK rs zs)
theorem alongL_len (rs : List A3) (zs : List Int) : (alongL rs zs).length = zs.length - 1 := by simp [alongL]
theorem alongL_at (rs : List A3) (zs : List Int) {k : Nat} (hk : k + 1 < zs.length) : zg (alongL rs zs) k = arcK rs zs k := by
  have : k < zs.length - 1 := by omega
  simp [zg, alongL, this]

def rtB (ps : List (Int × Int)) (rs : List A3) (zs : List Int) : Bool := netB ps rs && (decide (0 < zs.length) && (btB (zg zs 0) 0 ((ps.length : Int) - 1) && (alongL rs zs).all (fun i => decide (i ≠ -1))))
theorem rtB_iff {ps : List (Int × Int)} {rs : List A3} {zs : List Int} : rtB ps rs zs = true ↔ netB ps rs = true ∧ 0 < zs.length ∧ btB (zg zs 0) 0 ((ps.length : Int) - 1) = true ∧ ∀ k, k + 1 < zs.length → arcK rs zs k ≠ -1 := by
  unfold rtB alongL
  simp only [Bool.and_eq_true, decide_eq_true_eq, List.all_eq_true, List.mem_map, List.mem_range]
  exact ⟨fun ⟨a, b, c, d⟩ => ⟨a, b, c, fun k hk => d _ ⟨k, by omega, rfl⟩⟩, fun ⟨a, b, c, d⟩ => ⟨a, b, c, fun x ⟨k, hk, e⟩ => e ▸ d k (by omega)⟩⟩
theorem rtB_no {ps : List (Int × Int)} {rs : List A3} {zs : List Int} (h : ¬ (netB ps rs = true ∧ 0 < zs.length ∧ btB (zg zs 0) 0 ((ps.length : Int) - 1) = true ∧ ∀ k, k + 1 < zs.length → arcK rs zs k ≠ -1)) : rtB ps rs zs = false := by
  cases e : rtB ps rs zs with
  | false => rfl
  | true => exact absurd (rtB_iff.1 e) h
theorem rtB_net {ps : List (Int × Int)} {rs : List A3} {zs : List Int} (h : netB ps rs = false) : rtB ps rs zs = false := rtB_no fun k => by rw [h] at k; cases k.1
theorem rtB_none {ps : List (Int × Int)} {rs : List A3} {zs : List Int} (h : zs.length = 0) : rtB ps rs zs = false := rtB_no fun k => by omega
theorem rtB_node {ps : List (Int × Int)} {rs : List A3} {zs : List Int} (h : btB (zg zs 0) 0 ((ps.length : Int) - 1) = false) : rtB ps rs zs = false := rtB_no fun k => by rw [h] at k; cases k.2.2.1
theorem rtB_arc {ps : List (Int × Int)} {rs : List A3} {zs : List Int} {k : Nat} (hk : k + 1 < zs.length) (h : arcK rs zs k = -1) : rtB ps rs zs = false := rtB_no fun q => q.2.2.2 k hk h

def rtA (ps : List (Int × Int)) (rs : List A3) (zs : List Int) : List Int := if rtB ps rs zs = true then alongL rs zs else []
theorem rtA_len (ps : List (Int × Int)) (rs : List A3) (zs : List Int) : (rtA ps rs zs).length ≤ zs.length := by unfold rtA; split <;> simp [alongL_len]
def lenK (rs : List A3) (zs : List Int) : Nat → Int
  | 0 => 0
  | k + 1 => lenK rs zs k + (arg rs (arcK rs zs k).toNat).2.2
def rtLen (ps : List (Int × Int)) (rs : List A3) (zs : List Int) : Int := if rtB ps rs zs = true then lenK rs zs (zs.length - 1) else -1
theorem rtLen_no {ps : List (Int × Int)} {rs : List A3} {zs : List Int} (h : rtB ps rs zs = false) : rtLen ps rs zs = -1 := by unfold rtLen; rw [h]; rfl
theorem rtA_no {ps : List (Int × Int)} {rs : List A3} {zs : List Int} (h : rtB ps rs zs = false) : rtA ps rs zs = [] := by unfold rtA; rw [h]; rfl
theorem rtLen_yes {ps : List (Int × Int)} {rs : List A3} {zs : List Int} (h : rtB ps rs zs = true) : rtLen ps rs zs = lenK rs zs (zs.length - 1) := by unfold rtLen; rw [if_pos h]
theorem rtA_yes {ps : List (Int × Int)} {rs : List A3} {zs : List Int} (h : rtB ps rs zs = true) : rtA ps rs zs = alongL rs zs := by unfold rtA; rw [if_pos h]
/-- Every arc of a route is an arc, of a length from 1 to 10000. -/
theorem rt_arc {ps : List (Int × Int)} {rs : List A3} {zs : List Int} (h : rtB ps rs zs = true) {k : Nat} (hk : k + 1 < zs.length) : ∃ i : Nat, arcK rs zs k = i ∧ i < rs.length ∧ 1 ≤ (arg rs i).2.2 ∧ (arg rs i).2.2 ≤ 10000 := by
  obtain ⟨h1, -, -, h4⟩ := rtB_iff.1 h
  rcases findA_cases rs (zg zs k) (zg zs (k + 1)) with e | ⟨i, e, hi, -, -⟩
  · exact absurd e (h4 k hk)
  · have hm : arg rs i ∈ rs := by unfold arg; rw [List.getD_eq_getElem?_getD, List.getElem?_eq_getElem hi]; exact List.getElem_mem hi
    obtain ⟨-, -, -, h5, h6⟩ := arcsIn_net h1 _ hm
    exact ⟨i, e, hi, h5, h6⟩
theorem lenK_bd {ps : List (Int × Int)} {rs : List A3} {zs : List Int} (h : rtB ps rs zs = true) : ∀ k, k + 1 ≤ zs.length → 0 ≤ lenK rs zs k ∧ lenK rs zs k ≤ 10000 * k
  | 0, _ => by simp [lenK]
  | k + 1, hk => by
    obtain ⟨h1, h2⟩ := lenK_bd h k (by omega)
    obtain ⟨i, e, -, h3, h4⟩ := rt_arc h (k := k) (by omega)
    unfold lenK; rw [e]; simp only [Int.toNat_natCast]; omega

end Go.Proofs.Ytagaildnfbegkaa
