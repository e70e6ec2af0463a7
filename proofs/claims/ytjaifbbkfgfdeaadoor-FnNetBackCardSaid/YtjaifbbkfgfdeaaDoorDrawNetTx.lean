/-
  What spec.DrawNetText and spec.DrawNetRead leave: some network; some text.
-/
import Derived.Test.YtjaifbbkfgfdeaaDoorDrawTurn
import Derived.Deep.RegionWith
import Derived.Deep.DeepCutAuto
import Derived.WalkSpells
import Derived.Test.YtjaifbbkfgfdeaaDoorNetTxt
namespace Go.Proofs.YtjaifbbkfgfdeaaDoor
open Go.RowKit Go.Deep

theorem drawNetText_any (w : World) (A : Option Addr) (len cap : Nat) (hc : CodeIn w A len) (hl : len ≤ 1048576) : Calls Tryd.prog 6 #[.slice A len cap] w (SomeNet w) := by
  have R := Pair.new w 27 (.slice none 0 0) (.slice none 0 0)
  have b0 := below1 w (.cells #[.slice none 0 0, .slice none 0 0] 27)
  go_enter Tryd.func6, Tryd.ntmps6
  go_wp2_with fail
  refine (open_any _ A len cap (hc.below b0) hl).mono ?_
  rintro e w1 ⟨rfl, k1, b1, -⟩
  rw [World.size_alloc] at k1
  replace R := R.below b1
  replace b0 := b0.trans (b1.mono b0.size)
  have hc1 := k1.lt
  clear b1
  go_wp2_with fail
  refine (anyNet_any w1 (w.heap.size + 1) A len cap 0 (by omega) k1).mono ?_
  rintro e w2 ⟨NV, V, ps, rs, rfl, h2, h21, h100, own, ownA, -, g2⟩
  replace R := R.grown' g2 (fun g e => by injection e with e; omega)
  have b2 := below_only b0 g2 (by omega)
  clear g2 b0 k1
  obtain ⟨NA, nc, rfl, -, hNA⟩ := ownP_is own
  obtain ⟨VA, vc, rfl, -, -, -⟩ := ownA_is ownA
  obtain ⟨ng, rfl, -, -⟩ := hNA (by omega)
  clear hNA
  obtain ⟨r0, r1, r2, r3⟩ := R.cells
  go_wp2
  exact bodyPost_ret (v := .agg #[.slice (some ⟨ng, 0, none⟩) ps.length nc, .slice VA rs.length vc]) (by simp [results, Tryd.results6, go_sem, r0, r1]) rfl
    ⟨_, _, _, _, ps, rs, rfl, h2, h21, h100, OwnSl.ptsD (ownsRow_far (c := w.heap.size) (ownsRow_far (c := w.heap.size) own (by omega) 0 _) (by omega) 1 _), arcsD (ownsRow_far (c := w.heap.size) (ownsRow_far (c := w.heap.size) ownA (by omega) 0 _) (by omega) 1 _), (b2.setCell (by simp) _).setCell (by simp) _⟩

/-- The text of a network is short. -/
theorem netTx_len (ps : List (Int × Int)) (rs : List A3) : (netTx ps rs).length ≤ 6400 := by
  unfold netTx
  split
  · rename_i hok
    obtain ⟨h20, h70, hp, -⟩ := netB_iff.1 hok
    have h1 := nodesL_len (ps := ps) (fun i hi => by have := ptB_true (hp i hi); exact ⟨⟨by omega, by omega⟩, ⟨by omega, by omega⟩⟩) ps.length (Nat.le_refl _)
    have h2 := arcsL_len (rs := rs) (fun i hi => by obtain ⟨a, b, -, c, d⟩ := netB_arc hok hi; exact ⟨⟨by omega, by omega⟩, ⟨by omega, by omega⟩, ⟨by omega, by omega⟩⟩) rs.length (Nat.le_refl _)
    unfold nodesL at h1
    unfold arcsL at h2
    rw [List.take_length] at h1 h2
    unfold netL
    rw [List.length_append]
    omega
  · simp

/-- A text; nothing that was there has turned. -/
def SomeTx (w : World) (e : Ending) (w' : World) : Prop := ∃ s : ByteArray, e = .returned (.string s) ∧ s.size ≤ 20000 ∧ Below w.heap.size w w'

/-- The seven short texts of DrawNetRead. -/
def seven : List Value := [.string ⟨#[]⟩, .string ⟨#[48]⟩, .string ⟨#[32]⟩, .string ⟨#[10]⟩, .string ⟨#[110, 111, 100, 101, 32, 49, 32, 49, 10]⟩, .string ⟨#[97, 114, 99, 32, 48, 32, 49, 32, 53, 10]⟩, .string ⟨#[120]⟩]
theorem seven_at (j : Nat) (hj : j < 7) : ∃ u : ByteArray, (∀ h, ([.string ⟨#[]⟩, .string ⟨#[48]⟩, .string ⟨#[32]⟩, .string ⟨#[10]⟩, .string ⟨#[110, 111, 100, 101, 32, 49, 32, 49, 10]⟩, .string ⟨#[97, 114, 99, 32, 48, 32, 49, 32, 53, 10]⟩, .string ⟨#[120]⟩] : List Value)[j]'h = .string u) ∧ seven[j]? = some (.string u) ∧ u.size ≤ 10 := by
  match j, hj with
  | 0, _ => exact ⟨⟨#[]⟩, fun _ => rfl, rfl, by decide⟩
  | 1, _ => exact ⟨⟨#[48]⟩, fun _ => rfl, rfl, by decide⟩
  | 2, _ => exact ⟨⟨#[32]⟩, fun _ => rfl, rfl, by decide⟩
  | 3, _ => exact ⟨⟨#[10]⟩, fun _ => rfl, rfl, by decide⟩
  | 4, _ => exact ⟨⟨#[110, 111, 100, 101, 32, 49, 32, 49, 10]⟩, fun _ => rfl, rfl, by decide⟩
  | 5, _ => exact ⟨⟨#[97, 114, 99, 32, 48, 32, 49, 32, 53, 10]⟩, fun _ => rfl, rfl, by decide⟩
  | 6, _ => exact ⟨⟨#[120]⟩, fun _ => rfl, rfl, by decide⟩
theorem seven_cell {w w' : World} {c : Nat} {t : TypeId} {j : Nat} {u : ByteArray} (hc : c < w.heap.size)
    (hg : (w.alloc (.cells #[.string ⟨#[]⟩, .string ⟨#[48]⟩, .string ⟨#[32]⟩, .string ⟨#[10]⟩, .string ⟨#[110, 111, 100, 101, 32, 49, 32, 49, 10]⟩, .string ⟨#[97, 114, 99, 32, 48, 32, 49, 32, 53, 10]⟩, .string ⟨#[120]⟩] t)).grownBy w' (some c)) (hu : seven[j]? = some (.string u)) : w'.cell? ⟨w.heap.size, j, none⟩ = some (.string u) := by
  refine hg.cell (a := ⟨w.heap.size, j, none⟩) ?_ (by simp; omega)
  rw [cell_of_block (heap_alloc_new w _), ← hu]
  unfold seven
  simp

theorem text_sizeN (s u : ByteArray) (k t : Nat) (hs : s.size ≤ 6400) (hu : u.size ≤ 10) : (s.extract 0 k ++ u ++ s.extract t s.size).size ≤ 20000 := by
  simp only [ByteArray.size_append, ByteArray.size_extract]; omega

theorem cut_atN (k n : Nat) (q : Int) (hn : n ≤ 6400) (h0 : 0 ≤ q) (h1 : q < 2 ∧ k ≤ n) : ∃ t : Nat, t ≤ n ∧ (if IntKind.i64.wrap (↑k + q) < (n : Int) then IntKind.i64.wrap (↑k + q) else (n : Int)) = (t : Int) ∧
    (if (k : Int) + q < (n : Int) then (k : Int) + q else (n : Int)) = (t : Int) ∧ (if wrap64 ((k : Int) + q) < (n : Int) then wrap64 ((k : Int) + q) else (n : Int)) = (t : Int) := by
  have e : IntKind.i64.wrap ((k : Int) + q) = k + q := IntWalk.i64_in _ (by omega)
  have e' : wrap64 ((k : Int) + q) = k + q := by unfold wrap64; omega
  rw [e, e']
  refine ⟨(if (k : Int) + q < n then (k : Int) + q else n).toNat, ?_, ?_, ?_, ?_⟩ <;> split <;> omega

set_option maxHeartbeats 16000000 in
theorem drawNetRead_any (w : World) (A : Option Addr) (len cap : Nat) (hc : CodeIn w A len) (hl : len ≤ 1048576) : Calls Tryd.prog 12 #[.slice A len cap] w (SomeTx w) := by
  go_enter Tryd.func12, Tryd.ntmps12
  go_wp2_with fail
  refine (open_any w A len cap hc hl).mono ?_
  rintro e w1 ⟨rfl, k1, b1, -⟩
  go_wp2_with fail
  refine (anyNet_any w1 w.heap.size A len cap 0 (by omega) k1).mono ?_
  rintro e w2 ⟨NV, V, ps, rs, rfl, h2, h21, h100, own, ownA, k2, g2⟩
  have b2 := below_only b1 g2 (Nat.le_refl _)
  clear g2
  obtain ⟨NA, nc, rfl, -, hNA⟩ := ownP_is own
  obtain ⟨VA, vc, rfl, -, -, -⟩ := ownA_is ownA
  obtain ⟨ng, rfl, -, -⟩ := hNA (by omega)
  clear hNA
  have IP := OwnSl.ptsD own
  have IA := arcsD ownA
  clear own ownA
  go_wp2_with fail
  refine (specNetText_any _ _ _ _ ps rs w2 (by omega) (by omega) IP IA).mono ?_; rintro e w5 ⟨rfl, b5⟩
  have b15 := b2.trans (b5.mono b2.size)
  have k5 : CurAt w5 w.heap.size A len cap _ := k2.later (row := none) ⟨b5.os, b5.tape, b5.output, b5.size, fun k hk _ => b5.block k hk⟩ (fun _ e => by cases e)
  have hsz := netTx_len ps rs
  obtain ⟨s, Hs⟩ : ∃ s : ByteArray, s = tx (netTx ps rs) := ⟨_, rfl⟩
  have hss : s.size ≤ 6400 := by rw [Hs, tx_size]; exact hsz
  rw [← Hs]
  clear Hs hsz IP IA
  go_wp2_with fail
  refine (once_any w5 w.heap.size A len cap _ 3 (by omega) k5 (by omega) (by omega)).mono ?_
  rintro e w6 ⟨b, rfl, k6, g6⟩
  have b6 := below_only b15 g6 (Nat.le_refl _)
  clear g6
  cases b with
  | false =>
    go_wp2
    go_ret
    exact ⟨s, rfl, by omega, b6⟩
  | true =>
    go_wp2_with fail
    refine (pick_any w6 w.heap.size A len cap _ _ (by omega) k6 (by omega)).mono ?_
    rintro e w7 ⟨k, rfl, hk0, hk1, hk2, k7, g7, -⟩
    have hk3 : k ≤ s.size := by
      by_cases h : 2 ≤ (s.size : Int) + 1
      · have := hk1 h; omega
      · have := hk2 (by omega); omega
    have b7 := below_only b6 g7 (Nat.le_refl _)
    clear g7 hk1 hk2
    obtain ⟨k, rfl⟩ : ∃ kn : Nat, k = kn := ⟨k.toNat, by omega⟩
    have hk4 : k ≤ s.size := by omega
    clear k1 k2 k5 k6 b1 b2 b5 b15 b6 hk0 hk3 hc hl
    obtain ⟨mm, hmm0⟩ : ∃ mm, mm = 0 + 2000 + 1 + 1 := ⟨_, rfl⟩
    rw [← hmm0] at k7
    have hmm : mm ≤ 100000 := by omega
    go_wp2_with fail
    go_region_with (first
      | ((go_at_call 30; with_reducible refine (pick_at _ w.heap.size A len cap mm 7 k7.drew (by omega) (by omega)).mono ?_); rintro e w8 ⟨j, rfl, hj0, hj1, -, k8, g8, -⟩; have hj2 := hj1 (by omega); clear hj1; obtain ⟨u, hu1, hu2, hu3⟩ := seven_at j.toNat (by omega); have HU2 := Lib.hid hu2; clear hu2; have b8 := below_only b7.drew g8 (Nat.le_refl _); clear g8)
      | ((go_at_call 30; with_reducible refine (pick_at _ w.heap.size A len cap mm 7 (k7.alloc _).drew (by omega) (by omega)).mono ?_); rintro e w8 ⟨j, rfl, hj0, hj1, -, k8, g8, -⟩; have hj2 := hj1 (by omega); clear hj1; obtain ⟨u, hu1, hu2, hu3⟩ := seven_at j.toNat (by omega); have hu4 : w8.cell? ⟨w7.heap.size, j.toNat, none⟩ = some (.string u) := seven_cell k7.lt ⟨g8.os, g8.tape, g8.output, g8.size, g8.block⟩ hu2; clear hu1 hu2; have b8 := below_only (b7.alloc b7.size _).drew g8 (Nat.le_refl _); clear g8)
      | ((go_at_call 30; with_reducible refine (pick_at _ w.heap.size A len cap (mm + 1) 2 k8 (by omega) (by omega)).mono ?_); rintro e w9 ⟨q, rfl, hq0, hq1, -, k9, g9, -⟩; have hq2 := hq1 (by omega); clear hq1; obtain ⟨t, htl, ht1, ht2, ht3⟩ := cut_atN k s.size q (by omega) (by omega) (by omega); (first | (have hu5 : w9.cell? ⟨w7.heap.size, j.toNat, none⟩ = some (.string u) := g9.cell (a := ⟨w7.heap.size, j.toNat, none⟩) hu4 (by have := k7.lt; simp; omega)) | skip); have b9 := below_only b8 g9 (Nat.le_refl _); clear g9)
      | ((go_at_call 30; with_reducible refine (pick_at _ w.heap.size A len cap (mm + 1) 2 (k8.alloc _) (by omega) (by omega)).mono ?_); rintro e w9 ⟨q, rfl, hq0, hq1, -, k9, g9, -⟩; have hq2 := hq1 (by omega); clear hq1; obtain ⟨t, htl, ht1, ht2, ht3⟩ := cut_atN k s.size q (by omega) (by omega) (by omega); have hu5 : w9.cell? ⟨w8.heap.size, j.toNat, none⟩ = some (.string u) := seven_cell k8.lt g9 HU2.out; have b9 := below_only (b8.alloc b8.size _) g9 (Nat.le_refl _); clear g9))
    all_goals
      go_wp2
      go_ret
      refine ⟨_, rfl, ?_, ?_⟩
      · exact text_sizeN s u k _ hss hu3
      · first | exact b9 | exact b9.alloc b9.size _

end Go.Proofs.YtjaifbbkfgfdeaaDoor
