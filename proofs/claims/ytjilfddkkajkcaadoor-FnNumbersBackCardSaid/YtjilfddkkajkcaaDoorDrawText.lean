/-
  What spec.DrawNumText, (*l01Cur).once and spec.DrawNumRead answer: a number of 64 bits; true or false; a short text. Nothing that was there turns.
-/
import Derived.Test.YtjilfddkkajkcaaDoorDraw
import Derived.Test.YtjilfddkkajkcaaDoorText
import Derived.Deep.RegionWith
import Derived.Deep.DeepCutAuto
import Derived.WalkSpells
namespace Go.Proofs.YtjilfddkkajkcaaDoor
open Go.RowKit Go.Deep

set_option maxHeartbeats 1000000 in
theorem drawNumText_any (w : World) (A : Option Addr) (len cap : Nat) (hc : CodeIn w A len) (hl : len ≤ 1048576) : Calls Tryd.prog 7 #[.slice A len cap] w (SomeInt w) := by
  go_enter Tryd.func7, Tryd.ntmps7
  go_wp2_with fail
  refine (open_any w A len cap hc hl).mono ?_
  rintro e w1 ⟨rfl, k1, b1, -⟩
  go_wp2_with fail
  refine (raw_any w1 w.heap.size A len cap 0 (by omega) k1).mono ?_
  rintro e w2 ⟨r, rfl, hr0, hr1, k2, g2⟩
  have b2 := below_only b1 g2 (Nat.le_refl _)
  clear g2
  go_wp2_with fail
  refine (pick_any w2 w.heap.size A len cap _ 900 (by omega) k2 (by omega)).mono ?_
  rintro e w3 ⟨v, rfl, hv0, hv1, -, k3, g3, -⟩
  have hv2 := hv1 (by omega)
  have b3 := below_only b2 g3 (Nat.le_refl _)
  clear hv1 g3
  go_wp2
  go_ret
  exact ⟨_, rfl, (wrap_bd _).1, (wrap_bd _).2, b3⟩

/-- What a question to the cursor leaves. -/
def Asked (w : World) (c : Nat) (A : Option Addr) (len cap m : Nat) (e : Ending) (w' : World) : Prop :=
  ∃ b : Bool, e = .returned (.bool b) ∧ CurAt w' c A len cap (m + 1) ∧ w.grownBy w' (some c)

theorem once_any (w : World) (c : Nat) (A : Option Addr) (len cap m : Nat) (n : Int) (h : CurAt w c A len cap m) (hm : m ≤ 1000000000) (hn0 : 2 ≤ n) (hn : n ≤ 1000000000) :
    Calls Tryd.prog 18 #[.pointer (some ⟨c, 0, none⟩), .int .i64 n] w (Asked w c A len cap m) := by
  go_enter Tryd.func18, Tryd.ntmps18
  go_wp2_with fail
  refine (pick_any w c A len cap m n hm h hn).mono ?_
  rintro e w1 ⟨v, rfl, hv0, hv1, -, k1, g1, -⟩
  clear hv1
  go_wp2
  go_ret
  exact ⟨_, rfl, k1, g1⟩

/-- A short text; nothing that was there has turned. -/
def SomeText (w : World) (e : Ending) (w' : World) : Prop := ∃ s : ByteArray, e = .returned (.string s) ∧ s.size ≤ 100 ∧ Below w.heap.size w w'

theorem itoa_len (n : Int) (h0 : -9223372036854775808 ≤ n) (h1 : n ≤ 9223372036854775807) : (Lib.itoa n).length ≤ 20 := by
  have hl := decDigits_len 18 n.natAbs (Nat.lt_of_le_of_lt (show n.natAbs ≤ 9223372036854775808 by omega) (by decide))
  by_cases a : n < 0
  · rw [itoa_neg a]; simp; omega
  · rw [itoa_pos a]; omega

/-- The five short texts of DrawNumRead. -/
def five : List Value := [.string ⟨#[]⟩, .string ⟨#[48]⟩, .string ⟨#[45]⟩, .string ⟨#[32]⟩, .string ⟨#[120]⟩]
theorem five_at (j : Nat) (hj : j < 5) : ∃ u : ByteArray, (∀ h, ([.string ⟨#[]⟩, .string ⟨#[48]⟩, .string ⟨#[45]⟩, .string ⟨#[32]⟩, .string ⟨#[120]⟩] : List Value)[j]'h = .string u) ∧ five[j]? = some (.string u) ∧ u.size ≤ 1 := by
  match j, hj with
  | 0, _ => exact ⟨⟨#[]⟩, fun _ => rfl, rfl, by decide⟩
  | 1, _ => exact ⟨⟨#[48]⟩, fun _ => rfl, rfl, by decide⟩
  | 2, _ => exact ⟨⟨#[45]⟩, fun _ => rfl, rfl, by decide⟩
  | 3, _ => exact ⟨⟨#[32]⟩, fun _ => rfl, rfl, by decide⟩
  | 4, _ => exact ⟨⟨#[120]⟩, fun _ => rfl, rfl, by decide⟩
theorem five_cell {w w' : World} {c : Nat} {t : TypeId} {j : Nat} {u : ByteArray} (hc : c < w.heap.size)
    (hg : (w.alloc (.cells #[.string ⟨#[]⟩, .string ⟨#[48]⟩, .string ⟨#[45]⟩, .string ⟨#[32]⟩, .string ⟨#[120]⟩] t)).grownBy w' (some c)) (hu : five[j]? = some (.string u)) : w'.cell? ⟨w.heap.size, j, none⟩ = some (.string u) := by
  refine hg.cell (a := ⟨w.heap.size, j, none⟩) ?_ (by simp; omega)
  rw [cell_of_block (heap_alloc_new w _), ← hu]
  unfold five
  simp

theorem text_size (s u : ByteArray) (k t : Nat) (hs : s.size ≤ 20) (hu : u.size ≤ 1) : (s.extract 0 k ++ u ++ s.extract t s.size).size ≤ 100 := by
  simp only [ByteArray.size_append, ByteArray.size_extract]; omega

theorem cut_at (k n : Nat) (q : Int) (hn : n ≤ 20) (h0 : 0 ≤ q) (h1 : q < 2 ∧ k ≤ n) : ∃ t : Nat, t ≤ n ∧ (if IntKind.i64.wrap (↑k + q) < (n : Int) then IntKind.i64.wrap (↑k + q) else (n : Int)) = (t : Int) ∧
    (if (k : Int) + q < (n : Int) then (k : Int) + q else (n : Int)) = (t : Int) ∧ (if wrap64 ((k : Int) + q) < (n : Int) then wrap64 ((k : Int) + q) else (n : Int)) = (t : Int) := by
  have e : IntKind.i64.wrap ((k : Int) + q) = k + q := IntWalk.i64_in _ (by omega)
  have e' : wrap64 ((k : Int) + q) = k + q := by unfold wrap64; omega
  rw [e, e']
  refine ⟨(if (k : Int) + q < n then (k : Int) + q else n).toNat, ?_, ?_, ?_, ?_⟩ <;> split <;> omega

set_option maxHeartbeats 16000000 in
theorem drawNumRead_any (w : World) (A : Option Addr) (len cap : Nat) (hc : CodeIn w A len) (hl : len ≤ 1048576) : Calls Tryd.prog 10 #[.slice A len cap] w (SomeText w) := by
  go_enter Tryd.func10, Tryd.ntmps10
  go_wp2_with fail
  refine (open_any w A len cap hc hl).mono ?_
  rintro e w1 ⟨rfl, k1, b1, -⟩
  go_wp2_with fail
  refine (raw_any w1 w.heap.size A len cap 0 (by omega) k1).mono ?_
  rintro e w2 ⟨r, rfl, hr0, hr1, k2, g2⟩
  have b2 := below_only b1 g2 (Nat.le_refl _)
  clear g2
  go_wp2_with fail
  refine (pick_any w2 w.heap.size A len cap _ 256 (by omega) k2 (by omega)).mono ?_
  rintro e w3 ⟨v, rfl, hv0, hv1, -, k3, g3, -⟩
  have hv2 := hv1 (by omega)
  have b3 := below_only b2 g3 (Nat.le_refl _)
  clear hv1 g3
  go_wp2_with fail
  refine (pick_any _ w.heap.size A len cap _ 5 (by omega) (k3.alloc _) (by omega)).mono ?_
  rintro e w4 ⟨i, rfl, hi0, hi1, -, k4, g4, -⟩
  have hi2 := hi1 (by omega)
  have hu := laid_cell_later (zs := [r, 1000000000000, 1000000000001, -1000000000000, v]) k3.lt g4 (i := i.toNat) (by simp; omega)
  have b4 := below_only (b3.alloc b3.size _) g4 (Nat.le_refl _)
  clear hi1 g4
  have hz : In64 (zg [r, 1000000000000, 1000000000001, -1000000000000, v] i.toNat) := zg_in (by
    intro z hz
    simp only [List.mem_cons, List.not_mem_nil, or_false] at hz
    rcases hz with rfl | rfl | rfl | rfl | rfl <;> exact ⟨by omega, by omega⟩) _
  obtain ⟨x, Hx⟩ : ∃ x, x = zg [r, 1000000000000, 1000000000001, -1000000000000, v] i.toNat := ⟨_, rfl⟩
  rw [← Hx] at hz hu
  clear Hx
  go_wp2_with fail
  refine (specNumText_any x w4 hz.1 hz.2).mono ?_; rintro e w5 ⟨rfl, b5⟩
  have b15 := b4.trans (b5.mono b4.size)
  have k5 : CurAt w5 w.heap.size A len cap _ := k4.later (row := none) ⟨b5.os, b5.tape, b5.output, b5.size, fun k hk _ => b5.block k hk⟩ (fun _ e => by cases e)
  have hsz := itoa_len x hz.1 hz.2
  obtain ⟨s, Hs⟩ : ∃ s : ByteArray, s = ⟨(Lib.itoa x).toArray⟩ := ⟨_, rfl⟩
  have hss : s.size ≤ 20 := by rw [Hs]; show (Lib.itoa x).toArray.size ≤ 20; simpa using hsz
  rw [← Hs]
  clear Hs hsz hz hu
  go_wp2_with fail
  refine (once_any w5 w.heap.size A len cap _ 3 k5 (by omega) (by omega) (by omega)).mono ?_
  rintro e w6 ⟨b, rfl, k6, g6⟩
  have b6 := below_only b15 g6 (Nat.le_refl _)
  clear g6
  cases b with
  | false =>
    go_wp2
    go_ret
    exact ⟨s, rfl, by omega, b6⟩
  | true =>
    go_wp2_with fail
    refine (pick_any w6 w.heap.size A len cap _ _ (by omega) k6 (by omega)).mono ?_
    rintro e w7 ⟨k, rfl, hk0, hk1, hk2, k7, g7, -⟩
    have hk3 : k ≤ s.size := by
      by_cases h : 2 ≤ (s.size : Int) + 1
      · have := hk1 h; omega
      · have := hk2 (by omega); omega
    have b7 := below_only b6 g7 (Nat.le_refl _)
    clear g7 hk1 hk2
    obtain ⟨k, rfl⟩ : ∃ kn : Nat, k = kn := ⟨k.toNat, by omega⟩
    have hk4 : k ≤ s.size := by omega
    clear k1 k2 k3 k4 k5 k6 b1 b2 b3 b4 b5 b15 b6 hr0 hr1 hv0 hv2 hi0 hi2 hk0 hk3 hc hl
    go_wp2_with fail
    go_region_with (first
      | ((go_at_call 15; with_reducible refine (pick_at _ w.heap.size A len cap (0 + 2 + 1 + 1 + 1 + 1) 5 k7.drew (by omega) (by omega)).mono ?_); rintro e w8 ⟨j, rfl, hj0, hj1, -, k8, g8, -⟩; have hj2 := hj1 (by omega); clear hj1; obtain ⟨u, hu1, hu2, hu3⟩ := five_at j.toNat (by omega); have HU2 := Lib.hid hu2; clear hu2; have b8 := below_only b7.drew g8 (Nat.le_refl _); clear g8)
      | ((go_at_call 15; with_reducible refine (pick_at _ w.heap.size A len cap (0 + 2 + 1 + 1 + 1 + 1) 5 (k7.alloc _).drew (by omega) (by omega)).mono ?_); rintro e w8 ⟨j, rfl, hj0, hj1, -, k8, g8, -⟩; have hj2 := hj1 (by omega); clear hj1; obtain ⟨u, hu1, hu2, hu3⟩ := five_at j.toNat (by omega); have hu4 : w8.cell? ⟨w7.heap.size, j.toNat, none⟩ = some (.string u) := five_cell k7.lt ⟨g8.os, g8.tape, g8.output, g8.size, g8.block⟩ hu2; clear hu1 hu2; have b8 := below_only (b7.alloc b7.size _).drew g8 (Nat.le_refl _); clear g8)
      | ((go_at_call 15; with_reducible refine (pick_at _ w.heap.size A len cap (0 + 2 + 1 + 1 + 1 + 1 + 1) 2 k8 (by omega) (by omega)).mono ?_); rintro e w9 ⟨q, rfl, hq0, hq1, -, k9, g9, -⟩; have hq2 := hq1 (by omega); clear hq1; obtain ⟨t, htl, ht1, ht2, ht3⟩ := cut_at k s.size q (by omega) (by omega) (by omega); (first | (have hu5 : w9.cell? ⟨w7.heap.size, j.toNat, none⟩ = some (.string u) := g9.cell (a := ⟨w7.heap.size, j.toNat, none⟩) hu4 (by have := k7.lt; simp; omega)) | skip); have b9 := below_only b8 g9 (Nat.le_refl _); clear g9)
      | ((go_at_call 15; with_reducible refine (pick_at _ w.heap.size A len cap (0 + 2 + 1 + 1 + 1 + 1 + 1) 2 (k8.alloc _) (by omega) (by omega)).mono ?_); rintro e w9 ⟨q, rfl, hq0, hq1, -, k9, g9, -⟩; have hq2 := hq1 (by omega); clear hq1; obtain ⟨t, htl, ht1, ht2, ht3⟩ := cut_at k s.size q (by omega) (by omega) (by omega); have hu5 : w9.cell? ⟨w8.heap.size, j.toNat, none⟩ = some (.string u) := five_cell k8.lt g9 HU2.out; have b9 := below_only (b8.alloc b8.size _) g9 (Nat.le_refl _); clear g9))
    all_goals
      go_wp2
      go_ret
      refine ⟨_, rfl, ?_, ?_⟩
      · exact text_size s u k t hss hu3
      · first | exact b9 | exact b9.alloc b9.size _

end Go.Proofs.YtjilfddkkajkcaaDoor
