/-
  What spec.DrawLeast answers: at most four numbers of 64 bits in new memory; what laws.in answers.
-/
import Derived.Test.YtahpjpchphbgiaaDraw
import Derived.Test.YtahpjpchphbgiaaSlices
import Derived.Maps.AppendAt
namespace Go.Proofs.Ytahpjpchphbgiaa
open Go.RowKit Go.Deep

/-- What is at hand at the head of DrawLeast's loop. -/
def LeastRel (w wr : World) (A : Option Addr) (len cap : Nat) (v : Value) (k : Int) : Prop :=
  ∃ zs : List Int, wr.ownsRow (w.heap.size + 1) 3 1 v zs.length (zs.map (Value.int .i64)) ∧ CurAt wr w.heap.size A len cap (1 + 2 * zs.length) ∧ Below w.heap.size w wr ∧ (∀ z ∈ zs, In64 z) ∧ zs.length + k ≤ 4

/-- Some numbers of 64 bits, at most four, in new memory; nothing that was there has turned. -/
def SomeInts (w : World) (e : Ending) (w' : World) : Prop :=
  ∃ (A : Option Addr) (zs : List Int) (cap : Nat), e = .returned (.slice A zs.length cap) ∧ zs.length ≤ cap ∧ zs.length ≤ 4 ∧ IsInts w' A zs ∧ (∀ z ∈ zs, In64 z) ∧ Below w.heap.size w w'

theorem leastRel_start {w w1 w2 : World} {A : Option Addr} {len cap : Nat} {n : Int} (b1 : Below w.heap.size w w1) (hlt : w.heap.size < w1.heap.size) (k2 : CurAt w2 w.heap.size A len cap (0 + 1))
    (g2 : (w1.alloc (.cells #[] 3)).grownBy w2 (some w.heap.size)) (hn : n < 5) : LeastRel w w2 A len cap (.slice (some ⟨w1.heap.size, 0, none⟩) 0 0) n := by
  refine ⟨[], ⟨rfl, .inr ⟨w1.heap.size, 0, #[], rfl, by omega, ?_, Nat.le_refl _, Nat.zero_le _, rfl, rfl⟩⟩, k2.more (by simp), ?_, by simp, by simp; omega⟩
  · exact (g2.block w1.heap.size (by simp) (fun e => by injection e with e; omega)).trans (heap_alloc_new w1 _)
  · exact below_only (b1.alloc (Nat.le_of_lt hlt) _) g2 (Nat.le_refl _)

theorem leastRel_step {w w3 w4 : World} {A : Option Addr} {len cap : Nat} {v v' : Value} {k r : Int} {zs : List Int} {t : TypeId} (own3 : w3.ownsRow (w.heap.size + 1) 3 1 v zs.length (zs.map (Value.int .i64)))
    (k3 : CurAt w3 w.heap.size A len cap (1 + 2 * zs.length + 2)) (b3 : Below w.heap.size w w3) (h4 : ∀ z ∈ zs, In64 z) (h5 : zs.length + k ≤ 4) (hr : In64 r)
    (own4 : w4.ownsRow (w.heap.size + 1) 3 1 v' (zs.length + 1) (zs.map (Value.int .i64) ++ [.int .i64 r])) (g4 : (w3.alloc (.cells #[.int .i64 r] t)).grownBy w4 v.ownBlock) : LeastRel w w4 A len cap v' (k - 1) := by
  have hown : ∀ g, v.ownBlock = some g → w.heap.size < g := by
    intro g hg
    rcases own3.2 with ⟨rfl, _⟩ | ⟨g', cap', cur, rfl, h2, _⟩
    · simp [Value.ownBlock] at hg
    · simp [Value.ownBlock] at hg; omega
  refine ⟨zs ++ [r], by simpa using own4, ((k3.alloc _).later g4 hown).more (by simp; omega), ?_, ?_, by simp; omega⟩
  · exact (b3.alloc b3.size _).grown g4 (by have := k3.lt; simp; omega) (fun g e => by have := hown g e; omega)
  · intro z hz
    rcases List.mem_append.1 hz with h | h
    · exact h4 z h
    · simp at h; subst h; exact hr

theorem leastRel_end {w wr : World} {A : Option Addr} {len cap : Nat} {v : Value} (h : LeastRel w wr A len cap v 0) : SomeInts w (.returned v) wr := by
  obtain ⟨zs, h1, h2, h3, h4, h5⟩ := h
  have hv : ∃ B n c, v = .slice B n c := by
    rcases h1.2 with ⟨rfl, _⟩ | ⟨g, cap', cur, rfl, _⟩
    · exact ⟨_, _, _, rfl⟩
    · exact ⟨_, _, _, rfl⟩
  obtain ⟨B, n, c, rfl⟩ := hv
  obtain ⟨rfl, g2, g3⟩ := isInts_own h1
  exact ⟨B, zs, c, rfl, g2, by omega, g3, h4, h3⟩

theorem lst_mem (zs : List Int) (h : 0 < zs.length) : lst zs ∈ zs := by
  cases zs with
  | nil => simp at h
  | cons z r =>
    have : ∀ (r : List Int) (z : Int), r.foldl min z ∈ z :: r := by
      intro r
      induction r with
      | nil => intro z; simp
      | cons y r ih =>
        intro z
        have h1 := ih (min z y)
        simp only [List.foldl_cons]
        rcases List.mem_cons.1 h1 with h | h
        · rw [h]
          rcases Int.le_total z y with hz | hz
          · rw [Int.min_eq_left hz]; simp
          · rw [Int.min_eq_right hz]; simp
        · exact List.mem_cons_of_mem _ (List.mem_cons_of_mem _ h)
    exact this r z

theorem lst_le (zs : List Int) (k : Nat) (h : k < zs.length) : lst zs ≤ zg zs k := by
  have key : ∀ (r : List Int) (z : Int), r.foldl min z ≤ z ∧ ∀ y ∈ r, r.foldl min z ≤ y := by
    intro r
    induction r with
    | nil => intro z; simp
    | cons y r ih =>
      intro z
      obtain ⟨h1, h2⟩ := ih (min z y)
      have h3 : min z y ≤ z := Int.min_le_left _ _
      have h4 : min z y ≤ y := Int.min_le_right _ _
      refine ⟨by simp only [List.foldl_cons]; omega, fun x hx => ?_⟩
      simp only [List.foldl_cons]
      rcases List.mem_cons.1 hx with rfl | hx
      · omega
      · exact h2 x hx
  cases zs with
  | nil => simp at h
  | cons z r =>
    obtain ⟨h1, h2⟩ := key r z
    have hm : zg (z :: r) k ∈ z :: r := getD_mem k h
    rcases List.mem_cons.1 hm with h | h
    · rw [h]; exact h1
    · exact h2 _ h

theorem idx_of_mem {zs : List Int} {x : Int} (h : x ∈ zs) : ∃ k, k < zs.length ∧ zg zs k = x := by
  obtain ⟨k, hk, e⟩ := List.getElem_of_mem h
  exact ⟨k, hk, by simp [zg, hk, e]⟩

set_option maxHeartbeats 400000 in
theorem in_yes (B : Option Addr) (cap : Nat) (zs : List Int) (x : Int) (w : World) (hn : zs.length ≤ 1048576) (h : IsInts w B zs) (hx : x ∈ zs) :
    Calls Try.prog 18 #[.slice B zs.length cap, .int .i64 x] w fun e w' => e = .returned (.bool true) ∧ w = w' := by
  obtain ⟨p, hp, hpx⟩ := idx_of_mem hx
  have HP := Lib.hid hpx
  clear hpx hx
  go_enter Try.func18, Try.ntmps18
  go_wp2
  go_loop [5] (fun i => ∃ k : Nat, k ≤ p ∧ i = .int .i64 k) (fun i => zs.length - (intOf i).toNat)
  case atStart => exact ⟨0, by omega, rfl⟩
  case round =>
    obtain ⟨k, hk, rfl⟩ := hrel
    have hlt : k < zs.length := by omega
    obtain ⟨b, off, rfl, hb, hck⟩ := h.at_ hlt
    by_cases hkp : k = p
    · have e : (zg zs k == x) = true := by rw [hkp, HP.out]; simp
      clear hkp
      go_wp2
      go_ret
      exact ⟨rfl, rfl⟩
    · go_wp2
      · go_ret
        exact ⟨rfl, rfl⟩
      · go_round
        case rel => exact ⟨k + 1, by omega, by go_num⟩
        case measure => simp [intOf]; omega

end Go.Proofs.Ytahpjpchphbgiaa
