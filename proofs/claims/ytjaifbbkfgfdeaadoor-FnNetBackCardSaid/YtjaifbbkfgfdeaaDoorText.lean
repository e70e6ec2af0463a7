/-
  What spec.NumText computes: the decimal digits of a number, with a minus sign if it is negative.
-/
import Derived.Test.YtjaifbbkfgfdeaaDoorProg
import Derived.WalkKit
import Derived.ProofKit
import Derived.Lib.Hide
import Derived.Lib.ItoaNum
import Derived.Laws.IdiomStrings
import Derived.Deep.OwnRows
import Derived.Maps.AppendAt
import Derived.Deep.DeepCutAuto
namespace Go.Proofs.YtjaifbbkfgfdeaaDoor
open Go.RowKit Go.Deep

theorem Tryd.infoByte : (Tryd.prog.info? 5).map (fun i => (i.zero, i.size, i.bytes)) = some (some (.int .u8 0), 1, 1) := by kernel_rfl

/-- The bytes of a text as cells. -/
def bcells (l : List UInt8) : List Value := l.map fun b => .int .u8 (b.toNat : Int)

theorem decDigits_len : ∀ (k u : Nat), u < 10 ^ (k + 1) → (Lib.decDigits u).length ≤ k + 1
  | 0, u, h => by rw [Lib.decDigits, dif_pos (by simpa using h)]; simp
  | k + 1, u, h => by
    rw [Lib.decDigits]
    split
    · simp
    · have := decDigits_len k (u / 10) (by rw [Nat.pow_succ] at h; omega)
      simp; omega

/-- What holds at the head of the loop: the digits of m are still to come, those behind it are ds. -/
def TextRel (n m : Int) (ds : List UInt8) : Prop := (m = 0 ∧ ds = Lib.decDigits n.natAbs) ∨ (m ≠ 0 ∧ Lib.decDigits m.natAbs ++ ds = Lib.decDigits n.natAbs)

theorem textRel_start {n : Int} (h : n ≠ 0) : TextRel n n [] := .inr ⟨h, by simp⟩
theorem textRel_len {n m : Int} {ds : List UInt8} (h : TextRel n m ds) (hn : n.natAbs ≤ 9223372036854775808) : ds.length ≤ 19 := by
  have hl := decDigits_len 18 n.natAbs (Nat.lt_of_le_of_lt hn (by decide))
  rcases h with ⟨_, rfl⟩ | ⟨_, e⟩
  · exact hl
  · rw [← e] at hl; simp at hl; omega
/-- The digit that comes next, as a byte. -/
def digit (m : Int) : UInt8 := UInt8.ofNat (48 + m.natAbs % 10)
theorem digit_toNat (m : Int) : ((digit m).toNat : Int) = 48 + (m.natAbs % 10 : Nat) := by
  unfold digit
  have : (UInt8.ofNat (48 + m.natAbs % 10)).toNat = (48 + m.natAbs % 10) % 256 := by simp
  rw [this]; omega
theorem textRel_step {n m : Int} {ds : List UInt8} (h : TextRel n m ds) (hm : m ≠ 0) : TextRel n (m.tdiv 10) (digit m :: ds) := by
  rcases h with ⟨h, _⟩ | ⟨_, e⟩
  · exact absurd h hm
  · have ha : (m.tdiv 10).natAbs = m.natAbs / 10 := by rw [Int.natAbs_tdiv]; rfl
    have e' := e
    rw [Lib.decDigits] at e'
    by_cases hlt : m.natAbs < 10
    · left
      refine ⟨?_, ?_⟩
      · have : (m.tdiv 10).natAbs = 0 := by omega
        omega
      · rw [dif_pos hlt] at e'; rw [← e']; unfold digit; rw [Nat.mod_eq_of_lt hlt]; rfl
    · right
      refine ⟨?_, ?_⟩
      · have : (m.tdiv 10).natAbs ≠ 0 := by omega
        omega
      · rw [dif_neg hlt] at e'; rw [← e', ha]; simp [digit]

/-- The slice value v holds the bytes l, in memory of the call's own. -/
def Holds (w wr : World) (v : Value) (l : List UInt8) : Prop :=
  ∃ g cap, v = .slice (some ⟨g, 0, none⟩) l.length cap ∧ wr.ownsRow w.heap.size 5 1 v l.length (bcells l) ∧ Below w.heap.size w wr

theorem holds_start (w : World) : Holds w (w.alloc (.cells #[] 5)) (.slice (some ⟨w.heap.size, 0, none⟩) 0 0) [] :=
  ⟨w.heap.size, 0, rfl, ⟨rfl, .inr ⟨w.heap.size, 0, #[], rfl, Nat.le_refl _, heap_alloc_new w _, Nat.le_refl _, Nat.zero_le _, rfl, rfl⟩⟩, (Below.refl _ _).alloc (Nat.le_refl _) _⟩

theorem tmod_neg {m : Int} (h : m < 0) : -9 ≤ m.tmod 10 ∧ m.tmod 10 ≤ 0 ∧ -(m.tmod 10) = (m.natAbs % 10 : Nat) := by
  have h2 : (-m).tmod 10 = -(m.tmod 10) := Int.neg_tmod ..
  have h3 : (-m).tmod 10 = (-m) % 10 := Int.tmod_eq_emod_of_nonneg (by omega)
  omega

theorem own_new {base : Nat} {w : World} (h : base ≤ w.heap.size) (x : Value) (t : TypeId) : (w.alloc (.cells #[x] t)).ownsRow base t 1 (.slice (some ⟨w.heap.size, 0, none⟩) 1 1) 1 [x] :=
  ⟨rfl, .inr ⟨w.heap.size, 1, #[x], rfl, h, heap_alloc_new w _, Nat.le_refl _, by decide, rfl, rfl⟩⟩

theorem src_cells {w wc : World} {g cap : Nat} {ds : List UInt8} {o : Obj} (hown : wc.ownsRow w.heap.size 5 1 (.slice (some ⟨g, 0, none⟩) ds.length cap) ds.length (bcells ds)) :
    ∀ (j : Nat) (u : Value), (bcells ds)[j]? = some u → (wc.alloc o).cell? ((⟨g, 0, none⟩ : Addr).add j) = some u := by
  intro j u hu
  have h := hown.cells (g := g) rfl j u hu
  have hlt := World.block_lt_of_cell? wc _ h
  exact (World.cell?_alloc_lt wc o _ hlt).trans h

theorem holds_of {w w' : World} {v' : Value} {l : List UInt8} (own' : w'.ownsRow w.heap.size 5 1 v' l.length (bcells l)) (hnn : ¬ v' = .slice none 0 0) (hb : Below w.heap.size w w') : Holds w w' v' l := by
  have h := own'
  rcases h.2 with ⟨h, _⟩ | ⟨g, cap, cur, rfl, _⟩
  · exact absurd h hnn
  · exact ⟨g, cap, rfl, own', hb⟩

theorem below_app {w wc w' : World} {x : Value} {t : TypeId} (hb : Below w.heap.size w wc) (hg : (wc.alloc (.cells #[x] t)).grownBy w' (Value.slice (some ⟨wc.heap.size, 0, none⟩) 1 1).ownBlock) : Below w.heap.size w w' :=
  (hb.alloc hb.size _).grown hg (by have := hb.size; simp; omega) (fun k e => by have := hb.size; simp [Value.ownBlock] at e; omega)

theorem holds_step {w wc w' : World} {ds : List UInt8} {v' : Value} {d m : Int} {t : TypeId} (hb : Below w.heap.size w wc) (own' : w'.ownsRow w.heap.size 5 1 v' (1 + ds.length) (.int .u8 (48 + d) :: bcells ds))
    (hg : (wc.alloc (.cells #[.int .u8 (48 + d)] t)).grownBy w' (Value.slice (some ⟨wc.heap.size, 0, none⟩) 1 1).ownBlock) (hnn : ¬ v' = .slice none 0 0) (hd : d = (m.natAbs % 10 : Nat)) : Holds w w' v' (digit m :: ds) := by
  refine holds_of ?_ hnn (below_app hb hg)
  have e : (Value.int .u8 (48 + d) :: bcells ds) = bcells (digit m :: ds) := by
    simp only [bcells, List.map_cons]; rw [digit_toNat, hd]
  rw [e] at own'
  rw [show (digit m :: ds).length = 1 + ds.length by simp; omega]
  exact own'

theorem holds_minus {w wc w' : World} {ds : List UInt8} {v' : Value} {t : TypeId} (hb : Below w.heap.size w wc) (own' : w'.ownsRow w.heap.size 5 1 v' (1 + ds.length) (.int .u8 45 :: bcells ds))
    (hg : (wc.alloc (.cells #[.int .u8 45] t)).grownBy w' (Value.slice (some ⟨wc.heap.size, 0, none⟩) 1 1).ownBlock) (hnn : ¬ v' = .slice none 0 0) : Holds w w' v' (45 :: ds) := by
  refine holds_of ?_ hnn (below_app hb hg)
  have e : (Value.int .u8 45 :: bcells ds) = bcells (45 :: ds) := rfl
  rw [e] at own'
  rw [show ((45 : UInt8) :: ds).length = 1 + ds.length by simp; omega]
  exact own'

theorem Holds.below {w wr : World} {v : Value} {l : List UInt8} (h : Holds w wr v l) : Below w.heap.size w wr := by
  obtain ⟨_, _, _, _, hb⟩ := h; exact hb

theorem Holds.conv {w wr : World} {v : Value} {l : List UInt8} (h : Holds w wr v l) : (convert 22 9 v).run Tryd.prog wr = .ok (.string ⟨l.toArray⟩) wr := by
  obtain ⟨g, cap, rfl, hown, _⟩ := h
  refine run_convert_bytes_back wr 22 9 5 ⟨g, 0, none⟩ cap l Tryd.underlying22 Tryd.underlying5 Tryd.underlying9 (fun j hj => ?_)
  exact hown.cells (g := g) rfl j _ (by simp [bcells, hj])

theorem tdiv_neg {m : Int} (h : m < 0) : m ≤ m.tdiv 10 ∧ m.tdiv 10 ≤ 0 ∧ (m.tdiv 10).natAbs < m.natAbs := by
  have h2 : (-m).tdiv 10 = -(m.tdiv 10) := Int.neg_tdiv ..
  have h3 : (-m).tdiv 10 = (-m) / 10 := Int.tdiv_eq_ediv_of_nonneg (by omega)
  omega

theorem itoa_neg {n : Int} (h : n < 0) : Lib.itoa n = 45 :: Lib.decDigits n.natAbs := by unfold Lib.itoa; rw [if_pos h]
theorem itoa_pos {n : Int} (h : ¬ n < 0) : Lib.itoa n = Lib.decDigits n.natAbs := by unfold Lib.itoa; rw [if_neg h, show n.toNat = n.natAbs by omega]

theorem retS {a b : ByteArray} (h : a = b) : Ending.returned (.string a) = .returned (.string b) := by rw [h]

set_option maxHeartbeats 1000000 in
set_option maxRecDepth 100000 in
theorem specNumText_any (n : Int) (w : World) (h0 : -9223372036854775808 ≤ n) (h1 : n ≤ 9223372036854775807) :
    Calls Tryd.prog 46 #[.int .i64 n] w fun e w' => e = .returned (.string ⟨(Lib.itoa n).toArray⟩) ∧ Below w.heap.size w w' := by
  obtain ⟨i0, hi, hz0, hz1, hz2⟩ := info_parts Tryd.infoByte
  by_cases hn : n = 0
  · subst hn
    go_enter Tryd.func46, Tryd.ntmps46
    go_wp2
    go_ret
    exact ⟨retS (by simp [Lib.itoa, Lib.decDigits]), Below.refl _ _⟩
  · have hne : (n == 0) = false := by rw [beq_eq_false_iff_ne]; exact hn
    go_enter Tryd.func46, Tryd.ntmps46
    go_wp2
    go_loopw [3, 4] (fun v i wr => ∃ (m : Int) (ds : List UInt8), i = .int .i64 m ∧ -9223372036854775808 ≤ m ∧ m ≤ 9223372036854775807 ∧ TextRel n m ds ∧ Holds w wr v ds) (fun _ i _ => (intOf i).natAbs)
    case atStart => exact ⟨n, [], rfl, h0, h1, textRel_start hn, holds_start w⟩
    case round =>
      obtain ⟨m, ds, rfl, hm0, hm1, hr, hh⟩ := hrel
      by_cases hm : m = 0
      · subst hm
        have hds : Hid (ds = Lib.decDigits n.natAbs) := by
          rcases hr with ⟨_, h⟩ | ⟨h, _⟩
          · exact h
          · exact absurd rfl h
        have hlen := textRel_len hr (by omega)
        have hbs := hh.below.size
        by_cases hneg : n < 0
        · obtain ⟨g, cap, rfl, hown, hb⟩ := hh
          go_wp2_with (at_builtin; (refine wpList_append_own _ rfl _ _ 22 rfl w.heap.size 5 i0 (.int .u8 0) 1 1 Tryd.underlying22 hi hz0 hz1 hz2 rfl (by decide) _ _ _ rfl (own_new (by omega) _ _) ⟨g, 0, none⟩ ds.length cap (bcells ds) rfl (by simp [bcells]) ?d1 ?d2 ?d3 ?d4 ?d5 ?_))
          case d1 => exact src_cells hown
          case d2 => intro u hu; obtain ⟨b, _, rfl⟩ := List.mem_map.1 hu; rfl
          case d3 => unfold maxLen; omega
          case d4 => omega
          case d5 => simp; omega
          intro v' w' own' hg hnn
          have hh : Holds w w' v' (45 :: ds) := holds_minus hb own' hg hnn
          have hcv := hh.conv
          have hbe := hh.below
          clear own' hg hnn hown hb
          go_wp2
          go_ret
          exact ⟨retS (by rw [hds.out, itoa_neg hneg]), hbe⟩
        · have hcv := hh.conv
          have hbe := hh.below
          go_wp2
          go_ret
          exact ⟨retS (by rw [hds.out, itoa_pos (by omega)]), hbe⟩
      · have hmne : (m == 0) = false := by rw [beq_eq_false_iff_ne]; exact hm
        have hmne' : (m != 0) = true := by simpa using hm
        have hlen := textRel_len hr (by omega)
        obtain ⟨g, cap, rfl, hown, hb⟩ := hh
        go_upto_if 17 with (fail)
        go_cut [5] (fun t wc => ∃ d : Int, t = .int .i64 d ∧ Hid (d = (m.natAbs % 10 : Nat)) ∧ 0 ≤ d ∧ d ≤ 9 ∧ wc = wr)
        case first =>
          rcases Int.lt_or_gt_of_ne hm with hneg | hpos
          · obtain ⟨q0, q1, q2⟩ := tmod_neg hneg
            go_wp2
            all_goals
              go_meet
              case rel => exact ⟨_, rfl, by unfold Hid; omega, by omega, by omega, rfl⟩
          · have q := Int.tmod_eq_emod_of_nonneg (a := m) (b := 10) (by omega)
            go_wp2
            all_goals
              go_meet
              case rel => exact ⟨_, rfl, by unfold Hid; omega, by omega, by omega, rfl⟩
        case rest =>
          obtain ⟨d, rfl, hd, hd0, hd1, rfl⟩ := hcut
          have hbs := hb.size
          go_wp2_with (at_builtin; (refine wpList_append_own _ rfl _ _ 22 rfl w.heap.size 5 i0 (.int .u8 0) 1 1 Tryd.underlying22 hi hz0 hz1 hz2 rfl (by decide) _ _ _ rfl (own_new (by omega) _ _) ⟨g, 0, none⟩ ds.length cap (bcells ds) rfl (by simp [bcells]) ?c1 ?c2 ?c3 ?c4 ?c5 ?_))
          case c1 => exact src_cells hown
          case c2 => intro u hu; obtain ⟨b, _, rfl⟩ := List.mem_map.1 hu; rfl
          case c3 => unfold maxLen; omega
          case c4 => omega
          case c5 => simp; omega
          intro v' w' own' hg hnn
          have hh : Holds w w' v' (digit m :: ds) := holds_step hb own' hg hnn hd.out
          have ht := textRel_step hr hm
          clear own' hg hnn hown hb hd hr
          rcases Int.lt_or_gt_of_ne hm with hneg | hpos
          · have hq := tdiv_neg hneg
            go_wp2
            go_roundw
            case rel => exact ⟨_, _, rfl, by omega, by omega, ht, hh⟩
            case measure => exact hq.2.2
          · have q : Hid (m.tdiv 10 = m / 10) := Int.tdiv_eq_ediv_of_nonneg (by omega)
            rw [q.out] at ht
            clear q
            go_wp2
            go_roundw
            case rel => exact ⟨_, _, rfl, by omega, by omega, ht, hh⟩
            case measure => show (m / 10).natAbs < m.natAbs; omega

end Go.Proofs.YtjaifbbkfgfdeaaDoor
