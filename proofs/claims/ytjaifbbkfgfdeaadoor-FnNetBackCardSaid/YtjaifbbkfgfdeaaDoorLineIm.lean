/-
  What strings.Split, strings.Cut and impl.lineRead compute, out of the library's contracts.
-/
import Derived.Test.YtjaifbbkfgfdeaaDoorNetRow
import Derived.Test.YtjaifbbkfgfdeaaDoorSpecLine
import Derived.Test.YtjaifbbkfgfdeaaDoorConvRead
import Derived.Shelf.Strings.Split
import Derived.Shelf.Strings.Cut
namespace Go.Proofs.YtjaifbbkfgfdeaaDoor
open Go.RowKit Go.Deep

/-- The library's own variable holds some number. -/
def MaxV (w : World) : Prop := ∃ m, w.cell? ⟨0, 0, none⟩ = some (.int .i64 m)
theorem MaxV.below {w w' : World} (h : MaxV w) (hb : Below w.heap.size w w') : MaxV w' := by obtain ⟨m, hm⟩ := h; exact ⟨m, cell_under hb hm⟩

theorem split_any (l : List UInt8) (w : World) (hl : l.length < 1048576) (hx : MaxV w) :
    Calls Tryd.prog 60 #[.string (tx l), .string (tx [32])] w fun e w' => e = .returned (.slice (some ⟨w.heap.size, 0, none⟩) ((tailW l).length + 1) ((tailW l).length + 1)) ∧ StrsAt w' w.heap.size 0 (headW l :: tailW l) ∧ Below w.heap.size w w' := by
  obtain ⟨m, hm⟩ := hx
  refine (Any.strings_Split Tryd.lays146 Tryd.infoStr (tx l) (tx [32]) m w (by rw [tx_size]; omega) hm (by rw [tx_size]; decide)).mono ?_
  rintro e w' ⟨rfl, rfl⟩
  have hs := splitB_tx 32 l
  have hlen : Lib.countB (tx l) (tx [32]) + 1 = (tailW l).length + 1 := by
    have h := Lib.splitB_all (tx [32]) (by rw [tx_size]; decide) 0 _ (tx l) rfl
    rw [hs, List.length_map, split_ht, List.length_cons] at h
    exact h.symm
  refine ⟨by rw [hlen], ?_, below1 _ _⟩
  rw [hs, split_ht]
  intro i hi
  rw [cell_of_block (heap_alloc_new w _), Nat.zero_add]
  simp at hi
  simp [hi]
  cases i with
  | zero => rfl
  | succ i => simp

theorem cut_any (l : List UInt8) (w : World) (hl : l.length < 1048576) (hx : MaxV w) :
    Calls Tryd.prog 27 #[.string (tx l), .string (tx [10])] w fun e w' => (((∀ b ∈ l, b ≠ 10) ∧ e = .returned (.tuple #[.string (tx l), .string (tx []), .bool false])) ∨ ∃ a r, l = a ++ 10 :: r ∧ (∀ b ∈ a, b ≠ 10) ∧ e = .returned (.tuple #[.string (tx a), .string (tx r), .bool true])) ∧ Below w.heap.size w w' := by
  obtain ⟨m, hm⟩ := hx
  refine (Any.strings_Cut Tryd.lays145 (tx l) (tx [10]) m w (by rw [tx_size]; omega) hm).mono ?_
  rintro e w' ⟨rfl, n, rfl⟩
  rw [tx_data, tx_data]
  refine ⟨?_, below_drewN (Below.refl _ _) n⟩
  rcases cut_one 10 l with ⟨h1, h2⟩ | ⟨a, r, h1, h2, h3⟩
  · left; rw [h2]; exact ⟨h1, rfl⟩
  · right; rw [h3]; exact ⟨a, r, h1, h2, rfl⟩

/-- The word and the numbers of a line. -/
def LineRd (w : World) (hw : List UInt8) (r : Option (List Int)) (e : Ending) (w' : World) : Prop :=
  Below w.heap.size w w' ∧ match r with
    | some zs => ∃ A cap, e = .returned (.tuple #[.string (tx hw), .slice A zs.length cap, .bool true]) ∧ OwnSl w' w.heap.size 3 A zs.length (zg zs)
    | none => e = .returned (.tuple #[.string (tx []), .slice none 0 0, .bool false])

set_option maxRecDepth 100000 in
set_option maxHeartbeats 2000000 in
theorem lineRead_any (l : List UInt8) (w : World) (hl : l.length < 1048576) (hx : MaxV w) (hv : LibVars w) :
    Calls Tryd.prog 48 #[.string (tx l)] w (LineRd w (headW l) (readNs (tailW l))) := by
  obtain ⟨i0, hi, hz0, hz1, hz2⟩ := info_parts Tryd.infoInt
  have HV := Lib.hid hv
  have HW : Hid (∀ x ∈ tailW l, x.length ≤ 1048576) := Lib.hid (fun x hx => by
    have := splitL_le 32 l x (by rw [split_ht]; exact List.mem_cons_of_mem _ hx)
    omega)
  have hct : (tailW l).length ≤ 1048576 := by
    have h1 := splitL_len 32 l
    have h2 := List.count_le_length (a := (32 : UInt8)) (l := l)
    rw [split_ht, List.length_cons] at h1
    omega
  clear hv
  go_enter Tryd.func48, Tryd.ntmps48
  go_wp2_with fail
  refine (split_any l w hl hx).mono ?_; rintro e w1 ⟨rfl, S, b1⟩
  have s0 := S 0 (by simp)
  simp only [List.getD_cons_zero, Nat.add_zero] at s0
  obtain ⟨hw, HHW⟩ : ∃ hw, Hid (headW l = hw) := ⟨_, rfl⟩
  obtain ⟨tw, HTW⟩ : ∃ tw, Hid (tailW l = tw) := ⟨_, rfl⟩
  rw [HHW.out] at S s0
  rw [HTW.out] at S HW hct ⊢
  obtain ⟨g, hg⟩ : ∃ g, g = w.heap.size := ⟨_, rfl⟩
  rw [← hg] at S s0 ⊢
  have hgw : w.heap.size ≤ g := by omega
  clear hg hx
  have HV1 := Lib.hid (HV.out.below b1)
  clear HV
  by_cases h0 : tw.length = 0
  · have ht : tw = [] := List.eq_nil_of_length_eq_zero h0
    subst ht
    have HR := Lib.hid (show readNs (tailW l) = some [] by rw [HTW.out]; rfl)
    go_wp2
    refine wp_loop_rounds 1 ?_; rw [rounds_succ]
    go_wp2
    refine bodyPost_ret (v := .tuple #[.string (tx hw), .slice none 0 0, .bool true]) (by simp [results, Tryd.results48, go_sem]) rfl ?_
    rw [HHW.out, HR.out]
    exact ⟨b1, none, 0, rfl, fun h => by simp at h⟩
  · have HS := Lib.hid S
    clear S
    go_wp2
    go_loopw [6, 16] (fun v i wr => ∃ (k : Nat) (zs : List Int), k ≤ tw.length ∧ zs.length = k ∧ i = .int .i64 k ∧ Hid (readNs (tw.take k) = some zs) ∧ wr.ownsRow w1.heap.size 3 1 v k (zs.map (Value.int .i64)) ∧ Below w1.heap.size w1 wr) (fun _ i _ => tw.length - (intOf i).toNat)
    case atStart => exact ⟨0, [], by omega, rfl, rfl, rfl, World.ownsRow_nil _ _ _ _, Below.refl _ _⟩
    case round =>
      obtain ⟨k, zs, hk, hzl, rfl, N, O, K1⟩ := hrel
      have HZ := Lib.hid hzl
      clear hzl
      by_cases hlt : k < tw.length
      · have c0 := cell_under K1 (HS.out (k + 1) (by simp; omega))
        obtain ⟨x, hx⟩ : ∃ x, Hid (x = tw.getD k []) := ⟨_, rfl⟩
        have e1 : (hw :: tw).getD (k + 1) [] = x := by rw [hx.out]; rfl
        rw [e1, Nat.zero_add] at c0
        clear e1
        have HT : Hid (tw.take (k + 1) = tw.take k ++ [x] ∧ tw = tw.take k ++ x :: tw.drop (k + 1)) := by
          have ex : x = tw[k] := by rw [hx.out]; simp [hlt]
          rw [ex]
          exact ⟨List.take_succ_eq_append_getElem hlt, by conv => lhs; rw [← List.take_append_drop k tw, List.drop_eq_getElem_cons hlt]⟩
        have hxl : x.length ≤ 1048576 := by
          have ex : x = tw[k] := by rw [hx.out]; simp [hlt]
          exact HW.out x (by rw [ex]; exact List.getElem_mem _)
        clear hx
        rw [Nat.add_comm k 1] at c0
        go_wp2_with fail
        refine (implNumRead_any (tx x) _ (by rw [tx_size]; omega) (HV1.out.below K1)).mono ?_; rintro e w2 ⟨P, b2⟩
        rw [tx_data] at P
        clear c0
        replace O := ownsRow_below O b2
        replace K1 := K1.trans (b2.mono K1.size)
        clear b2
        rcases P with ⟨n, hn, rfl⟩ | ⟨hn, rfl⟩
        · have N' : Hid (readNs (tw.take (k + 1)) = some (zs ++ [n])) := by
            have e2 := readNs_snoc (tw.take k) x
            rw [N.out, readN_some hn] at e2
            exact Lib.hid ((congrArg readNs HT.out.1).trans e2)
          clear hn N HT
          go_wp2_with (at_builtin; refine wpList_append_own _ rfl _ _ 65 rfl w1.heap.size 3 i0 (.int .i64 0) 1 8 Tryd.underlying65 hi hz0 hz1 hz2 rfl (by decide) _ _ _ rfl (O.alloc _) ⟨w2.heap.size, 0, none⟩ 1 1 [.int .i64 n] rfl rfl ?c1 ?c2 ?c3 ?c4 ?c5 ?_)
          case c1 => exact cell_one_new _ _ _
          case c2 => intro u hu; simp at hu; subst hu; rfl
          case c3 => unfold maxLen; omega
          case c4 => omega
          case c5 => have := K1.size; simp; omega
          · intro v' w4 own4 g4 _
            have hown := ownsRow_block O
            have K4 := (K1.alloc K1.size (.cells #[.int .i64 n] 3)).grown g4 (by have := K1.size; simp; omega) (fun g e => hown g e)
            have O4 : w4.ownsRow w1.heap.size 3 1 v' (k + 1) ((zs ++ [n]).map (Value.int .i64)) := by simpa using own4
            clear own4 g4 O hown
            go_wp2
            go_roundw
            case rel => exact ⟨k + 1, zs ++ [n], by omega, by have := HZ.out; simp; omega, by go_num, N', O4, K4⟩
            case measure => simp [intOf]; omega
        · have HN : Hid (readNs tw = none) := Lib.hid (by rw [HT.out.2]; exact readNs_stop (readN_none hn))
          clear hn N HT
          go_wp2
          refine bodyPost_ret (v := .tuple #[.string (tx []), .slice none 0 0, .bool false]) (by simp [results, Tryd.results48, go_sem]; try rfl) rfl ?_
          rw [HTW.out, HN.out]
          exact ⟨b1.trans (K1.mono b1.size), rfl⟩
      · obtain rfl : k = tw.length := by omega
        have HN : Hid (readNs tw = some zs) := Lib.hid (by have := N.out; rwa [List.take_length] at this)
        clear N
        have hzl := HZ.out
        rw [← hzl] at O
        obtain ⟨A, ca, rfl, h1, h2⟩ := ownSl_of_own (ownsRow_base O b1.size)
        have s1 := cell_under K1 s0
        clear hzl
        go_wp2
        refine bodyPost_ret (v := .tuple #[.string (tx hw), .slice A zs.length ca, .bool true]) (by simp [results, Tryd.results48, go_sem]) rfl ?_
        rw [HHW.out, HTW.out, HN.out]
        exact ⟨b1.trans (K1.mono b1.size), A, ca, rfl, h2⟩

end Go.Proofs.YtjaifbbkfgfdeaaDoor
