/-
  What spec.l03Line computes: the numbers of a line.
-/
import Derived.Test.YtjaifbbkfgfdeaaDoorParts
import Derived.Test.YtjaifbbkfgfdeaaDoorLineMath
namespace Go.Proofs.YtjaifbbkfgfdeaaDoor
open Go.RowKit Go.Deep

/-- A slice of texts. -/
def StrsAt (w : World) (g off : Nat) (l : List (List UInt8)) : Prop := ∀ i, i < l.length → w.cell? ⟨g, off + i, none⟩ = some (.string (tx (l.getD i [])))
theorem StrsAt.below {w w' : World} {g off : Nat} {l : List (List UInt8)} (h : StrsAt w g off l) (hb : Below w.heap.size w w') : StrsAt w' g off l := fun i hi => cell_under hb (h i hi)
theorem strs_of_own {w : World} {base : Nat} {v : Value} {l : List (List UInt8)} (h : w.ownsRow base 9 1 v l.length (strsV l)) (hp : 0 < l.length) : ∃ g cap, v = .slice (some ⟨g, 0, none⟩) l.length cap ∧ base ≤ g ∧ l.length ≤ cap ∧ StrsAt w g 0 l := by
  rcases h.2 with ⟨h1, h2⟩ | ⟨g, cap, cur, h1, h2, h3, h4, h5, h6, h7⟩
  · omega
  · refine ⟨g, cap, h1, h2, h4, fun i hi => ?_⟩
    have e : (cur.toList.take (l.length * 1))[i]? = (strsV l)[i]? := by rw [h7]
    rw [List.getElem?_take, if_pos (by omega), Array.getElem?_toList] at e
    rw [cell_of_block h3, Nat.zero_add, e]
    simp [strsV, hi]

/-- The numbers of a line, or none, as a pair that was made behind w. -/
def LineMade (w : World) (r : Option (List Int)) (e : Ending) (w' : World) : Prop :=
  ∃ A cap, Below w.heap.size w w' ∧ match r with
    | some zs => e = .returned (.tuple #[.slice A zs.length cap, .bool true]) ∧ OwnSl w' w.heap.size 3 A zs.length (zg zs)
    | none => e = .returned (.tuple #[.slice A 0 cap, .bool false])

set_option maxHeartbeats 2000000 in
theorem l03Line_any (line word : List UInt8) (many : Nat) (w : World) (hl : line.length < 1048576) (hm : many ≤ 10) :
    Calls Tryd.prog 32 #[.string (tx line), .string (tx word), .int .i64 many] w (LineMade w (lineIs word many line)) := by
  obtain ⟨i0, hi, hz0, hz1, hz2⟩ := info_parts Tryd.infoInt
  go_enter Tryd.func32, Tryd.ntmps32
  go_wp2_with fail
  refine (l03Parts_any (tx line) 32 _ (by rw [tx_size]; omega)).mono ?_; rintro e w1 ⟨v, rfl, O, K⟩
  rw [tx_data, split_ht] at O
  have hlen := splitL_len 32 line
  rw [split_ht, List.length_cons] at hlen
  have hcnt := List.count_le_length (a := (32 : UInt8)) (l := line)
  obtain ⟨g, cap, rfl, hg, hcap, S⟩ := strs_of_own O (by simp)
  have s0 := S 0 (by simp)
  have HS := Lib.hid S
  clear S O
  simp only [List.getD_cons_zero, Nat.add_zero] at s0
  have hR : lineIs word many line = if headW line = word ∧ (tailW line).length = many then readNs (tailW line) else none := rfl
  have HW : Hid (∀ x ∈ tailW line, x.length ≤ 1048576) := fun x hx => by
    have := splitL_le 32 line x (by rw [split_ht]; exact List.mem_cons_of_mem _ hx)
    omega
  generalize headW line = hw at *
  generalize tailW line = tw at *
  obtain ⟨L, hL⟩ : ∃ L, (hw :: tw).length = L := ⟨_, rfl⟩
  rw [hL] at hcap ⊢
  have HL : Hid (L = tw.length + 1) := hL.symm
  have hL0 : 0 < L := by rw [← hL]; simp
  have hL1 : L ≤ 1048576 := by rw [← hL, List.length_cons]; omega
  have HR := Lib.hid hR
  clear hR hlen hcnt hL
  obtain ⟨M, hM⟩ : ∃ M : Nat, M = many + 1 := ⟨_, rfl⟩
  have HM := Lib.hid hM
  have hwr : IntKind.i64.wrap ((many : Int) + 1) = (M : Int) := by rw [hM, show (many : Int) + 1 = ((many + 1 : Nat) : Int) by omega]; exact IntWalk.i64_in _ (by omega)
  clear hM
  by_cases heq : hw = word
  · subst heq
    by_cases hcn : L = M
    · replace HR : Hid (lineIs hw many line = readNs tw) := Lib.hid (HR.out.trans (if_pos ⟨rfl, by have := HL.out; have := HM.out; omega⟩))
      subst hcn
      clear hm
      go_wp2
      have K0 := below1 w1 (.cells #[] 3)
      have O0 : (w1.alloc (.cells #[] 3)).ownsRow w1.heap.size 3 1 (.slice (some ⟨w1.heap.size, 0, none⟩) 0 0) 0 [] :=
        ⟨rfl, .inr ⟨w1.heap.size, 0, #[], rfl, Nat.le_refl _, heap_alloc_new w1 (.cells #[] 3), Nat.le_refl _, Nat.zero_le _, rfl, rfl⟩⟩
      clear s0
      go_loopw [9, 10] (fun v i wr => ∃ (j : Nat) (zs : List Int), 1 ≤ j ∧ j ≤ L ∧ i = .int .i64 j ∧ Hid (readNs (tw.take (j - 1)) = some zs) ∧ zs.length + 1 = j ∧ wr.ownsRow w1.heap.size 3 1 v zs.length (zs.map (Value.int .i64)) ∧ Below w1.heap.size w1 wr) (fun _ i _ => L - (intOf i).toNat)
      case atStart => exact ⟨1, [], by omega, by omega, rfl, rfl, rfl, O0, K0⟩
      case round =>
        clear K0 O0
        obtain ⟨j, zs, hj1, hj, rfl, N, hzl, O, K1⟩ := hrel
        have HZ := Lib.hid hzl
        have hz4 : zs.length ≤ 1048576 := by omega
        clear hzl
        by_cases hlt : j < L
        · have c0 := cell_under K1 (HS.out j (by rw [List.length_cons, ← HL.out]; exact hlt))
          obtain ⟨x, hx⟩ : ∃ x, Hid (x = tw.getD (j - 1) []) := ⟨_, rfl⟩
          have e1 : (hw :: tw).getD j [] = x := by
            rw [hx.out]
            obtain ⟨q, rfl⟩ : ∃ q, j = q + 1 := ⟨j - 1, by omega⟩
            rfl
          rw [e1, Nat.zero_add] at c0
          clear e1
          have HT : Hid (tw.take (j - 1 + 1) = tw.take (j - 1) ++ [x] ∧ tw = tw.take (j - 1) ++ x :: tw.drop (j - 1 + 1)) := by
            have hq : j - 1 < tw.length := by have := HL.out; omega
            have ex : x = tw[j - 1] := by rw [hx.out]; simp [hq]
            rw [ex]
            exact ⟨List.take_succ_eq_append_getElem hq, by conv => lhs; rw [← List.take_append_drop (j - 1) tw, List.drop_eq_getElem_cons hq]⟩
          have hxl : x.length ≤ 1048576 := by
            have hq : j - 1 < tw.length := by have := HL.out; omega
            have ex : x = tw[j - 1] := by rw [hx.out]; simp [hq]
            exact HW.out x (by rw [ex]; exact List.getElem_mem _)
          clear hx
          go_wp2_with fail
          refine (specNumRead_any (tx x) _ (by rw [tx_size]; omega)).mono ?_; rintro e w2 ⟨P, b2⟩
          rw [tx_data] at P
          clear c0
          replace O := ownsRow_below O b2
          replace K1 := K1.trans (b2.mono K1.size)
          clear b2
          rcases P with ⟨n, hn, rfl⟩ | ⟨hn, rfl⟩
          · have N' : Hid (readNs (tw.take (j + 1 - 1)) = some (zs ++ [n])) := by
              have e1 : tw.take (j + 1 - 1) = tw.take (j - 1) ++ [x] := by rw [show j + 1 - 1 = j - 1 + 1 from by omega]; exact HT.out.1
              have e2 := readNs_snoc (tw.take (j - 1)) x
              rw [N.out, readN_some hn] at e2
              exact Lib.hid ((congrArg readNs e1).trans e2)
            clear hn N HT
            go_wp2_with (at_builtin; refine wpList_append_own _ rfl _ _ 65 rfl w1.heap.size 3 i0 (.int .i64 0) 1 8 Tryd.underlying65 hi hz0 hz1 hz2 rfl (by decide) _ _ _ rfl (O.alloc _) ⟨w2.heap.size, 0, none⟩ 1 1 [.int .i64 n] rfl rfl ?c1 ?c2 ?c3 ?c4 ?c5 ?_)
            case c1 => exact cell_one_new _ _ _
            case c2 => intro u hu; simp at hu; subst hu; rfl
            case c3 => unfold maxLen; omega
            case c4 => omega
            case c5 => have := K1.size; simp; omega
            · intro v' w4 own4 g4 _
              have hown := ownsRow_block O
              have K4 := (K1.alloc K1.size (.cells #[.int .i64 n] 3)).grown g4 (by have := K1.size; simp; omega) (fun g e => hown g e)
              have O4 : w4.ownsRow w1.heap.size 3 1 v' (zs ++ [n]).length ((zs ++ [n]).map (Value.int .i64)) := by simpa using own4
              clear own4 g4 O hown
              go_wp2
              go_roundw
              case rel => exact ⟨j + 1, zs ++ [n], by omega, by omega, by go_num, N', by have := HZ.out; simp; omega, O4, K4⟩
              case measure => simp [intOf]; omega
          · have HN : Hid (lineIs hw many line = none) := Lib.hid (HR.out.trans (by rw [HT.out.2]; exact readNs_stop (readN_none hn)))
            clear hn N HT
            go_wp2
            go_ret2
            rw [HN.out]
            exact ⟨_, _, K.trans ((K1.alloc K1.size _).mono K.size), rfl⟩
        · obtain rfl : j = L := by omega
          have HN : Hid (lineIs hw many line = some zs) := Lib.hid (HR.out.trans (by have := N.out; rwa [HL.out, Nat.add_sub_cancel, List.take_length] at this))
          clear N
          obtain ⟨A, ca, rfl, h1, h2⟩ := ownSl_of_own (ownsRow_base O K.size)
          go_wp2
          go_ret2
          rw [HN.out]
          exact ⟨A, ca, K.trans (K1.mono K.size), rfl, h2⟩
    · replace HR : Hid (lineIs hw many line = none) := Lib.hid (HR.out.trans (if_neg (fun h => hcn (by have := HL.out; have := HM.out; omega))))
      have hd : ((L : Int) != (M : Int)) = true := by rw [bne_iff_ne]; omega
      clear hm hcn
      go_wp2
      go_ret2
      rw [HR.out]
      exact ⟨_, _, K.alloc K.size _, rfl⟩
  · replace HR : Hid (lineIs word many line = none) := Lib.hid (HR.out.trans (if_neg (fun h => heq h.1)))
    have hne : (tx hw).toList ≠ (tx word).toList := by rw [ByteArray.toList_eq, ByteArray.toList_eq, tx_data, tx_data]; exact heq
    go_wp2
    go_ret2
    rw [HR.out]
    exact ⟨_, _, K.alloc K.size _, rfl⟩

end Go.Proofs.YtjaifbbkfgfdeaaDoor
