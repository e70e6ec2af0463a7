/-
  The walk of spec.NumRead.
-/
import Derived.Test.YtjaifbbkfgfdeaaDoorRead
import Derived.Deep.DeepCutAuto
import Derived.Lib.Strings
namespace Go.Proofs.YtjaifbbkfgfdeaaDoor
open Go.RowKit Go.Deep

theorem head_of {s : ByteArray} (h : 0 < s.size) : s.data.toList.head? = some s[0] := by
  rw [List.head?_eq_getElem?, Array.getElem?_toList]
  exact Array.getElem?_eq_getElem (by simpa using h)
theorem head_none {s : ByteArray} (h : ¬ 0 < s.size) : s.data.toList.head? = none := by
  have : s.data.toList.length = 0 := by
    rw [Array.length_toList]
    have : s.data.size = s.size := rfl
    omega
  rw [List.eq_nil_of_length_eq_zero this]; rfl
theorem byte_eq {c : UInt8} : ((c.toNat : Int) == 45) = decide (some c = some (45 : UInt8)) := by
  by_cases h : c = 45
  · subst h; rfl
  · rw [decide_eq_false (by simpa using h), beq_eq_false_iff_ne]
    intro e
    exact h (UInt8.toNat_inj.1 (by have : (45 : UInt8).toNat = 45 := rfl; omega))

theorem tail_of {s : ByteArray} (h : s.data.toList.head? = some 45) : s.data.toList = 45 :: (s.extract 1 s.size).data.toList := by
  have e : (s.extract 1 s.size).data.toList = s.data.toList.drop 1 := by
    rw [ByteArray.data_extract]
    simp
    rw [List.take_of_length_le (by simp)]
  rw [e]
  cases hl : s.data.toList with
  | nil => rw [hl] at h; simp at h
  | cons c r => rw [hl] at h; simp at h; subst h; rfl

theorem take_snoc (s : ByteArray) (k : Nat) (h : k < s.size) : s.data.toList.take (k + 1) = s.data.toList.take k ++ [s[k]] := by
  rw [List.take_succ_eq_append_getElem (by simpa using h)]; rfl
theorem mem_get (s : ByteArray) (k : Nat) (h : k < s.size) : s[k] ∈ s.data.toList := by
  have : s[k] = s.data.toList[k]'(by simpa using h) := rfl
  rw [this]; exact List.getElem_mem _

theorem neg_ne {s d : ByteArray} (h : DigitsOf s.data.toList d.data.toList true) : d.toList ≠ s.toList := by
  rw [ByteArray.toList_eq, ByteArray.toList_eq]
  rcases h with ⟨_, e⟩ | ⟨e, _⟩
  · intro h; rw [h] at e
    have := congrArg List.length e
    simp at this
  · cases e
theorem pos_eq {s d : ByteArray} (h : DigitsOf s.data.toList d.data.toList false) : d.toList = s.toList := by
  rw [ByteArray.toList_eq, ByteArray.toList_eq]
  rcases h with ⟨e, _⟩ | ⟨_, e, _⟩
  · cases e
  · exact e

theorem no_read_neg {sl dl : List UInt8} {n : Int} (hd : DigitsOf sl dl true) (hn : n = dval dl) (h : ¬ ReadsAs (-n) sl) : ∀ m, ¬ ReadsAs m sl := by
  intro m hm
  have e := (digits_of_reads hm hd).2.1
  rw [if_pos rfl, ← hn] at e
  rw [e] at h; exact h hm
theorem no_read_pos {sl dl : List UInt8} {n : Int} (hd : DigitsOf sl dl false) (hn : n = dval dl) (h : ¬ ReadsAs n sl) : ∀ m, ¬ ReadsAs m sl := by
  intro m hm
  have e := (digits_of_reads hm hd).2.1
  simp at e
  rw [← hn] at e
  rw [e] at h; exact h hm

set_option maxHeartbeats 1000000 in
theorem specNumRead_any (s : ByteArray) (w : World) (hs : s.size ≤ 1048576) :
    Calls Tryd.prog 49 #[.string s] w fun e w' => ReadPost s.data.toList e ∧ Below w.heap.size w w' := by
  obtain ⟨neg, hneg⟩ : ∃ b : Bool, Hid (b = decide (s.data.toList.head? = some 45)) := ⟨_, rfl⟩
  go_enter Tryd.func49, Tryd.ntmps49
  go_upto_region 3 with (fail)
  go_cut [15] (fun t wc => t = .bool neg ∧ wc = w)
  case first =>
    by_cases h0 : 0 < s.size
    · have e := hneg.out
      rw [head_of h0, ← byte_eq] at e
      have E := Lib.hid e
      clear e
      go_wp2
      all_goals
        go_meet
        case rel => exact ⟨by rw [E.out], rfl⟩
    · have e := hneg.out
      rw [head_none h0] at e
      have E := Lib.hid e
      clear e
      go_wp2
      go_meet
      case rel => exact ⟨by rw [E.out]; rfl, rfl⟩
  case rest =>
    obtain ⟨rfl, rfl⟩ := hcut
    go_upto_if 15 with (fail)
    go_cut [5] (fun t wc' => ∃ d : ByteArray, t = .string d ∧ DigitsOf s.data.toList d.data.toList neg ∧ d.size ≤ s.size ∧ wc' = wc)
    case first =>
      cases neg with
      | true =>
        have e : s.data.toList.head? = some 45 := of_decide_eq_true hneg.out.symm
        have h0 : 0 < s.size := by
          rcases Nat.eq_zero_or_pos s.size with h | h
          · rw [head_none (by omega)] at e; cases e
          · exact h
        have H : Hid (DigitsOf s.data.toList (s.extract 1 s.size).data.toList true) := .inl ⟨rfl, tail_of e⟩
        clear e
        go_wp2
        go_meet
        case rel => exact ⟨_, rfl, H.out, by simp, rfl⟩
      | false =>
        have e : s.data.toList.head? ≠ some 45 := of_decide_eq_false hneg.out.symm
        have H : Hid (DigitsOf s.data.toList s.data.toList false) := .inr ⟨rfl, rfl, e⟩
        clear e
        go_wp2
        go_meet
        case rel => exact ⟨_, rfl, H.out, Nat.le_refl _, rfl⟩
    case rest =>
      obtain ⟨d, rfl, hd, hds, rfl⟩ := hcut
      have hdl : d.data.toList.length = d.size := by rw [Array.length_toList]; rfl
      have HDL := Lib.hid hdl
      clear hdl
      by_cases hl : 1 ≤ d.size ∧ d.size ≤ 13
      · obtain ⟨hl1, hl2⟩ := hl
        go_wp2_with fail
        refine (between_yes _ _ _ _ (by omega) (by omega)).mono ?_; rintro e w' ⟨rfl, rfl⟩
        go_wp2
        go_loop [4, 6] (fun n i => ∃ k : Nat, k ≤ d.size ∧ i = .int .i64 k ∧ n = .int .i64 (dval (d.data.toList.take k)) ∧ ∀ c ∈ d.data.toList.take k, isDig c) (fun _ i => d.size - (intOf i).toNat)
        case atStart => exact ⟨0, by omega, rfl, rfl, by simp⟩
        case round =>
          obtain ⟨k, hk, rfl, rfl, hall⟩ := hrel
          obtain ⟨v0, v1⟩ := dval_bd _ hall (by rw [List.length_take]; omega)
          by_cases hlt : k < d.size
          · by_cases hdig : isDig d[k]
            · have hsn : Hid (dval (d.data.toList.take (k + 1)) = 10 * dval (d.data.toList.take k) + ((d[k].toNat : Int) - 48)) := by rw [take_snoc d k hlt, dval_snoc]; trivial
              have hall' : Hid (∀ c ∈ d.data.toList.take (k + 1), isDig c) := by
                rw [take_snoc d k hlt]
                intro c hc
                rcases List.mem_append.1 hc with hc | hc
                · exact hall c hc
                · rw [List.mem_singleton] at hc; subst hc; exact hdig
              obtain ⟨g1, g2⟩ := hdig
              clear hall
              go_wp2_with fail
              refine (between_yes _ _ _ _ (by omega) (by omega)).mono ?_; rintro e w' ⟨rfl, rfl⟩
              go_wp2
              go_round
              case rel => exact ⟨k + 1, by omega, by go_num, by rw [hsn.out], hall'.out⟩
              case measure => simp [intOf]; omega
            · clear hall
              have hb255 : (d[k].toNat : Int) ≤ 255 := by have := UInt8.toNat_lt d[k]; omega
              have hb0 : 0 ≤ (d[k].toNat : Int) := by omega
              go_wp2_with fail
              refine (between_no _ _ _ _ (by exact hdig)).mono ?_; rintro e w' ⟨rfl, rfl⟩
              go_wp2
              go_ret2
              refine ⟨.inr ⟨fun n hn => ?_, rfl⟩, Below.refl _ _⟩
              exact hdig ((digits_of_reads hn hd).2.2.2.2 _ (mem_get d k hlt))
          · have ht : Hid (d.data.toList.take k = d.data.toList) := List.take_of_length_le (by rw [HDL.out]; omega)
            rw [ht.out] at v0 v1 hall ⊢
            have HA := Lib.hid hall
            clear hall
            obtain ⟨n, HN⟩ : ∃ n, Hid (n = dval d.data.toList) := ⟨_, rfl⟩
            rw [← HN.out] at v0 v1 ⊢
            cases neg with
            | true =>
              have hne : (d.toList == s.toList) = false := by
                rw [beq_eq_false_iff_ne]
                exact neg_ne hd
              go_wp2_with fail
              refine (specNumText_any (-n) _ (by omega) (by omega)).mono ?_; rintro e w1 ⟨rfl, b1⟩
              go_wp2_with fail
              · have he : Lib.itoa (-n) = s.data.toList := by rw [← ByteArray.toList_eq]; assumption
                have HE := Lib.hid he
                clear he
                by_cases hrg : -1000000000000 ≤ (-n) ∧ (-n) ≤ 1000000000000
                · refine (between_yes _ _ _ _ (by omega) (by omega)).mono ?_; rintro e w' ⟨rfl, rfl⟩
                  go_wp2
                  go_ret2
                  exact ⟨.inl ⟨(-n), ⟨hrg.1, hrg.2, HE.out⟩, rfl⟩, b1⟩
                · refine (between_no _ _ _ _ (by omega)).mono ?_; rintro e w' ⟨rfl, rfl⟩
                  go_wp2
                  go_ret2
                  exact ⟨.inr ⟨no_read_neg hd HN.out (fun h => hrg ⟨h.1, h.2.1⟩), rfl⟩, b1⟩
              · have hne2 : ¬ Lib.itoa (-n) = s.data.toList := by rw [← ByteArray.toList_eq]; assumption
                go_ret2
                exact ⟨.inr ⟨no_read_neg hd HN.out (fun h => hne2 h.2.2), rfl⟩, b1⟩
            | false =>
              have hne : (d.toList == s.toList) = true := by
                rw [pos_eq hd]; simp
              go_wp2_with fail
              refine (specNumText_any n _ (by omega) (by omega)).mono ?_; rintro e w1 ⟨rfl, b1⟩
              go_wp2_with fail
              · have he : Lib.itoa n = s.data.toList := by rw [← ByteArray.toList_eq]; assumption
                have HE := Lib.hid he
                clear he
                by_cases hrg : -1000000000000 ≤ n ∧ n ≤ 1000000000000
                · refine (between_yes _ _ _ _ (by omega) (by omega)).mono ?_; rintro e w' ⟨rfl, rfl⟩
                  go_wp2
                  go_ret2
                  exact ⟨.inl ⟨n, ⟨hrg.1, hrg.2, HE.out⟩, rfl⟩, b1⟩
                · refine (between_no _ _ _ _ (by omega)).mono ?_; rintro e w' ⟨rfl, rfl⟩
                  go_wp2
                  go_ret2
                  exact ⟨.inr ⟨no_read_pos hd HN.out (fun h => hrg ⟨h.1, h.2.1⟩), rfl⟩, b1⟩
              · have hne2 : ¬ Lib.itoa n = s.data.toList := by rw [← ByteArray.toList_eq]; assumption
                go_ret2
                exact ⟨.inr ⟨no_read_pos hd HN.out (fun h => hne2 h.2.2), rfl⟩, b1⟩
      · go_wp2_with fail
        refine (between_no _ _ _ _ (by omega)).mono ?_; rintro e w' ⟨rfl, rfl⟩
        go_wp2
        go_ret2
        refine ⟨.inr ⟨fun n hn => ?_, rfl⟩, Below.refl _ _⟩
        obtain ⟨_, _, l1, l2, _⟩ := digits_of_reads hn hd
        rw [HDL.out] at l1 l2
        omega

end Go.Proofs.YtjaifbbkfgfdeaaDoor
