/-
  What impl.Ups, impl.Downs, spec.Ups and spec.Downs give.
-/
import Derived.Test.YtagaildnfbegkabClimbedIm
namespace Go.Proofs.Ytagaildnfbegkab
open Go.RowKit Go.Deep Go.Maps

theorem intsMade_low {w w1 w' : World} {zs : List Int} {e : Ending} (K : Below w.heap.size w w1) (h : IntsMade w1 zs e w') : IntsMade w zs e w' := by
  obtain ⟨A, cap, h1, h2, h3, h4⟩ := h
  exact ⟨A, cap, h1, h2, (fun hp => by obtain ⟨g, off, e, hg, h⟩ := h3 hp; exact ⟨g, off, e, Nat.le_trans K.size hg, h⟩), K.trans (h4.mono K.size)⟩

set_option maxRecDepth 100000 in
theorem implUps_any (A B : Option Addr) (ca cb : Nat) (zs : List Int) (rs : List A4) (s : Int) (w : World) (hn : zs.length ≤ 1048576) (hm : rs.length ≤ 1048576) (ha : IsInts w A zs) (hb : IsHs w B rs) :
    Calls Try.prog 37 #[.agg #[.slice A zs.length ca, .slice B rs.length cb], .int .i64 s] w fun e w' => ∃ d, ClR zs rs true s d ∧ NilMade w d e w' := by
  have X := Pair.new w 30 (.slice A zs.length ca) (.slice B rs.length cb)
  have K := below1 w (.cells #[.slice A zs.length ca, .slice B rs.length cb] 30)
  obtain ⟨x0, x1, -, -⟩ := X.cells
  clear X
  go_enter Try.func37, Try.ntmps37
  go_wp2_with fail
  refine (climbed_any true s A B ca cb zs rs _ hn hm (ha.below K) (hb.below K)).mono ?_; rintro e w' ⟨d, hd, hN, hM⟩
  have HD := Lib.hid hd
  have HN := Lib.hid hN
  have HM := intsMade_low K hM
  obtain ⟨A', cap, rfl, h2, h3, h4⟩ := HM
  clear hd hM hN
  go_wp2
  go_ret
  exact ⟨d, HD.out, HN.out, A', cap, rfl, h2, h3, h4⟩

set_option maxRecDepth 100000 in
theorem implDowns_any (A B : Option Addr) (ca cb : Nat) (zs : List Int) (rs : List A4) (s : Int) (w : World) (hn : zs.length ≤ 1048576) (hm : rs.length ≤ 1048576) (ha : IsInts w A zs) (hb : IsHs w B rs) :
    Calls Try.prog 38 #[.agg #[.slice A zs.length ca, .slice B rs.length cb], .int .i64 s] w fun e w' => ∃ d, ClR zs rs false s d ∧ NilMade w d e w' := by
  have X := Pair.new w 30 (.slice A zs.length ca) (.slice B rs.length cb)
  have K := below1 w (.cells #[.slice A zs.length ca, .slice B rs.length cb] 30)
  obtain ⟨x0, x1, -, -⟩ := X.cells
  clear X
  go_enter Try.func38, Try.ntmps38
  go_wp2_with fail
  refine (climbed_any false s A B ca cb zs rs _ hn hm (ha.below K) (hb.below K)).mono ?_; rintro e w' ⟨d, hd, hN, hM⟩
  have HD := Lib.hid hd
  have HN := Lib.hid hN
  have HM := intsMade_low K hM
  obtain ⟨A', cap, rfl, h2, h3, h4⟩ := HM
  clear hd hM hN
  go_wp2
  go_ret
  exact ⟨d, HD.out, HN.out, A', cap, rfl, h2, h3, h4⟩

set_option maxRecDepth 100000 in
theorem specUps_any (A B : Option Addr) (ca cb : Nat) (zs : List Int) (rs : List A4) (s : Int) (w : World) (hn : zs.length ≤ 1048576) (hm : rs.length ≤ 1048576) (ha : IsInts w A zs) (hb : IsHs w B rs) :
    Calls Try.prog 34 #[.agg #[.slice A zs.length ca, .slice B rs.length cb], .int .i64 s] w fun e w' => ∃ d, ClR zs rs true s d ∧ IntsMade w d e w' := by
  have X := Pair.new w 30 (.slice A zs.length ca) (.slice B rs.length cb)
  have K := below1 w (.cells #[.slice A zs.length ca, .slice B rs.length cb] 30)
  obtain ⟨x0, x1, -, -⟩ := X.cells
  clear X
  go_enter Try.func34, Try.ntmps34
  go_wp2_with fail
  refine (l09Climb_any A B ca cb zs rs s true _ hn hm (ha.below K) (hb.below K)).mono ?_; rintro e w' ⟨d, hd, hM⟩
  have HD := Lib.hid hd
  have HM := intsMade_low K hM
  obtain ⟨A', cap, rfl, h2, h3, h4⟩ := HM
  clear hd hM
  go_wp2
  go_ret
  exact ⟨d, HD.out, A', cap, rfl, h2, h3, h4⟩

set_option maxRecDepth 100000 in
theorem specDowns_any (A B : Option Addr) (ca cb : Nat) (zs : List Int) (rs : List A4) (s : Int) (w : World) (hn : zs.length ≤ 1048576) (hm : rs.length ≤ 1048576) (ha : IsInts w A zs) (hb : IsHs w B rs) :
    Calls Try.prog 35 #[.agg #[.slice A zs.length ca, .slice B rs.length cb], .int .i64 s] w fun e w' => ∃ d, ClR zs rs false s d ∧ IntsMade w d e w' := by
  have X := Pair.new w 30 (.slice A zs.length ca) (.slice B rs.length cb)
  have K := below1 w (.cells #[.slice A zs.length ca, .slice B rs.length cb] 30)
  obtain ⟨x0, x1, -, -⟩ := X.cells
  clear X
  go_enter Try.func35, Try.ntmps35
  go_wp2_with fail
  refine (l09Climb_any A B ca cb zs rs s false _ hn hm (ha.below K) (hb.below K)).mono ?_; rintro e w' ⟨d, hd, hM⟩
  have HD := Lib.hid hd
  have HM := intsMade_low K hM
  obtain ⟨A', cap, rfl, h2, h3, h4⟩ := HM
  clear hd hM
  go_wp2
  go_ret
  exact ⟨d, HD.out, A', cap, rfl, h2, h3, h4⟩
end Go.Proofs.Ytagaildnfbegkab
