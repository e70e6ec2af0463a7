/-
  What impl.NumRead computes, out of the library's contracts for strconv.Atoi and strconv.Itoa: the number in -MaxCost..MaxCost whose text is s, and true; or 0 and false.
-/
import Derived.Test.YtjaifbbkfgfdeaaDoorConv
import Derived.Test.YtjaifbbkfgfdeaaDoorRead
import Derived.Lib.AtoiAllCases
import Derived.Lib.AtoiErrMem
namespace Go.Proofs.YtjaifbbkfgfdeaaDoor
open Go.RowKit Go.Deep

theorem Tryd.gES : Tryd.prog.globalNamed "strconv.ErrSyntax" = some 2 := by kernel_rfl
theorem Tryd.gESType : (Tryd.prog.globals[2]?).map (·.type) = some 46 := by kernel_rfl
theorem Tryd.gER : Tryd.prog.globalNamed "strconv.ErrRange" = some 3 := by kernel_rfl
theorem Tryd.gERType : (Tryd.prog.globals[3]?).map (·.type) = some 46 := by kernel_rfl
theorem Tryd.cellsES : Tryd.prog.cellsOf 132 = 1 := by kernel_rfl
theorem Tryd.cellsStr : Tryd.prog.cellsOf 9 = 1 := by kernel_rfl
theorem star : "*" ++ "errors.errorString" = "*errors.errorString" := by decide
theorem Tryd.rowES (u : TypeId) (h : Tryd.prog.typeName? 3 u = some "*errors.errorString") : u = 130 :=
  typeName_ptr_named (nm := "errors.errorString") (by rw [star]; kernel_rfl) (by kernel_rfl) (by decide) u (by rw [star]; exact h)

/-- What the library's functions ask of the package-level variables that they read. -/
def LibVars (w : World) : Prop :=
  Lib.TabIs Tryd.prog w "internal/strconv.uint64pow10" .u64 Lib.pow10Tab ∧ (∃ p, w.var? Tryd.prog "strconv.ErrRange" = some #[.iface 130 p]) ∧ ∃ p, w.var? Tryd.prog "strconv.ErrSyntax" = some #[.iface 130 p]

theorem libVars_of {w : World} {a b : String × DataW Unit} {r : List (String × DataW Unit)}
    (h : laidMet Tryd.prog (a :: b :: ("internal/strconv.uint64pow10", Rows.laid_internal_strconv_uint64pow10) :: ("strconv.ErrRange", Rows.laid_strconv_ErrRange) :: ("strconv.ErrSyntax", Rows.laid_strconv_ErrSyntax) :: r) w) : LibVars w := by
  obtain ⟨a0, s0, hv0, -, -, -⟩ := laid_sentinel h.tail.tail.tail Tryd.gER Tryd.gERType Tryd.underlying46 Tryd.rowES Tryd.underlying130 Tryd.underlying132 rfl rfl Tryd.underlying9 Tryd.cellsES Tryd.cellsStr
  obtain ⟨a1, s1, hv1, -, -, -⟩ := laid_sentinel h.tail.tail.tail.tail Tryd.gES Tryd.gESType Tryd.underlying46 Tryd.rowES Tryd.underlying130 Tryd.underlying132 rfl rfl Tryd.underlying9 Tryd.cellsES Tryd.cellsStr
  exact ⟨pow10_of h, ⟨_, hv0⟩, ⟨_, hv1⟩⟩

theorem var_below {w w' : World} {nm : String} {g : Nat} {cs : Array Value} (hg : Tryd.prog.globalNamed nm = some g) (h : w.var? Tryd.prog nm = some cs) (hb : Below w.heap.size w w') : w'.var? Tryd.prog nm = some cs := by
  have h' := h
  unfold World.var? at h
  rw [hg] at h
  have hlt : g < w.heap.size := by
    rcases Nat.lt_or_ge g w.heap.size with hh | hh
    · exact hh
    · rw [Option.bind_some, Array.getElem?_eq_none hh] at h; simp at h
  rw [← h']
  unfold World.var?
  rw [hg, Option.bind_some, Option.bind_some, hb.block _ hlt]

theorem LibVars.below {w w' : World} (h : LibVars w) (hb : Below w.heap.size w w') : LibVars w' := by
  obtain ⟨h1, ⟨p, h2⟩, ⟨q, h3⟩⟩ := h
  exact ⟨tab_below h1 hb, ⟨p, var_below Tryd.gER h2 hb⟩, ⟨q, var_below Tryd.gES h3 hb⟩⟩

def nval (a : Nat) (l : List UInt8) : Nat := l.foldl (fun a c => a * 10 + (c.toNat - 48)) a
theorem nval_ge : ∀ (l : List UInt8) (a : Nat), a ≤ nval a l
  | [], a => Nat.le_refl _
  | c :: r, a => by
    have := nval_ge r (a * 10 + (c.toNat - 48))
    show a ≤ nval (a * 10 + (c.toNat - 48)) r
    omega
theorem parse_digits : ∀ (l : List UInt8) (a : Nat), (∀ c ∈ l, isDig c) → nval a l < 18446744073709551616 → Lib.parseUint10 a l = .ok (nval a l)
  | [], a, _, _ => rfl
  | c :: r, a, h, hv => by
    obtain ⟨g1, g2⟩ := h c (by simp)
    have hv' : nval (a * 10 + (c.toNat - 48)) r < 18446744073709551616 := hv
    have hge := nval_ge r (a * 10 + (c.toNat - 48))
    rw [Lib.parseUint10, if_pos (by omega), if_neg (by omega), if_neg (by omega)]
    exact parse_digits r _ (fun x hx => h x (by simp [hx])) hv'
theorem nval_dval : ∀ (l : List UInt8) (a : Nat), (∀ c ∈ l, isDig c) → (nval a l : Int) = l.foldl (fun a c => 10 * a + ((c.toNat : Int) - 48)) (a : Int)
  | [], a, _ => rfl
  | c :: r, a, h => by
    obtain ⟨g1, g2⟩ := h c (by simp)
    have := nval_dval r (a * 10 + (c.toNat - 48)) (fun x hx => h x (by simp [hx]))
    show (nval (a * 10 + (c.toNat - 48)) r : Int) = _
    rw [this]
    simp only [List.foldl_cons]
    congr 1
    omega

theorem parseMag_dec (u : Nat) (h : u ≤ 1000000000000) : Lib.parseMag (Lib.decDigits u) = .ok u := by
  obtain ⟨h1, h2, h3⟩ := decDigits_all u
  have e : nval 0 (Lib.decDigits u) = u := by
    have := nval_dval (Lib.decDigits u) 0 h1
    have h2' : (Lib.decDigits u).foldl (fun a c => 10 * a + ((c.toNat : Int) - 48)) 0 = u := h2
    rw [show ((0 : Nat) : Int) = 0 from rfl, h2'] at this
    omega
  unfold Lib.parseMag
  rw [if_neg h3, parse_digits _ 0 h1 (by omega), e]

/-- Atoi reads the text of a number as that number. -/
theorem atoi_reads {m : Int} {l : List UInt8} (h : ReadsAs m l) : Lib.atoiAll l = .ok m := by
  obtain ⟨r0, r1, rfl⟩ := h
  have hp := parseMag_dec m.natAbs (by omega)
  by_cases a : m < 0
  · rw [itoa_neg a]
    unfold Lib.atoiAll
    have e45 : ((45 : UInt8).toNat = 45) := rfl
    simp only [e45, or_true, if_true, hp]
    rw [if_neg (by omega), if_neg (by omega)]
    congr 1
    omega
  · rw [itoa_pos a]
    obtain ⟨h1, _, h3⟩ := decDigits_all m.natAbs
    cases hl : Lib.decDigits m.natAbs with
    | nil => exact absurd hl h3
    | cons c r =>
      obtain ⟨g1, g2⟩ := h1 c (by rw [hl]; simp)
      rw [hl] at hp
      unfold Lib.atoiAll
      simp only
      rw [if_neg (by omega), hp]
      simp only
      rw [if_neg (by omega), if_neg (by omega), if_neg (by omega)]
      congr 1
      omega

theorem no_reads {l : List UInt8} (h : ∀ m, Lib.atoiAll l ≠ .ok m) : ∀ n, ¬ ReadsAs n l := fun n hn => h n (atoi_reads hn)

set_option maxHeartbeats 1000000 in
theorem implNumRead_any (s : ByteArray) (w : World) (hs : s.size ≤ 1048576) (hv : LibVars w) :
    Calls Tryd.prog 61 #[.string s] w fun e w' => ReadPost s.data.toList e ∧ Below w.heap.size w w' := by
  have HV := Lib.hid hv
  clear hv
  cases h : Lib.atoiAll s.data.toList with
  | ok v =>
    have H := Lib.hid h
    obtain ⟨v0, v1⟩ := Lib.atoiAll_bounds h
    clear h
    go_enter Tryd.func61, Tryd.ntmps61
    go_wp2_with fail
    refine Calls.mono (Any.strconv_Atoi_ok Tryd.laysC172 s (by omega) v H.out w) ?_
    rintro e w1 ⟨rfl, hw⟩
    have b1 : Below w.heap.size w w1 := by
      rcases hw with rfl | ⟨t, rfl⟩
      · exact Below.refl _ _
      · exact Lib.bytesWorld_below _ _ _
    clear hw
    by_cases hr : -1000000000000 ≤ v ∧ v ≤ 1000000000000
    · obtain ⟨hr0, hr1⟩ := hr
      go_wp2_with fail
      refine (implNumText_any v w1 (by omega) (by omega) (HV.out.below b1).1).mono ?_
      rintro e w2 ⟨rfl, b2⟩
      have b12 := b1.trans (b2.mono b1.size)
      by_cases heq : Lib.itoa v = s.toList
      · have hb : (Lib.itoa v == s.toList) = true := by rw [heq]; simp
        have HQ : Hid (Lib.itoa v = s.data.toList) := by rw [← ByteArray.toList_eq]; exact heq
        clear heq
        go_wp2
        go_ret2
        exact ⟨.inl ⟨v, ⟨hr0, hr1, HQ.out⟩, rfl⟩, b12⟩
      · have hb : (Lib.itoa v == s.toList) = false := by rw [beq_eq_false_iff_ne]; exact heq
        have HQ : Hid (¬ Lib.itoa v = s.data.toList) := by rw [← ByteArray.toList_eq]; exact heq
        clear heq
        go_wp2
        go_ret2
        exact ⟨.inr ⟨fun n hn => HQ.out (by have e := H.out.symm.trans (atoi_reads hn); injection e with e; rw [e]; exact hn.2.2), rfl⟩, b12⟩
    · go_wp2
      all_goals
        go_ret2
        exact ⟨.inr ⟨fun n hn => by have e := H.out.symm.trans (atoi_reads hn); injection e with e; have h1 := hn.1; have h2 := hn.2.1; omega, rfl⟩, b1⟩
  | range =>
    obtain ⟨_, ⟨p, hp⟩, _⟩ := HV.out
    have HP := Lib.hid hp
    have HN : Hid (∀ n, ¬ ReadsAs n s.data.toList) := no_reads (fun m e => by rw [h] at e; cases e)
    have H := Lib.hid h
    clear h hp
    go_enter Tryd.func61, Tryd.ntmps61
    go_wp2_with fail
    refine Calls.mono (Any.strconv_Atoi_range_var Tryd.laysC172 s (by omega) H.out _ p w HP.out) ?_
    rintro e w1 ⟨N, rfl, -, -, b1⟩
    go_wp2
    go_ret2
    exact ⟨.inr ⟨HN.out, rfl⟩, b1⟩
  | _ =>
    obtain ⟨_, _, ⟨p, hp⟩⟩ := HV.out
    have HP := Lib.hid hp
    have HN : Hid (∀ n, ¬ ReadsAs n s.data.toList) := no_reads (fun m e => by rw [h] at e; cases e)
    have H := Lib.hid h
    clear h hp
    go_enter Tryd.func61, Tryd.ntmps61
    go_wp2_with fail
    refine Calls.mono (Any.strconv_Atoi_syntax_var Tryd.laysC172 s (by omega) H.out _ p w HP.out) ?_
    rintro e w1 ⟨N, rfl, -, -, b1⟩
    go_wp2
    go_ret2
    exact ⟨.inr ⟨HN.out, rfl⟩, b1⟩

end Go.Proofs.YtjaifbbkfgfdeaaDoor
