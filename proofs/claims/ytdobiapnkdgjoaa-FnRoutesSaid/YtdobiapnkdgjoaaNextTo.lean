/-
  The next node on a shortest route: what impl.Net.nextTo computes.
-/
import Derived.Test.YtdobiapnkdgjoaaRouteIm
import Derived.Test.YtdobiapnkdgjoaaDistTop
namespace Go.Proofs.Ytdobiapnkdgjoaa
open Go.RowKit Go.Deep

def fit (rs : List A3) (d : List Int) (u : Int) (i : Nat) : Bool := (arg rs i).1 == u && (decide (zg d (arg rs i).2.1.toNat ≠ -1) && ((arg rs i).2.2 + zg d (arg rs i).2.1.toNat == zg d u.toNat))
def nxt (rs : List A3) (d : List Int) (u : Int) : Int := match (List.range rs.length).find? (fit rs d u) with
  | some i => (arg rs i).2.1
  | none => -1
theorem nxt_hit {rs : List A3} {d : List Int} {u : Int} {k : Nat} (hk : k < rs.length) (h : fit rs d u k = true) (hno : ∀ i, i < k → fit rs d u i = false) : nxt rs d u = (arg rs k).2.1 := by
  have e : (List.range rs.length).find? (fit rs d u) = some k := by
    rw [List.find?_range_eq_some]
    exact ⟨h, List.mem_range.2 hk, fun i hi => by rw [hno i hi]; rfl⟩
  unfold nxt; rw [e]
theorem nxt_none {rs : List A3} {d : List Int} {u : Int} (hno : ∀ i, i < rs.length → fit rs d u i = false) : nxt rs d u = -1 := by
  have e : (List.range rs.length).find? (fit rs d u) = none := by
    rw [List.find?_range_eq_none]
    exact fun i hi => by rw [hno i hi]; rfl
  unfold nxt; rw [e]
theorem nxt_cases (rs : List A3) (d : List Int) (u : Int) : nxt rs d u = -1 ∧ (∀ i, i < rs.length → fit rs d u i = false) ∨ ∃ i, i < rs.length ∧ fit rs d u i = true ∧ nxt rs d u = (arg rs i).2.1 := by
  unfold nxt
  cases h : (List.range rs.length).find? (fit rs d u) with
  | none => exact .inl ⟨rfl, fun i hi => by rw [List.find?_range_eq_none] at h; simpa using h i hi⟩
  | some i => exact .inr ⟨i, List.mem_range.1 (List.mem_of_find?_eq_some h), List.find?_some h, rfl⟩

def DBound (n : Nat) (d : List Int) : Prop := d.length = n ∧ ∀ i, i < n → zg d i = -1 ∨ 0 ≤ zg d i ∧ zg d i ≤ 200000

set_option maxRecDepth 100000 in
set_option maxHeartbeats 4000000 in
theorem nextTo_any (A B : Option Addr) (ca cb n : Nat) (rs : List A3) (D : Option Addr) (cd : Nat) (d : List Int) (U : Nat) (w : World) (hn : n ≤ 20) (hm : rs.length ≤ 70) (hr : ArcsIn n rs) (hd : DBound n d) (hU : U < n) (hb : IsArcs w B rs) (hi : IsInts w D d) :
    Calls Try.prog 107 #[.agg #[.slice A n ca, .slice B rs.length cb], .int .i64 (U : Int), .slice D n cd] w fun e w' => e = .returned (.int .i64 (nxt rs d U)) ∧ Below w.heap.size w w' := by
  obtain ⟨hdl, hdb⟩ := hd
  have K := below1 w (.cells #[.slice A n ca, .slice B rs.length cb] 27)
  obtain ⟨zb, zo, rfl, -, -⟩ := hi.at_ (k := U) (by omega)
  have HDL := Lib.hid hdl
  have HI := Lib.hid (fun (W : World) (hb' : Below w.heap.size w W) (i : Nat) (h : i < n) => by
    obtain ⟨b, o, e, -, c⟩ := (hi.below hb').at_ (k := i) (by omega)
    cases e
    exact c)
  clear hdl hi
  have hUn : (U : Int) < n := by omega
  go_enter Try.func107, Try.ntmps107
  go_wp2
  go_loopw [12] (fun i wr => ∃ k : Nat, k ≤ rs.length ∧ i = .int .i64 k ∧ Below w.heap.size w wr ∧ ∀ j, j < k → fit rs d U j = false) (fun i _ => rs.length - (intOf i).toNat)
  case atStart => exact ⟨0, by omega, rfl, K, fun j hj => by omega⟩
  case round =>
    clear K
    obtain ⟨k, hk, rfl, K, hall⟩ := hrel
    have HALL := Lib.hid hall
    clear hall
    by_cases hlt : k < rs.length
    · obtain ⟨b, off, rfl, -, c0, c1, c2⟩ := (hb.below K).at_ hlt
      obtain ⟨⟨f0, f1⟩, ⟨t0, t1⟩, -, l0, l1⟩ := hr _ (arg_mem hlt)
      obtain ⟨F, T, L, hF, hT, hL⟩ : ∃ (F T : Nat) (L : Int), (arg rs k).1 = F ∧ (arg rs k).2.1 = T ∧ (arg rs k).2.2 = L := ⟨(arg rs k).1.toNat, (arg rs k).2.1.toNat, _, by omega, by omega, rfl⟩
      have HFIT := Lib.hid (show fit rs d U k = ((F : Int) == (U : Int) && (decide (zg d T ≠ -1) && (L + zg d T == zg d U))) by unfold fit; rw [hF, hT, hL]; rfl)
      have HT := Lib.hid hT
      rw [hF] at c0 f0 f1
      rw [hT] at c1 t0 t1
      rw [hL] at c2 l0 l1
      clear hF hT hL
      have hTn : T < n := by omega
      have hb1 := below1 wr (.cells #[.int .i64 (F : Int), .int .i64 (T : Int), .int .i64 L] 92)
      have K1 := K.trans (hb1.mono K.size)
      have zT := HI.out _ K1 T hTn
      have zU := HI.out _ K1 U hU
      obtain ⟨a0, a1, a2⟩ := arc_new wr F T L 92
      have hd : decide ((k : Int) < rs.length) = true := decide_eq_true (by omega)
      have hd' : decide (k < rs.length) = true := decide_eq_true (by omega)
      have hkn : (k : Int) < rs.length := by omega
      cases e1 : ((F : Int) == (U : Int)) with
      | false =>
        have HH := Lib.hid (show fit rs d U k = false by rw [HFIT.out, e1]; simp)
        clear HFIT
        go_wp2_with fail
        go_quiet (fail)
        go_wp2
        go_roundw
        case rel => exact ⟨k + 1, by omega, by go_num, below_drewN K1 _, fun j hj => by
          rcases Nat.lt_or_ge j k with h | h
          · exact HALL.out j h
          · obtain rfl : j = k := by omega
            exact HH.out⟩
        case measure => simp [intOf]; omega
      | true =>
        by_cases e2 : zg d T = -1
        · have e2' : (zg d T != -1) = false := by simp [e2]
          rw [e2] at zT
          have HH := Lib.hid (show fit rs d U k = false by rw [HFIT.out, e2]; simp)
          clear HFIT
          go_wp2_with fail
          go_quiet (fail)
          go_wp2
          go_roundw
          case rel => exact ⟨k + 1, by omega, by go_num, below_drewN K1 _, fun j hj => by
            rcases Nat.lt_or_ge j k with h | h
            · exact HALL.out j h
            · obtain rfl : j = k := by omega
              exact HH.out⟩
          case measure => simp [intOf]; omega
        · have e2' : (zg d T != -1) = true := by simp [e2]
          have e2'' : decide (zg d T ≠ -1) = true := decide_eq_true e2
          have hT := (hdb T hTn).resolve_left e2
          obtain ⟨x, hx⟩ : ∃ x, x = zg d T := ⟨_, rfl⟩
          rw [← hx] at e2 e2' e2'' zT HFIT hT
          obtain ⟨y, hy⟩ : ∃ y, y = zg d U := ⟨_, rfl⟩
          rw [← hy] at zU HFIT
          have hwr : IntKind.i64.wrap (L + x) = L + x := IntWalk.i64_in _ (by omega)
          clear hx hy
          cases e3 : (L + x == y) with
          | false =>
            have HH := Lib.hid (show fit rs d U k = false by rw [HFIT.out, e3]; simp)
            clear HFIT
            go_wp2_with fail
            go_quiet (fail)
            go_wp2
            go_roundw
            case rel => exact ⟨k + 1, by omega, by go_num, below_drewN K1 _, fun j hj => by
              rcases Nat.lt_or_ge j k with h | h
              · exact HALL.out j h
              · obtain rfl : j = k := by omega
                exact HH.out⟩
            case measure => simp [intOf]; omega
          | true =>
            have HH := Lib.hid (nxt_hit hlt (show fit rs d U k = true by rw [HFIT.out, e1, e2'', e3]; rfl) HALL.out)
            clear HFIT
            go_wp2_with fail
            go_quiet (fail)
            go_wp2
            go_ret
            exact ⟨retI (by rw [HH.out, HT.out]), below_drewN K1 _⟩
    · obtain rfl : k = rs.length := by omega
      have HH := Lib.hid (nxt_none HALL.out)
      have hd : decide ((rs.length : Int) < rs.length) = false := decide_eq_false (by omega)
      have hd' : decide (rs.length < rs.length) = false := decide_eq_false (by omega)
      go_wp2
      go_ret
      exact ⟨retI HH.out.symm, K⟩

end Go.Proofs.Ytdobiapnkdgjoaa
