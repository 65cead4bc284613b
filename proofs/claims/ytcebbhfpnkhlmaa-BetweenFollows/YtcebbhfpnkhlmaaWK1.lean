/- syllogistref.Follows, Some; law.tablesCode. -/
import Derived.Test.YtcebbhfpnkhlmaaBt
import Derived.Test.YtcebbhfpnkhlmaaWT1
import Derived.Test.YtcebbhfpnkhlmaaW1
namespace Go.Proofs.Ytcebbhfpnkhlmaa
open Go.RowKit

set_option maxHeartbeats 1000000 in
theorem refFollows_any (f g : List Bool) (A A2 : Option Addr) (c c2 : Nat) (w : World) (hr : Row w A (boolsC f)) (hr2 : Row w A2 (boolsC g)) (hl : f.length ≤ g.length) (hm : g.length ≤ 1000000) :
    Calls Try.prog 13 #[.slice A f.length c, .slice A2 g.length c2] w fun e w' => e = .returned (.bool (folB (atB f) (atB g) f.length)) ∧ w = w' := by
  go_enter Try.func13, Try.ntmps13
  go_wp2
  go_loopw [5] (fun sv wr => ∃ s : Nat, sv = .int .i64 s ∧ s ≤ f.length ∧ folB (atB f) (atB g) s = true ∧ w = wr) (fun sv _ => f.length - (intOf sv).toNat)
  case atStart => exact ⟨0, rfl, Nat.zero_le _, rfl, rfl⟩
  case round =>
    obtain ⟨s, rfl, hs, hp, rfl⟩ := hrel
    have HP := Lib.hid hp
    clear hp
    by_cases hlt : s < f.length
    · obtain ⟨b, off, rfl, hc⟩ := hr.at (k := s) (by simpa using hlt)
      obtain ⟨b', off', rfl, hc'⟩ := hr2.at (k := s) (by simp; omega)
      have d1 := hc _ _ (boolsC_at (atB_get hlt))
      have d2 := hc' _ _ (boolsC_at (atB_get (show s < g.length by omega)))
      have HN := Lib.hid (fol_succ (atB f) (atB g) s)
      have HX := Lib.hid (fun h1 h2 => fol_no (F := atB f) (G := atB g) hlt h1 h2)
      rw [HP.out, Bool.true_and] at HN
      clear hc hc'
      generalize atB f s = x at *
      generalize atB g s = y at *
      cases x
      · go_wp2
        go_roundw
        case rel => exact ⟨s + 1, by go_num, by omega, by rw [HN.out]; rfl, trivial⟩
        case measure => simp [intOf]; omega
      · cases y
        · go_wp2
          go_ret
          exact ⟨ret_bool (HX.out (by first | exact trivial | rfl) (by first | exact trivial | rfl)).symm, rfl⟩
        · go_wp2
          go_roundw
          case rel => exact ⟨s + 1, by go_num, by omega, by rw [HN.out]; rfl, trivial⟩
          case measure => simp [intOf]; omega
    · obtain rfl : s = f.length := by omega
      go_wp2
      go_ret
      exact ⟨ret_bool HP.out.symm, rfl⟩

set_option maxHeartbeats 1000000 in
theorem Some_any (f : List Bool) (A : Option Addr) (c keep s : Nat) (w : World) (hr : Row w A (boolsC f)) (hl : f.length ≤ 16) (hk : keep < 4294967296) (hs : s < 4294967296) :
    Calls Try.prog 15 #[.slice A f.length c, .int .u32 keep, .int .u32 s] w fun e w' => e = .returned (.tuple #[.bool (someP (atB f) keep s f.length), .bool (allP (atB f) keep s f.length)]) ∧ w = w' := by
  have hs2 := u32_and_nat s keep hs hk
  go_enter Try.func15, Try.ntmps15
  go_wp2
  go_loopw [8, 9, 10] (fun xv yv tv wr => ∃ t : Nat, tv = .int .i64 t ∧ t ≤ f.length ∧ (∃ x, x = someP (atB f) keep s t ∧ xv = .bool x) ∧ (∃ y, y = allP (atB f) keep s t ∧ yv = .bool y) ∧ w = wr) (fun _ _ tv _ => f.length - (intOf tv).toNat)
  case atStart => exact ⟨0, rfl, Nat.zero_le _, ⟨_, rfl, rfl⟩, ⟨_, rfl, rfl⟩, rfl⟩
  case round =>
    obtain ⟨t, rfl, ht, ⟨x, hx, rfl⟩, ⟨y, hy, rfl⟩, rfl⟩ := hrel
    have HX := Lib.hid hx
    have HY := Lib.hid hy
    clear hx hy
    by_cases hlt : t < f.length
    · obtain ⟨b, off, rfl, hc⟩ := hr.at (k := t) (by simpa using hlt)
      have d1 := hc _ _ (boolsC_at (atB_get hlt))
      have H1 := Lib.hid (some_succ (atB f) keep s t)
      have H2 := Lib.hid (all_succ (atB f) keep s t)
      rw [← HX.out] at H1
      rw [← HY.out] at H2
      have ht2 := u32_and_nat t keep (by omega) hk
      have hq : (((t &&& keep : Nat) : Int) == ((s &&& keep : Nat) : Int)) = agB keep s t := by
        unfold agB
        rw [Bool.eq_iff_iff, beq_iff_eq, beq_iff_eq]
        omega
      clear hc
      generalize atB f t = z at *
      generalize agB keep s t = a at *
      cases a
      · go_wp2
        go_roundw
        case rel => exact ⟨t + 1, by go_num, by omega, ⟨x, by rw [H1.out]; simp, rfl⟩, ⟨y, by rw [H2.out]; simp, rfl⟩, trivial⟩
        case measure => simp [intOf]; omega
      · cases x <;> cases y <;> cases z
        all_goals
          go_wp2
          go_roundw
          case rel => exact ⟨t + 1, by go_num, by omega, ⟨_, by rw [H1.out]; rfl, rfl⟩, ⟨_, by rw [H2.out]; rfl, rfl⟩, trivial⟩
          case measure => simp [intOf]; omega
    · obtain rfl : t = f.length := by omega
      go_wp2
      go_ret2
      exact ⟨by rw [HX.out, HY.out]; rfl, rfl⟩

theorem codeK_first {n : Int} {lf lg keep : Nat} (h : codeT n lf ≠ 0) : codeK n lf lg keep = codeT n lf := by unfold codeK; rw [if_pos h]
theorem codeK_second {n : Int} {lf lg keep : Nat} (h : codeT n lf = 0) (h2 : codeT n lg ≠ 0) : codeK n lf lg keep = codeT n lg := by unfold codeK; rw [if_neg (by simp [h]), if_pos h2]
theorem codeK_ok {n : Nat} {lf lg keep : Nat} (h : codeT n lf = 0) (h2 : codeT n lg = 0) (h3 : keep < one n) : codeK n lf lg keep = 0 := by unfold codeK; rw [if_neg (by simp [h]), if_neg (by simp [h2]), if_pos (by simpa using h3)]
theorem codeK_bad {n : Nat} {lf lg keep : Nat} (h : codeT n lf = 0) (h2 : codeT n lg = 0) (h3 : ¬ keep < one n) : codeK n lf lg keep = 4 := by unfold codeK; rw [if_neg (by simp [h]), if_neg (by simp [h2]), if_neg (by simpa using h3)]

set_option maxHeartbeats 1000000 in
theorem tablesCode_any (n : Int) (f g : List Bool) (A A2 : Option Addr) (c c2 keep : Nat) (w : World) (hl : f.length ≤ maxLen) (hl2 : g.length ≤ maxLen) :
    Calls Try.prog 12 #[.int .i64 n, .slice A f.length c, .slice A2 g.length c2, .int .u32 keep] w fun e w' => e = .returned (.int .i64 (codeK n f.length g.length keep)) ∧ w = w' := by
  by_cases h1 : codeT n f.length = 0
  · by_cases h2 : codeT n g.length = 0
    · obtain ⟨n, rfl, hn, hlen⟩ := codeT_zero h1
      clear hlen
      have H1 := Lib.hid h1
      have H2 := Lib.hid h2
      by_cases h3 : keep < one n
      · have HC := Lib.hid (codeK_ok h1 h2 h3)
        clear h1 h2
        go_enter Try.func12, Try.ntmps12
        go_wp2_with fail
        refine (TruthCheck_any n f A c _ hl).mono ?_
        rintro e w1 ⟨rfl, rfl⟩
        rw [H1.out]
        go_wp2_with fail
        refine (TruthCheck_any n g A2 c2 _ hl2).mono ?_
        rintro e w1 ⟨rfl, rfl⟩
        rw [H2.out]
        go_wp2_with fail
        refine (Fits_any n keep (by omega) _).mono ?_
        rintro e w1 ⟨rfl, rfl⟩
        rw [decide_eq_true h3]
        clear h3
        go_wp2
        go_ret
        exact ⟨ret_int HC.out.symm, rfl⟩
      · have HC := Lib.hid (codeK_bad h1 h2 h3)
        clear h1 h2
        go_enter Try.func12, Try.ntmps12
        go_wp2_with fail
        refine (TruthCheck_any n f A c _ hl).mono ?_
        rintro e w1 ⟨rfl, rfl⟩
        rw [H1.out]
        go_wp2_with fail
        refine (TruthCheck_any n g A2 c2 _ hl2).mono ?_
        rintro e w1 ⟨rfl, rfl⟩
        rw [H2.out]
        go_wp2_with fail
        refine (Fits_any n keep (by omega) _).mono ?_
        rintro e w1 ⟨rfl, rfl⟩
        rw [decide_eq_false h3]
        clear h3
        go_wp2
        go_ret
        exact ⟨ret_int HC.out.symm, rfl⟩
    · have HC := Lib.hid (codeK_second (keep := keep) h1 h2)
      have H1 := Lib.hid h1
      have c2' := TruthCheck_any n g A2 c2 w hl2
      rw [HC.out]
      generalize codeT n g.length = k at *
      have hk : (k == 0) = false := by simpa using h2
      clear h1 h2
      go_enter Try.func12, Try.ntmps12
      go_wp2_with fail
      refine (TruthCheck_any n f A c _ hl).mono ?_
      rintro e w1 ⟨rfl, rfl⟩
      rw [H1.out]
      go_wp2_with fail
      refine c2'.mono ?_
      rintro e w1 ⟨rfl, rfl⟩
      go_wp2
      go_ret
      exact ⟨rfl, rfl⟩
  · have HC := Lib.hid (codeK_first (lg := g.length) (keep := keep) h1)
    have c1 := TruthCheck_any n f A c w hl
    rw [HC.out]
    generalize codeT n f.length = k at *
    have hk : (k == 0) = false := by simpa using h1
    clear h1
    go_enter Try.func12, Try.ntmps12
    go_wp2_with fail
    refine c1.mono ?_
    rintro e w1 ⟨rfl, rfl⟩
    go_wp2
    go_ret
    exact ⟨rfl, rfl⟩

end Go.Proofs.Ytcebbhfpnkhlmaa
