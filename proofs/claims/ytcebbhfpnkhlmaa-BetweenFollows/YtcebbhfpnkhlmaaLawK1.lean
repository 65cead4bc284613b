/- The laws BetweenFollows, BetweenLeasts, BetweenMosts. -/
import Derived.Test.YtcebbhfpnkhlmaaKSpec
import Derived.Test.YtcebbhfpnkhlmaaWK1
namespace Go.Proofs.Ytcebbhfpnkhlmaa
open Go.RowKit

set_option maxHeartbeats 1000000 in
theorem BetweenFollows_with (hF : KFollowsOk 11) (n : Int) (f : List Bool) (A : Option Addr) (c : Nat) (g : List Bool) (A2 : Option Addr) (c2 : Nat) (w : World) (hm : f.length ≤ maxLen) (hr : Row w A (boolsC f)) (hm2 : g.length ≤ maxLen) (hr2 : Row w A2 (boolsC g)) (hX : Laid w) :
    Calls Try.prog 3 #[.int .i64 n, .slice A f.length c, .slice A2 g.length c2] w fun e w' => e = .returned (.bool true) ∧ Below w.heap.size w w' := by
  have key := hF n f A c g A2 c2 w hm hr hm2 hr2 hX
  have hcode := fun W => tablesCode_any n f g A A2 c c2 0 W hm hm2
  by_cases hc : codeK n f.length g.length 0 = 0
  · rw [hc, show (((0 : Int) == 0) && folB (atB f) (atB g) f.length) = folB (atB f) (atB g) f.length from rfl] at key
    rw [hc] at hcode
    obtain ⟨n, rfl, hn, hl, hl2, _⟩ := codeK_zero hc
    have h16 := one_le_16 hn
    have kF := fun W (hb : Below w.heap.size w W) => refFollows_any f g A A2 c c2 W (hr.below hb) (hr2.below hb) (by omega) (by omega)
    generalize folB (atB f) (atB g) f.length = x at *
    clear hc hl hl2
    go_enter Try.func3, Try.ntmps3
    go_wp2_with fail
    refine key.mono ?_
    rintro e w1 ⟨rfl, hb1⟩
    clear key
    go_wp2_with fail
    refine (hcode _).mono ?_
    rintro e w2 ⟨rfl, rfl⟩
    go_wp2_with fail
    refine (kF _ hb1).mono ?_
    rintro e w3 ⟨rfl, rfl⟩
    cases x
    all_goals
      go_wp2
      go_ret
      exact ⟨rfl, hb1⟩
  · rw [show (codeK n f.length g.length 0 == 0) = false from by simpa using hc, Bool.false_and] at key
    generalize codeK n f.length g.length 0 = k at *
    have hk2 : (k != 0) = true := by simpa using hc
    clear hc
    go_enter Try.func3, Try.ntmps3
    go_wp2_with fail
    refine key.mono ?_
    rintro e w1 ⟨rfl, hb1⟩
    clear key
    go_wp2_with fail
    refine (hcode _).mono ?_
    rintro e w2 ⟨rfl, rfl⟩
    go_wp2
    go_ret
    exact ⟨ret_bool (by simp), hb1⟩

set_option maxHeartbeats 1000000 in
theorem BetweenLeasts_with (hF : KLeastOk 14) (n : Int) (f : List Bool) (A : Option Addr) (c keep : Nat) (w : World) (hk : keep < 4294967296) (hm : f.length ≤ maxLen) (hr : Row w A (boolsC f)) (hX : Laid w) :
    Calls Try.prog 4 #[.int .i64 n, .slice A f.length c, .int .u32 keep] w fun e w' => e = .returned (.bool true) ∧ Below w.heap.size w w' := by
  have key := hF n f A c keep w hk hm hr hX
  have hcode := fun W => tablesCode_any n f f A A c c keep W hm hm
  by_cases hc : codeK n f.length f.length keep = 0
  · rw [hc, if_pos rfl] at key
    rw [hc] at hcode
    obtain ⟨n, rfl, hn, hl, hl2, hkn⟩ := codeK_zero hc
    have h16 : f.length ≤ 16 := by have := one_le_16 hn; omega
    clear hc hl hl2
    go_enter Try.func4, Try.ntmps4
    go_wp2_with fail
    refine key.mono ?_
    rintro e w1 ⟨A2, c2, l, rfl, hL, hrow, hb1⟩
    have hLl : l.length = f.length := by rw [hL]; unfold leastL; simp
    have HL := Lib.hid hL
    have HLl := Lib.hid hLl
    have hq : ((l.length : Int) != (f.length : Int)) = false := by rw [hLl]; simp
    clear key hL hLl
    go_wp2_with fail
    refine (hcode _).mono ?_
    rintro e w2 ⟨rfl, rfl⟩
    go_wp2
    go_loopw [10] (fun sv wr => ∃ s : Nat, sv = .int .i64 s ∧ s ≤ f.length ∧ w1 = wr) (fun sv _ => f.length - (intOf sv).toNat)
    case atStart => exact ⟨0, rfl, Nat.zero_le _, rfl⟩
    case round =>
      obtain ⟨s, rfl, hs, rfl⟩ := hrel
      by_cases hlt : s < f.length
      · have hsl : s < l.length := by rw [HLl.out]; exact hlt
        obtain ⟨b, off, rfl, d1⟩ := atB_cell hrow hsl
        have hat : atB l s = someP (atB f) keep s f.length := by rw [HL.out]; unfold leastL; rw [atB_tabB _ hlt]
        rw [hat] at d1
        have kS := Some_any f A c keep s w1 (hr.below hb1) h16 hk (by omega)
        generalize someP (atB f) keep s f.length = x at *
        generalize allP (atB f) keep s f.length = y at *
        clear hat
        cases x
        all_goals
          go_wp2_with fail
          refine kS.mono ?_
          rintro e w3 ⟨rfl, rfl⟩
          go_wp2
          go_roundw
          case rel => exact ⟨s + 1, by go_num, by omega, trivial⟩
          case measure => simp [intOf]; omega
      · go_wp2
        go_ret
        exact ⟨rfl, hb1⟩
  · rw [if_neg hc] at key
    generalize codeK n f.length f.length keep = k at *
    have hk2 : (k != 0) = true := by simpa using hc
    clear hc
    go_enter Try.func4, Try.ntmps4
    go_wp2_with fail
    refine key.mono ?_
    rintro e w1 ⟨A2, c2, l, rfl, rfl, hrow, hb1⟩
    clear key
    go_wp2_with fail
    refine (hcode _).mono ?_
    rintro e w2 ⟨rfl, rfl⟩
    go_wp2
    go_ret
    exact ⟨ret_bool (by simp), hb1⟩

set_option maxHeartbeats 1000000 in
theorem BetweenMosts_with (hF : KMostOk 16) (n : Int) (f : List Bool) (A : Option Addr) (c keep : Nat) (w : World) (hk : keep < 4294967296) (hm : f.length ≤ maxLen) (hr : Row w A (boolsC f)) (hX : Laid w) :
    Calls Try.prog 5 #[.int .i64 n, .slice A f.length c, .int .u32 keep] w fun e w' => e = .returned (.bool true) ∧ Below w.heap.size w w' := by
  have key := hF n f A c keep w hk hm hr hX
  have hcode := fun W => tablesCode_any n f f A A c c keep W hm hm
  by_cases hc : codeK n f.length f.length keep = 0
  · rw [hc, if_pos rfl] at key
    rw [hc] at hcode
    obtain ⟨n, rfl, hn, hl, hl2, hkn⟩ := codeK_zero hc
    have h16 : f.length ≤ 16 := by have := one_le_16 hn; omega
    clear hc hl hl2
    go_enter Try.func5, Try.ntmps5
    go_wp2_with fail
    refine key.mono ?_
    rintro e w1 ⟨A2, c2, l, rfl, hL, hrow, hb1⟩
    have hLl : l.length = f.length := by rw [hL]; unfold mostL; simp
    have HL := Lib.hid hL
    have HLl := Lib.hid hLl
    have hq : ((l.length : Int) != (f.length : Int)) = false := by rw [hLl]; simp
    clear key hL hLl
    go_wp2_with fail
    refine (hcode _).mono ?_
    rintro e w2 ⟨rfl, rfl⟩
    go_wp2
    go_loopw [10] (fun sv wr => ∃ s : Nat, sv = .int .i64 s ∧ s ≤ f.length ∧ w1 = wr) (fun sv _ => f.length - (intOf sv).toNat)
    case atStart => exact ⟨0, rfl, Nat.zero_le _, rfl⟩
    case round =>
      obtain ⟨s, rfl, hs, rfl⟩ := hrel
      by_cases hlt : s < f.length
      · have hsl : s < l.length := by rw [HLl.out]; exact hlt
        obtain ⟨b, off, rfl, d1⟩ := atB_cell hrow hsl
        have hat : atB l s = allP (atB f) keep s f.length := by rw [HL.out]; unfold mostL; rw [atB_tabB _ hlt]
        rw [hat] at d1
        have kS := Some_any f A c keep s w1 (hr.below hb1) h16 hk (by omega)
        generalize someP (atB f) keep s f.length = x at *
        generalize allP (atB f) keep s f.length = y at *
        clear hat
        cases y
        all_goals
          go_wp2_with fail
          refine kS.mono ?_
          rintro e w3 ⟨rfl, rfl⟩
          go_wp2
          go_roundw
          case rel => exact ⟨s + 1, by go_num, by omega, trivial⟩
          case measure => simp [intOf]; omega
      · go_wp2
        go_ret
        exact ⟨rfl, hb1⟩
  · rw [if_neg hc] at key
    generalize codeK n f.length f.length keep = k at *
    have hk2 : (k != 0) = true := by simpa using hc
    clear hc
    go_enter Try.func5, Try.ntmps5
    go_wp2_with fail
    refine key.mono ?_
    rintro e w1 ⟨A2, c2, l, rfl, rfl, hrow, hb1⟩
    clear key
    go_wp2_with fail
    refine (hcode _).mono ?_
    rintro e w2 ⟨rfl, rfl⟩
    go_wp2
    go_ret
    exact ⟨ret_bool (by simp), hb1⟩

end Go.Proofs.Ytcebbhfpnkhlmaa
